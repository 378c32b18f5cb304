/-
  gamelaw.NimGrundy, walked.
-/
import Derived.Test.YtphnjedoghopcaaQ32
import Derived.Deep.DeepCutAuto
namespace Go.Proofs.Ytphnjedoghopcaa
open Go.RowKit
attribute [local go_sem ↓] Go.wp_at_zero Go.wp_at_succ

/-- What Grundy answers, in one form. -/
theorem GrEnd.form {s : ByteArray} {n : Int} {w w' : World} {e : Ending} (h : GrEnd s n w e w') (hc : codeB s = true) : ∃ (go : Option Addr) (gl gc : Nat) (E : Int), e = .returned (.tuple #[.slice go gl gc, .int .i64 E]) ∧ (heapB n = false → E = 4 ∧ gl = 0) ∧ (heapB n = true → E = 0 ∧ gl = n.toNat + 1 ∧ isIs w' w'.heap.size go gc (natI (grL (digs (dig s)) (n.toNat + 1)))) := by
  cases hh : heapB n with
  | false => exact ⟨none, 0, 0, 4, h.range hc hh, fun _ => ⟨rfl, rfl⟩, (fun h => by cases h)⟩
  | true =>
    obtain ⟨g, he, hI⟩ := h.out hc hh
    exact ⟨_, _, _, 0, he, (fun h => by cases h), fun _ => ⟨rfl, rfl, hI⟩⟩
/-- What Win answers, in one form. -/
structure WiF (s : ByteArray) (r : List Int) (w' : World) (b : Bool) (i : Int) (lo : Option Addr) (ll lc : Nat) (E : Int) : Prop where
  range : ¬ (r.length ≤ 20 ∧ r.all heapB = true) → b = false ∧ i = 0 ∧ ll = 0 ∧ E = 4
  lost : ∀ hs, r = natI hs → (hs.length ≤ 20 ∧ ∀ n ∈ hs, n ≤ 400) → winO (digs (dig s)) hs = none → b = false ∧ i = 0 ∧ ll = 0 ∧ E = 0
  won : ∀ hs j x, r = natI hs → (hs.length ≤ 20 ∧ ∀ n ∈ hs, n ≤ 400) → winO (digs (dig s)) hs = some (j, x) → b = true ∧ i = (j : Int) ∧ ll = x.length ∧ E = 0 ∧ isIs w' w'.heap.size lo lc (natI x)
theorem WiF.up {s : ByteArray} {r : List Int} {w w' : World} {b : Bool} {i : Int} {lo : Option Addr} {ll lc : Nat} {E : Int} (h : WiF s r w b i lo ll lc E) (hb : Below w.heap.size w w') : WiF s r w' b i lo ll lc E :=
  ⟨h.range, h.lost, fun hs j x h1 h2 h3 => by obtain ⟨a, b, c, d, e⟩ := h.won hs j x h1 h2 h3; exact ⟨a, b, c, d, e.up hb⟩⟩
theorem WiEnd.form {s : ByteArray} {r : List Int} {w w' : World} {e : Ending} (h : WiEnd s r w e w') (hc : codeB s = true) : ∃ (b : Bool) (i : Int) (lo : Option Addr) (ll lc : Nat) (E : Int), e = .returned (.tuple #[.bool b, .agg #[.int .i64 i, .slice lo ll lc], .int .i64 E]) ∧ WiF s r w' b i lo ll lc E := by
  by_cases hok : r.length ≤ 20 ∧ r.all heapB = true
  · obtain ⟨hr, h400⟩ := heaps_nat hok.2
    obtain ⟨hs, hhs⟩ : ∃ hs, hs = r.map Int.toNat := ⟨_, rfl⟩
    rw [← hhs] at hr h400
    have hl : hs.length ≤ 20 := by have := congrArg List.length hr; rw [natI_len] at this; omega
    cases hw : winO (digs (dig s)) hs with
    | none =>
      refine ⟨false, 0, none, 0, 0, 0, h.lost hs hc hr ⟨hl, h400⟩ hw, fun h => absurd hok h, fun _ _ _ _ => ⟨rfl, rfl, rfl, rfl⟩, fun hs2 j x e2 _ h2 => ?_⟩
      obtain rfl : hs2 = hs := natI_inj (e2.symm.trans hr)
      rw [hw] at h2; cases h2
    | some p =>
      obtain ⟨j, x⟩ := p
      obtain ⟨ao, cap, he, hI⟩ := h.won hs j x hc hr ⟨hl, h400⟩ hw
      refine ⟨true, (j : Int), ao, x.length, cap, 0, he, fun h => absurd hok h, fun hs2 e2 _ h2 => ?_, fun hs2 j2 x2 e2 _ h2 => ?_⟩
      · obtain rfl : hs2 = hs := natI_inj (e2.symm.trans hr)
        rw [hw] at h2; cases h2
      · obtain rfl : hs2 = hs := natI_inj (e2.symm.trans hr)
        rw [hw] at h2; cases h2
        exact ⟨rfl, rfl, rfl, rfl, hI⟩
  · exact ⟨false, 0, none, 0, 0, 4, h.range hc hok, fun _ => ⟨rfl, rfl, rfl, rfl⟩, fun hs e2 h2 _ => absurd ⟨by rw [e2, natI_len]; exact h2.1, by rw [e2]; exact natI_heaps h2.2⟩ hok, fun hs _ _ e2 h2 _ => absurd ⟨by rw [e2, natI_len]; exact h2.1, by rw [e2]; exact natI_heaps h2.2⟩ hok⟩

set_option maxHeartbeats 4000000 in
set_option maxRecDepth 100000 in
theorem nimGrundy_no (s : ByteArray) (n : Int) (r : List Int) (ho : Option Addr) (hc : Nat) (w : World) (hs : s.size ≤ maxLen) (hH : isIs w w.heap.size ho hc r) (hcd : codeB s = false) :
    Calls Try.prog 3 #[.string s, .int .i64 n, .slice ho r.length hc] w fun e w' => e = .returned (.bool true) ∧ Below w.heap.size w w' := by
  have HG := hide (Grundy_any s n w hs)
  have HW : Hid (∀ u, Below w.heap.size w u → Calls Try.prog 8 #[.string s, .slice ho r.length hc] u fun e w' => WiEnd s r u e w') := hide (fun u hu => Win_any s r ho hc u hs (hH.up hu))
  have HC : Hid (∀ u, Calls Try.prog 9 #[.string s] u fun e w' => e = .returned (.bool false) ∧ w' = u) := hide (fun u => by have := rCode_any s u hs; rw [hcd] at this; exact this)
  have HCD := hide hcd
  clear hH hs hcd
  go_enter Try.func3, Try.ntmps3
  go_wp2_with fail
  refine (unhide HG).mono ?_
  rintro e w1 hg
  have he := hg.code (unhide HCD)
  subst he
  have HB1 := hide hg.low
  have HW1 := hide (unhide HW w1 hg.low)
  clear hg HG
  go_wp2_with fail
  refine (unhide HW1).mono ?_
  rintro e w2 hwn
  have he := hwn.code (unhide HCD)
  subst he
  have HB2 := hide ((unhide HB1).trans (hwn.low.mono (unhide HB1).size))
  obtain ⟨w3, hw3⟩ : ∃ w3, w3 = w2.alloc (.cells #[.int .i64 0, .slice none 0 0] 27 (0, 0)) := ⟨_, rfl⟩
  have HB3 : Hid (Below w.heap.size w w3) := hide (by rw [hw3]; exact (unhide HB2).alloc (unhide HB2).size _)
  have hx3 : isHb w3 w2.heap.size 0 (.slice none 0 0) := by rw [hw3]; exact heap_alloc_new w2 _
  obtain ⟨c0, c1, -, -⟩ := hx3.all
  have HW3 := hide hw3
  clear hwn HW1 hw3 hx3
  go_upto_region 3 with fail
  rw [← unhide HW3]
  go_wp2_with fail
  refine (unhide HC _).mono ?_
  rintro e w4 ⟨rfl, rfl⟩
  go_wp2
  go_ret
  exact ⟨rfl, unhide HB3⟩
end Go.Proofs.Ytphnjedoghopcaa
