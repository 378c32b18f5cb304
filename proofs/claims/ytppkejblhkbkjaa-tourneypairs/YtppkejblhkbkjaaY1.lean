/-
  package tourney, walked: results in memory; isFrom, isTwo, areResults.
-/
import Derived.Test.YtppkejblhkbkjaaProg
import Derived.Test.YtppkejblhkbkjaaY0
import Derived.WalkKit
import Derived.WalkSpells
import Derived.WalkLawsBesides
import Derived.Deep.QuietTactic
import Derived.BigQuiet
import Derived.Below
import Derived.Laws.OwnMore
import Derived.OwnWalk
import Derived.Deep.Cut
import Derived.Deep.DrawnRows
import Derived.Deep.RegionHeld3
namespace Go.Proofs.Ytppkejblhkbkjaa
open Go.RowKit
attribute [local go_sem ↓] Go.wp_at_zero Go.wp_at_succ

theorem hide {p : Prop} (h : p) : Hid p := h
theorem unhide {p : Prop} (h : Hid p) : p := h
theorem ret_bool {a b : Bool} (h : a = b) : Ending.returned (.bool a) = .returned (.bool b) := by rw [h]
theorem ret_int {k : IntKind} {a b : Int} (h : a = b) : Ending.returned (.int k a) = .returned (.int k b) := by rw [h]
theorem undrew {B : Nat} {w w' : World} (h : Below B w.drew w') : Below B w w' := ⟨h.os, h.tape, h.output, h.size, h.block⟩

/-- Results in memory, in a block below B. -/
structure isRs (w : World) (B : Nat) (ao : Option Addr) (cap : Nat) (l : List Re) : Prop where
  le : l.length ≤ cap
  mx : cap ≤ maxLen
  cells : l ≠ [] → ∃ g off, ao = some ⟨g, off, none⟩ ∧ g < B ∧ ∀ (i : Nat) (z : Re), l[i]? = some z → w.cell? ⟨g, off + i * 3, none⟩ = some (.int .i64 z.a) ∧ w.cell? ⟨g, off + i * 3 + 1, none⟩ = some (.int .i64 z.b) ∧ w.cell? ⟨g, off + i * 3 + 2, none⟩ = some (.int .i64 z.h)
theorem isRs.keep {w w' : World} {B B' : Nat} {ao : Option Addr} {cap : Nat} {l : List Re} (h : isRs w B ao cap l) (hk : ∀ k, k < B → w'.heap[k]? = w.heap[k]?) (hB : B ≤ B') : isRs w' B' ao cap l := by
  refine ⟨h.le, h.mx, fun hl => ?_⟩
  obtain ⟨g, off, e, hg, hc⟩ := h.cells hl
  have key : ∀ j, w'.cell? ⟨g, j, none⟩ = w.cell? ⟨g, j, none⟩ := fun j => by unfold World.cell?; simp only; rw [hk g hg]
  refine ⟨g, off, e, by omega, fun i z hz => ?_⟩
  rw [key, key, key]
  exact hc i z hz
theorem isRs.below {w w' : World} {B B' : Nat} {ao : Option Addr} {cap : Nat} {l : List Re} (h : isRs w B ao cap l) (hb : Below B' w w') (hB : B ≤ B') : isRs w' B ao cap l := h.keep (fun k hk => hb.block k (by omega)) (Nat.le_refl _)
theorem isRs.at_ {w : World} {B : Nat} {ao : Option Addr} {cap : Nat} {l : List Re} (h : isRs w B ao cap l) {i : Nat} {z : Re} (hz : l[i]? = some z) : ∃ g off, ao = some ⟨g, off, none⟩ ∧ g < B ∧ w.cell? ⟨g, off + i * 3, none⟩ = some (.int .i64 z.a) ∧ w.cell? ⟨g, off + i * 3 + 1, none⟩ = some (.int .i64 z.b) ∧ w.cell? ⟨g, off + i * 3 + 2, none⟩ = some (.int .i64 z.h) := by
  obtain ⟨g, off, e, hg, hc⟩ := h.cells (by rintro rfl; simp at hz)
  exact ⟨g, off, e, hg, hc i z hz⟩

theorem tisFrom_any (a n b : Int) (w : World) : Calls Try.prog 18 #[.int .i64 a, .int .i64 n, .int .i64 b] w fun e w' => e = .returned (.bool (decide (a ≤ n ∧ n ≤ b))) ∧ w' = w := by
  go_enter Try.func18, Try.ntmps18
  by_cases h1 : a ≤ n
  · by_cases h2 : n ≤ b
    · go_wp2
      go_ret
      exact ⟨ret_bool (by simp [h1, h2]), rfl⟩
    · go_wp2
      go_ret
      exact ⟨ret_bool (by simp [h2]), rfl⟩
  · go_wp2
    go_ret
    exact ⟨ret_bool (by simp; omega), rfl⟩

theorem isTwo_any (n a b : Int) (w : World) (hn : 0 ≤ n) (hn2 : n ≤ 1000) : Calls Try.prog 32 #[.int .i64 n, .int .i64 a, .int .i64 b] w fun e w' => e = .returned (.bool (decide (0 ≤ a ∧ a < n ∧ 0 ≤ b ∧ b < n ∧ a ≠ b))) ∧ w' = w := by
  obtain ⟨B1, b1⟩ : ∃ B : Bool, decide ((0 : Int) ≤ a ∧ a ≤ n - 1) = B := ⟨_, rfl⟩
  obtain ⟨B2, b2⟩ : ∃ B : Bool, decide ((0 : Int) ≤ b ∧ b ≤ n - 1) = B := ⟨_, rfl⟩
  have H1 := tisFrom_any 0 a (n - 1) w
  have H2 := tisFrom_any 0 b (n - 1) w
  rw [b1] at H1
  rw [b2] at H2
  have HE : Hid ((B1 && (B2 && (a != b))) = decide (0 ≤ a ∧ a < n ∧ 0 ≤ b ∧ b < n ∧ a ≠ b)) := hide (by
    rw [← b1, ← b2, Bool.eq_iff_iff]
    simp only [Bool.and_eq_true, decide_eq_true_eq, bne_iff_ne]
    constructor
    · rintro ⟨⟨h1, h2⟩, ⟨h3, h4⟩, h5⟩; exact ⟨by omega, by omega, by omega, by omega, h5⟩
    · rintro ⟨h1, h2, h3, h4, h5⟩; exact ⟨⟨by omega, by omega⟩, ⟨by omega, by omega⟩, h5⟩)
  clear b1 b2
  go_enter Try.func32, Try.ntmps32
  go_wp2_with fail
  refine H1.mono ?_
  rintro e w1 ⟨rfl, rfl⟩
  cases B1
  · go_wp2
    go_ret
    exact ⟨ret_bool (by rw [← unhide HE]; rfl), rfl⟩
  · go_wp2_with fail
    refine H2.mono ?_
    rintro e w1 ⟨rfl, rfl⟩
    cases B2
    · go_wp2
      go_ret
      exact ⟨ret_bool (by rw [← unhide HE]; rfl), rfl⟩
    · go_wp2
      go_ret
      exact ⟨ret_bool (by rw [← unhide HE]; rfl), rfl⟩

/-- Results of n players, not too many. -/
def okL (n : Int) (l : List Re) : Prop := l.length ≤ 10000 ∧ ∀ r ∈ l, okRe n r
instance (n : Int) (l : List Re) : Decidable (okL n l) := by unfold okL; infer_instance
def okLB (n : Int) (l : List Re) : Bool := decide (okL n l)
theorem okLB_t {n : Int} {l : List Re} (h : okL n l) : okLB n l = true := decide_eq_true h
theorem okLB_f {n : Int} {l : List Re} (h : ¬ okL n l) : okLB n l = false := decide_eq_false h
theorem okRe_two {n : Int} {r : Re} : okRe n r ↔ (0 ≤ r.a ∧ r.a < n ∧ 0 ≤ r.b ∧ r.b < n ∧ r.a ≠ r.b) ∧ (0 ≤ r.h ∧ r.h ≤ 2) := by
  unfold okRe
  constructor
  · rintro ⟨h1, h2, h3, h4, h5, h6, h7⟩; exact ⟨⟨h1, h2, h3, h4, h5⟩, h6, h7⟩
  · rintro ⟨⟨h1, h2, h3, h4, h5⟩, h6, h7⟩; exact ⟨h1, h2, h3, h4, h5, h6, h7⟩
theorem all_snoc {α : Type} {p : α → Prop} {l : List α} {k : Nat} {x : α} (h : l[k]? = some x) (ha : ∀ r ∈ l.take k, p r) (hx : p x) : ∀ r ∈ l.take (k + 1), p r := by
  rw [List.take_add_one, h, Option.toList_some]
  intro r hr
  rcases List.mem_append.1 hr with hr | hr
  · exact ha r hr
  · rw [List.mem_singleton.1 hr]; exact hx

set_option maxHeartbeats 1000000 in
theorem areResults_any (n : Int) (hn : 0 ≤ n) (hn2 : n ≤ 1000) (l : List Re) (ao : Option Addr) (cap : Nat) (w : World) (h : isRs w w.heap.size ao cap l) :
    Calls Try.prog 19 #[.int .i64 n, .slice ao l.length cap] w fun e w' => e = .returned (.bool (okLB n l)) ∧ Below w.heap.size w w' := by
  obtain ⟨N, hN⟩ : ∃ N, N = l.length := ⟨_, rfl⟩
  have HR := hide h
  have HN := hide hN
  rw [← hN]
  by_cases hbig : 10000 < N
  · have hb2 : (10000 : Int) < (N : Int) := by omega
    have HE : Hid (false = okLB n l) := hide (okLB_f (fun h => by have := h.1; omega)).symm
    clear hbig hN h
    go_enter Try.func19, Try.ntmps19
    go_wp2
    go_ret
    exact ⟨ret_bool (unhide HE), Below.refl _ _⟩
  · have hb2 : ¬ (10000 : Int) < (N : Int) := by omega
    clear hN h
    go_enter Try.func19, Try.ntmps19
    go_wp2
    go_loopw [12] (fun iv wr => ∃ k : Nat, k ≤ N ∧ iv = .int .i64 (k : Int) ∧ (∀ r ∈ l.take k, okRe n r) ∧ Below w.heap.size w wr) (fun iv _ => N - (intOf iv).toNat)
    case atStart => exact ⟨0, Nat.zero_le _, rfl, by simp, Below.refl _ _⟩
    case round =>
      obtain ⟨k, hk, rfl, hall, hbw⟩ := hrel
      rename World => wr
      by_cases hlt : k < N
      · have hlti : (k : Int) < (N : Int) := by omega
        have hk0 : (0 : Int) ≤ (k : Int) := by omega
        obtain ⟨z, hz⟩ : ∃ z, l[k]? = some z := ⟨_, List.getElem?_eq_getElem (by rw [← unhide HN]; exact hlt)⟩
        obtain ⟨g, off, rfl, hg, c0, c1, c2⟩ := ((unhide HR).below hbw (Nat.le_refl _)).at_ hz
        have hcap := (unhide HR).mx
        have hle := (unhide HR).le
        rw [← unhide HN] at hle
        unfold maxLen at hcap
        obtain ⟨B1, b1⟩ : ∃ B : Bool, decide (0 ≤ z.a ∧ z.a < n ∧ 0 ≤ z.b ∧ z.b < n ∧ z.a ≠ z.b) = B := ⟨_, rfl⟩
        obtain ⟨B2, b2⟩ : ∃ B : Bool, decide (0 ≤ z.h ∧ z.h ≤ 2) = B := ⟨_, rfl⟩
        have HOK : Hid ((B1 && B2) = true ↔ okRe n z) := hide (by rw [okRe_two, Bool.and_eq_true, ← b1, ← b2, decide_eq_true_eq, decide_eq_true_eq])
        have HNO : Hid ((B1 && B2) = false → false = okLB n l) := hide (fun hf => (okLB_f fun h => by
          have := (unhide HOK).2 (h.2 z (List.mem_of_getElem? hz))
          rw [this] at hf; cases hf).symm)
        have HSN : Hid ((B1 && B2) = true → ∀ r ∈ l.take (k + 1), okRe n r) := hide (fun ht => all_snoc hz hall ((unhide HOK).1 ht))
        obtain ⟨wi, hwi⟩ : ∃ wi, wi = wr.alloc (.cells #[.int .i64 z.a, .int .i64 z.b, .int .i64 z.h] 49 (0, 0)) := ⟨_, rfl⟩
        have hbx : wi.heap[wr.heap.size]? = some (.cells #[.int .i64 z.a, .int .i64 z.b, .int .i64 z.h] 49 (0, 0)) := by rw [hwi]; exact heap_alloc_new wr _
        have HBI : Hid (Below w.heap.size w wi) := hide (by rw [hwi]; exact hbw.alloc hbw.size _)
        have y0 : wi.cell? ⟨wr.heap.size, 0, none⟩ = some (.int .i64 z.a) := by simp [World.cell?, hbx]
        have y1 : wi.cell? ⟨wr.heap.size, 1, none⟩ = some (.int .i64 z.b) := by simp [World.cell?, hbx]
        have y2 : wi.cell? ⟨wr.heap.size, 2, none⟩ = some (.int .i64 z.h) := by simp [World.cell?, hbx]
        have H1 := isTwo_any n z.a z.b wi hn hn2
        have H2 := tisFrom_any 0 z.h 2 wi
        rw [b1] at H1
        rw [b2] at H2
        have HWI := hide hwi
        clear hwi hbx hall hbw hz b1 b2 HOK
        go_upto_region 6 with fail
        rw [← unhide HWI]
        clear c0 c1 c2 HWI
        go_wp2_with fail
        refine H1.mono ?_
        rintro e w1 ⟨rfl, rfl⟩
        cases B1
        · go_wp2
          go_ret
          exact ⟨ret_bool (unhide HNO rfl), unhide HBI⟩
        · go_wp2_with fail
          refine H2.mono ?_
          rintro e w1 ⟨rfl, rfl⟩
          cases B2
          · go_wp2
            go_ret
            exact ⟨ret_bool (unhide HNO rfl), unhide HBI⟩
          · go_wp2
            go_roundw
            case rel => exact ⟨k + 1, by omega, by go_num, unhide HSN rfl, unhide HBI⟩
            case measure => simp only [intOf]; omega
      · have hlti : ¬ (k : Int) < (N : Int) := by omega
        have HE : Hid (true = okLB n l) := hide (okLB_t ⟨by have := unhide HN; omega, by rw [List.take_of_length_le (by have := unhide HN; omega)] at hall; exact hall⟩).symm
        have HBW := hide hbw
        clear hall hbw
        go_wp2
        go_ret
        exact ⟨ret_bool (unhide HE), unhide HBW⟩
end Go.Proofs.Ytppkejblhkbkjaa
