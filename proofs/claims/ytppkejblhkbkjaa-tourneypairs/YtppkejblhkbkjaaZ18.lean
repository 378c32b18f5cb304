/-
  package tourney, walked: barrier.
-/
import Derived.Test.YtppkejblhkbkjaaZ17
namespace Go.Proofs.Ytppkejblhkbkjaa
open Go.RowKit Tu
attribute [local go_sem ↓] Go.wp_at_zero Go.wp_at_succ

theorem infoI : (Try.prog.info? 3).map (fun i => (i.zero, i.size, i.bytes)) = some (some (.int .i64 0), 1, 8) := by kernel_rfl
theorem infoI_parts : ∃ i0, Try.prog.info? 3 = some i0 ∧ i0.zero = some (.int .i64 0) ∧ i0.size = 1 ∧ i0.bytes = 8 := by
  have := infoI
  cases hh : Try.prog.info? 3 with
  | none => rw [hh] at this; simp at this
  | some i => rw [hh] at this; simp at this; exact ⟨i, rfl, this.1, this.2.1, this.2.2⟩
/-- The barrier as far as i. -/
def barK (M : Nat → Option Nat) (S : Nat → Bool) (i : Nat) : List Nat := (List.range i).filter (isBar M S)
theorem barK_t {M : Nat → Option Nat} {S : Nat → Bool} {i : Nat} (h : isBar M S i = true) : barK M S (i + 1) = barK M S i ++ [i] := by
  unfold barK
  rw [List.range_succ, List.filter_append]
  simp [h]
theorem barK_f {M : Nat → Option Nat} {S : Nat → Bool} {i : Nat} (h : isBar M S i = false) : barK M S (i + 1) = barK M S i := by
  unfold barK
  rw [List.range_succ, List.filter_append]
  simp [h]
theorem barK_le (M : Nat → Option Nat) (S : Nat → Bool) (i : Nat) : (barK M S i).length ≤ i := by
  have := List.length_filter_le (isBar M S) (List.range i)
  rwa [List.length_range] at this

/-- What barrier leaves. -/
def BaE (L : List Nat) (W : World) (e : Ending) (W' : World) : Prop :=
  Below W.heap.size W W' ∧ ∃ v, e = .returned v ∧ W'.ownsRow W.heap.size 3 1 v L.length (qvals L)

set_option maxHeartbeats 4000000 in
set_option maxRecDepth 100000 in
theorem barrier_any (W : World) (t g r n : Nat) (bar : Nat → Nat → Bool) (M : Nat → Option Nat) (S : Nat → Bool) (tn : Nat → Tn) (B : Nat → Nat) (qv : Value) (hT : isTe W t g r S tn B qv) (hP : isPr W g n bar M) (hM : ∀ x y, M x = some y → y < 60) :
    Calls Try.prog 30 #[.pointer (some ⟨t, 0, none⟩)] W (BaE (barK M S 60) W) := by
  have d0 := hT.p_
  have hrg : W.rangeAt g 3601 ((List.range 60).map fun i => Value.int .i64 (pI (M i))) := by
    intro j v hv
    have hj : j < 60 := by have := (List.getElem?_eq_some_iff.1 hv).1; simpa using this
    simp [hj] at hv
    rw [← hv]
    exact hP.par j hj
  obtain ⟨cs, hcs⟩ : ∃ cs, cs = (List.range 60).map fun i => Value.int .i64 (pI (M i)) := ⟨_, rfl⟩
  rw [← hcs] at hrg
  have hcl : (Try.prog.info? 60).map (·.size) = some cs.length := by rw [hcs, List.length_map, List.length_range]; kernel_rfl
  have HRG := hide hrg
  have HCS := hide hcs
  have HCL := hide hcl
  obtain ⟨i0, hinfo, hz0, hz1, hz2⟩ := infoI_parts
  have HIN := hide hinfo
  have HZ0 := hide hz0
  have HZ1 := hide hz1
  have HZ2 := hide hz2
  have HT := hide hT
  have HM := hide hM
  have HBI : Hid (W.ownsRow W.heap.size 3 1 (.slice none 0 0) 0 [] ∧ Below W.heap.size W W) := hide ⟨World.ownsRow_nil _ _ _ _, Below.refl _ _⟩
  have htl := hT.lt
  clear hrg hcs hcl hinfo hz0 hz1 hz2 hT hP hM
  go_enter Try.func30, Try.ntmps30
  go_wp2_with (refine wpList_load_mid rfl 60 _ rfl g 3601 rfl cs _ (unhide HRG) Try.underlying60 rfl (unhide HCL) ?_)
  clear d0
  go_loopw [3, 13] (fun lv iv wr => ∃ (i : Nat) (ao : Option Addr) (cap : Nat), i ≤ 60 ∧ iv = .int .i64 (i : Int) ∧ lv = .slice ao (barK M S i).length cap ∧ Hid (wr.ownsRow W.heap.size 3 1 (.slice ao (barK M S i).length cap) (barK M S i).length (qvals (barK M S i)) ∧ Below W.heap.size W wr)) (fun _ iv _ => 60 - (intOf iv).toNat)
  case atStart => exact ⟨0, none, 0, by omega, rfl, rfl, HBI⟩
  case round =>
    obtain ⟨i, ao, cap, hi, rfl, rfl, HI⟩ := hrel
    rename World => wr
    clear HBI
    by_cases hil : i < 60
    · have hii : (i : Int) < 60 := by omega
      have hi0 : (0 : Int) ≤ (i : Int) := by omega
      have hx := index60 cs.toArray (.int .i64 (pI (M i))) i hil (by rw [unhide HCS]; simp [hil])
      have ht := (unhide HT).keep ((unhide HI).2.block t htl)
      have e0 := ht.sp i hil
      have hlen := barK_le M S i
      cases hm : M i with
      | none =>
        rw [hm] at hx
        have hx' : ∀ u, (Instr.index 60 (.agg cs.toArray) (.int .i64 (i : Int))).run Try.prog u = .ok (.int .i64 (-1)) u := hx
        have hb : isBar M S i = false := by unfold isBar; rw [hm]
        have HN : Hid (barK M S (i + 1) = barK M S i) := hide (barK_f hb)
        clear hx hm hb ht e0
        go_wp2
        go_roundw
        case rel => exact ⟨i + 1, ao, cap, by omega, by go_num, by rw [unhide HN], by rw [unhide HN]; exact HI⟩
        case measure => simp only [intOf]; omega
      | some y =>
        rw [hm] at hx
        have hx' : ∀ u, (Instr.index 60 (.agg cs.toArray) (.int .i64 (i : Int))).run Try.prog u = .ok (.int .i64 (y : Int)) u := hx
        have hy60 := unhide HM i y hm
        have e1 := ht.sp y hy60
        have hyi : (y : Int) < 60 := by omega
        have hy0 : (0 : Int) ≤ (y : Int) := by omega
        have hyn : ((y : Int) == -1) = false := by simp
        have hbb : isBar M S i = (S y && !S i) := by unfold isBar; rw [hm]
        cases hsy : S y with
        | false =>
          rw [hsy] at e1
          have HN : Hid (barK M S (i + 1) = barK M S i) := hide (barK_f (by rw [hbb, hsy]; rfl))
          clear hx hm hbb hsy ht e0
          go_wp2
          go_roundw
          case rel => exact ⟨i + 1, ao, cap, by omega, by go_num, by rw [unhide HN], by rw [unhide HN]; exact HI⟩
          case measure => simp only [intOf]; omega
        | true =>
          rw [hsy] at e1
          cases hsi : S i with
          | true =>
            rw [hsi] at e0
            have HN : Hid (barK M S (i + 1) = barK M S i) := hide (barK_f (by rw [hbb, hsy, hsi]; rfl))
            clear hx hm hbb hsy hsi ht
            go_wp2
            go_roundw
            case rel => exact ⟨i + 1, ao, cap, by omega, by go_num, by rw [unhide HN], by rw [unhide HN]; exact HI⟩
            case measure => simp only [intOf]; omega
          | false =>
            rw [hsi] at e0
            have HN : Hid (barK M S (i + 1) = barK M S i ++ [i]) := hide (barK_t (by rw [hbb, hsy, hsi]; rfl))
            have hbs := (unhide HI).2.size
            clear hx hm hbb hsy hsi ht
            obtain ⟨L, hLe⟩ : ∃ L, (barK M S i).length = L := ⟨_, rfl⟩
            have HLE := hide hLe
            rw [hLe] at hlen
            have HRW : Hid (wr.ownsRow W.heap.size 3 1 (.slice ao L cap) L (qvals (barK M S i))) := hide (by rw [← hLe]; exact (unhide HI).1)
            rw [hLe]
            clear hLe
            go_wp2_with (at_builtin; refine wpList_append_own_at _ rfl _ _ 41 rfl W.heap.size 3 i0 _ 1 8 Try.underlying41 (unhide HIN) (unhide HZ0) (unhide HZ1) (unhide HZ2) rfl (by decide) (.slice ao L cap) L (qvals (barK M S i)) rfl ((unhide HRW).alloc _) ⟨wr.heap.size, 0, none⟩ 1 1 [.int .i64 (i : Int)] rfl rfl (cell_one_new _ _ _) ?c2 ?c3 ?c4 ?c5 ?_)
            case c2 => simp [Value.oneCell']
            case c3 => unfold maxLen; omega
            case c4 => omega
            case c5 => simp; omega
            intro q' W5 hrow5 hg5 _ _
            obtain ⟨ao', cap', rfl⟩ : ∃ o c, q' = .slice o (L + 1) c := by
              rcases hrow5.2 with ⟨-, h2⟩ | ⟨k, c, cur, h1, -⟩
              · omega
              · exact ⟨_, _, h1⟩
            have HI5 : Hid (W5.ownsRow W.heap.size 3 1 (.slice ao' (barK M S (i + 1)).length cap') (barK M S (i + 1)).length (qvals (barK M S (i + 1))) ∧ Below W.heap.size W W5) := hide (by
              have hl : (barK M S (i + 1)).length = L + 1 := by rw [unhide HN, List.length_append, unhide HLE]; rfl
              have hq : qvals (barK M S (i + 1)) = qvals (barK M S i) ++ [.int .i64 (i : Int)] := by rw [unhide HN]; simp [qvals]
              rw [hl, hq]
              refine ⟨hrow5, ?_⟩
              have ha : Below W.heap.size W (wr.alloc (Obj.cells #[Value.int .i64 (i : Int)] 3 (0, 0))) := (unhide HI).2.alloc hbs _
              exact ha.trans ⟨hg5.os, hg5.tape, hg5.output, hg5.size, fun k hk => hg5.block k (by have := ha.size; omega) (fun e => by have := ((unhide HRW)).lt k e.symm; omega)⟩)
            have HL5 : Hid ((barK M S (i + 1)).length = L + 1) := hide (by rw [unhide HN, List.length_append, unhide HLE]; rfl)
            clear hrow5 hg5 HRW
            go_wp2
            go_roundw
            case rel => exact ⟨i + 1, ao', cap', by omega, by go_num, by rw [unhide HL5], HI5⟩
            case measure => simp only [intOf]; omega
    · obtain rfl : i = 60 := by omega
      rw [show (((60 : Nat) : Int)) = 60 from rfl]
      have HE : Hid (BaE (barK M S 60) W (.returned (.slice ao (barK M S 60).length cap)) wr) := hide ⟨(unhide HI).2, _, rfl, (unhide HI).1⟩
      generalize (barK M S 60).length = L at HE ⊢
      clear HI
      go_wp2
      go_ret
      exact unhide HE
end Go.Proofs.Ytppkejblhkbkjaa
