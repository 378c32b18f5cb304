/-
  gamelaw.BoardTurns, walked: for every position, number and list it returns true; of what was there nothing has turned.
-/
import Derived.Test.YtbcedjjocpjkjaaW26B
import Derived.Test.YtbcedjjocpjkjaaW26C
import Derived.Test.YtbcedjjocpjkjaaW26D
namespace Go.Proofs.Ytbcedjjocpjkjaa
open Go.RowKit

set_option maxHeartbeats 1000000 in
set_option maxRecDepth 100000 in
theorem turns_nopos (W H T k : Int) (C A B : ByteArray) (a : Option Addr) (n c : Nat) (w : World) (hC : C.size ≤ maxLen) (hA : A.size ≤ maxLen) (hB : B.size ≤ maxLen) (h : posB W H C.data.toList T A.data.toList B.data.toList = false) :
    Calls Try.prog 4 #[.agg #[.int .i64 W, .int .i64 H, .string C, .int .i64 T, .string A, .string B], .int .i64 k, .slice a n c] w fun e w' => e = .returned (.bool true) ∧ Below w.heap.size w w' := by
  have HP := hide h
  clear h
  have heq0 := fun w => (eqPos w 0 0 0 0 0 0 ⟨#[]⟩ ⟨#[]⟩ ⟨#[]⟩ ⟨#[]⟩ ⟨#[]⟩ ⟨#[]⟩)
  simp only [samePos_refl] at heq0
  go_enter Try.func4, Try.ntmps4
  go_wp2_with fail
  refine (Turned_no' _ _ _ _ _ _ _ _ hC hA hB (.inl (unhide HP))).mono ?_
  rintro e w1 ⟨rfl, hb1⟩
  have bp1 := isBox.fresh hb1
  have hw1 : Below w.heap.size w w1 := below_on (Below.refl _ _) (Nat.le_refl _) hb1
  clear hb1
  obtain ⟨d0, d1, d2, d3, d4, d5⟩ := bp1.cells'
  go_wp2_with fail
  refine (Swapped_no' _ _ _ _ _ _ _ hC hA hB (unhide HP)).mono ?_
  rintro e w2 ⟨rfl, hb2⟩
  have bp2 := bp1.on hb2
  have ba2 := isBox.fresh hb2
  have hw2 := below_on hw1 hw1.size hb2
  clear hb2 bp1 d0 d1 d2 d3 d4 d5
  obtain ⟨d0, d1, d2, d3, d4, d5⟩ := bp2.cells'
  go_wp2_with fail
  refine (Least_nopos _ _ _ _ _ _ _ _ _ _ hC hA hB (unhide HP)).mono ?_
  rintro e w3 ⟨rfl, hb3⟩
  have bp3 := bp2.on hb3
  have ba3 := ba2.on hb3
  have bb3 := isBox.fresh hb3
  have hw3 := below_on hw2 hw2.size hb3
  clear hb3 bp2 ba2 d0 d1 d2 d3 d4 d5
  obtain ⟨d0, d1, d2, d3, d4, d5⟩ := bp3.cells'
  go_wp2_with fail
  refine (refPosition_any _ _ _ _ _ _ _ hA hB).mono ?_
  rintro e w4 ⟨rfl, hb4⟩
  rw [unhide HP]
  have ba4 := ba3.on hb4
  have bb4 := bb3.on hb4
  have bc4 := isBox.fresh hb4
  have hw4 := below_on hw3 hw3.size hb4
  clear hb4 bp3 ba3 bb3 d0 d1 d2 d3 d4 d5
  obtain ⟨d0, d1, d2, d3, d4, d5⟩ := ba4.cells
  obtain ⟨e0, e1, e2, e3, e4, e5⟩ := bb4.cells
  obtain ⟨f0, f1, f2, f3, f4, f5⟩ := bc4.cells
  go_wp2
  go_ret
  exact ⟨ret_bool (by simp), hw4⟩

/-- What the walk is told of a list of ints that came in. -/
def IsInts (w : World) (a : Option Addr) (len cap : Nat) (zs : List Int) : Prop :=
  (a = none ∧ len = 0 ∧ cap = 0 ∧ zs = []) ∨
  ∃ x, a = some x ∧ len ≤ cap ∧ cap ≤ maxLen ∧ zs.length = cap ∧ (∀ i, i < zs.length → w.cell? (x.add i) = some (.int .i64 (zs.getD i 0)))

theorem turns_any (W H T k : Int) (C A B : ByteArray) (a : Option Addr) (len cap : Nat) (zs : List Int) (w : World) (hC : C.size ≤ maxLen) (hA : A.size ≤ maxLen) (hB : B.size ≤ maxLen) (hr : IsInts w a len cap zs) :
    Calls Try.prog 4 #[.agg #[.int .i64 W, .int .i64 H, .string C, .int .i64 T, .string A, .string B], .int .i64 k, .slice a len cap] w fun e w' => e = .returned (.bool true) ∧ Below w.heap.size w w' := by
  cases hp : posB W H C.data.toList T A.data.toList B.data.toList with
  | false => exact turns_nopos W H T k C A B a len cap w hC hA hB hp
  | true =>
    obtain ⟨W', H', rfl, rfl, p⟩ := isPos_of hp
    by_cases h0 : len = 0
    · subst h0
      cases hk : turnB k with
      | false => exact turns_nc k a cap w p hk hC
      | true =>
        simp only [turnB, Bool.and_eq_true, decide_eq_true_eq] at hk
        obtain ⟨k', rfl⟩ := Int.eq_ofNat_of_zero_le hk.1
        exact turns_c k' a cap w p (by omega)
    · rcases hr with ⟨_, h, _⟩ | ⟨x, rfl, hlc, hcm, hzl, hcell⟩
      · exact absurd h h0
      · obtain ⟨g, off, spot⟩ := x
        have hc0 := hcell 0 (by omega)
        have hspot : spot = none := by simpa [Addr.add] using World.cell?_spot hc0
        subst hspot
        have hadd : ∀ j, (⟨g, off, none⟩ : Addr).add j = ⟨g, off + j, none⟩ := fun j => by unfold Addr.add; split <;> simp_all
        have hg : g < w.heap.size := by
          rw [hadd] at hc0
          exact World.block_lt_of_cell? w _ hc0
        obtain ⟨ys, hys⟩ : ∃ ys, ys = zs.take len := ⟨_, rfl⟩
        have hyl : ys.length = len := by rw [hys, List.length_take]; omega
        have hyc : ∀ j (h : j < ys.length), w.cell? ⟨g, off + j, none⟩ = some (.int .i64 ys[j]) := by
          intro j h
          have := hcell j (by omega)
          rw [hadd] at this
          rw [this]
          subst hys
          rw [List.getElem_take, List.getD_eq_getElem?_getD, List.getElem?_eq_getElem (by omega)]
          rfl
        rw [← hyl]
        have hm : ys.length ≤ maxLen := by omega
        have hpos : 0 < ys.length := by omega
        cases hall : ys.all turnB with
        | false =>
          cases hk : turnB k with
          | false => exact turns_nb k g off cap ys w p hk hC hm hpos hall hg hyc
          | true =>
            simp only [turnB, Bool.and_eq_true, decide_eq_true_eq] at hk
            obtain ⟨k', rfl⟩ := Int.eq_ofNat_of_zero_le hk.1
            exact turns_b k' g off cap ys w p (by omega) hm hpos hall hg hyc
        | true =>
          rw [List.all_eq_true] at hall
          obtain ⟨ns, hns⟩ : ∃ ns : List Nat, ns = ys.map Int.toNat := ⟨_, rfl⟩
          have hnl : ns.length = ys.length := by rw [hns, List.length_map]
          have hn8 : ∀ n ∈ ns, n < 8 := by
            intro n hn
            rw [hns, List.mem_map] at hn
            obtain ⟨z, hz, rfl⟩ := hn
            have := hall z hz
            simp only [turnB, Bool.and_eq_true, decide_eq_true_eq] at this
            omega
          have hnc : ∀ j (h : j < ns.length), w.cell? ⟨g, off + j, none⟩ = some (.int .i64 (ns[j] : Int)) := by
            intro j h
            have hj : j < ys.length := by omega
            rw [hyc j hj]
            have h1 := hall ys[j] (List.getElem_mem _)
            simp only [turnB, Bool.and_eq_true, decide_eq_true_eq] at h1
            subst hns
            rw [List.getElem_map, Int.toNat_of_nonneg h1.1]
          rw [← hnl]
          cases hk : turnB k with
          | false => exact turns_na k g off cap ns w p hk hC (by omega) (by omega) hn8 hg hnc
          | true =>
            simp only [turnB, Bool.and_eq_true, decide_eq_true_eq] at hk
            obtain ⟨k', rfl⟩ := Int.eq_ofNat_of_zero_le hk.1
            exact turns_a k' g off cap ns w p (by omega) (by omega) (by omega) hn8 hg hnc
end Go.Proofs.Ytbcedjjocpjkjaa
