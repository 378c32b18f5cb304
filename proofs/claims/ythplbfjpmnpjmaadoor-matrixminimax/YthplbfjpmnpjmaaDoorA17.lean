/-
  what level reckons, number by number (plain mathematics); a solution in memory.
-/
import Derived.Test.YthplbfjpmnpjmaaDoorA16
namespace Go.Proofs.YthplbfjpmnpjmaaDoor
open Go.RowKit Lp

/-- One cofactor more. -/
def stS (co : Nat → Nat → Int) (s : So) (i j : Nat) : So := ⟨s.v, wrap64 (s.t + co i j), fun k => if k = i then wrap64 (s.x k + co i j) else s.x k, fun k => if k = j then wrap64 (s.y k + co i j) else s.y k⟩
def inS {c : Nat} (co : Nat → Nat → Int) (s : So) (i : Nat) (pre : List (MS c)) : So := pre.foldl (fun s j => stS co s i j.1) s
def ouS {r : Nat} (c : Nat) (co : Nat → Nat → Int) (s : So) (pre : List (MS r)) : So := pre.foldl (fun s i => inS co s i.1 (memS c)) s
theorem inS_snoc {c : Nat} (co : Nat → Nat → Int) (s : So) (i : Nat) (pre : List (MS c)) (x : MS c) : inS co s i (pre ++ [x]) = stS co (inS co s i pre) i x.1 := by simp [inS]
theorem ouS_snoc {r : Nat} (c : Nat) (co : Nat → Nat → Int) (s : So) (pre : List (MS r)) (x : MS r) : ouS c co s (pre ++ [x]) = inS co (ouS c co s pre) x.1 (memS c) := by simp [ouS]
theorem So.ext' {a b : So} (h1 : a.v = b.v) (h2 : a.t = b.t) (h3 : ∀ i, a.x i = b.x i) (h4 : ∀ i, a.y i = b.y i) : a = b := by
  cases a; cases b
  simp only at h1 h2 h3 h4
  rw [h1, h2, funext h3, funext h4]
def SoSm (s : So) (M : Nat) : Prop := s.t.natAbs ≤ M ∧ (∀ i, (s.x i).natAbs ≤ M) ∧ ∀ i, (s.y i).natAbs ≤ M
/-- The same, nothing ever wraps round. -/
def stE (co : Nat → Nat → Int) (s : So) (i j : Nat) : So := ⟨s.v, s.t + co i j, fun k => if k = i then s.x k + co i j else s.x k, fun k => if k = j then s.y k + co i j else s.y k⟩
theorem stS_E {co : Nat → Nat → Int} {s : So} {i j M B : Nat} (hs : SoSm s M) (hc : (co i j).natAbs ≤ B) (hM : M + B < 9223372036854775808) : stS co s i j = stE co s i j ∧ SoSm (stE co s i j) (M + B) := by
  obtain ⟨h1, h2, h3⟩ := hs
  have a1 := Int.natAbs_add_le s.t (co i j)
  have ax : ∀ k, (s.x k + co i j).natAbs ≤ M + B := fun k => by have := Int.natAbs_add_le (s.x k) (co i j); have := h2 k; omega
  have ay : ∀ k, (s.y k + co i j).natAbs ≤ M + B := fun k => by have := Int.natAbs_add_le (s.y k) (co i j); have := h3 k; omega
  refine ⟨So.ext' rfl (wrap_id (by omega)) (fun k => ?_) (fun k => ?_), by simp only [stE]; omega, fun k => ?_, fun k => ?_⟩
  · simp only [stS, stE]
    split
    · exact wrap_id (by have := ax k; omega)
    · rfl
  · simp only [stS, stE]
    split
    · exact wrap_id (by have := ay k; omega)
    · rfl
  · simp only [stE]
    split
    · exact ax k
    · have := h2 k; omega
  · simp only [stE]
    split
    · exact ay k
    · have := h3 k; omega
theorem inS_E {c : Nat} {co : Nat → Nat → Int} {B : Nat} (hc : ∀ i j, (co i j).natAbs ≤ B) (i : Nat) : ∀ (pre : List (MS c)) (s : So) (M : Nat), SoSm s M → M + B * pre.length < 9223372036854775808 → inS co s i pre = pre.foldl (fun s j => stE co s i j.1) s ∧ SoSm (inS co s i pre) (M + B * pre.length)
  | [], s, M, hs, _ => ⟨rfl, by rw [List.length_nil, Nat.mul_zero, Nat.add_zero]; exact hs⟩
  | j :: pre, s, M, hs, hb => by
    rw [List.length_cons, Nat.mul_add, Nat.mul_one] at hb ⊢
    obtain ⟨e1, h1⟩ := stS_E (i := i) (j := j.1) hs (hc i j.1) (by have : 0 ≤ B * pre.length := Nat.zero_le _; omega)
    obtain ⟨e2, h2⟩ := inS_E hc i pre (stE co s i j.1) (M + B) h1 (by omega)
    unfold inS at e2 h2 ⊢
    rw [List.foldl_cons, List.foldl_cons, e1]
    exact ⟨e2, by rw [show M + (B * pre.length + B) = M + B + B * pre.length by omega]; exact h2⟩
theorem ouS_E {r c : Nat} {co : Nat → Nat → Int} {B : Nat} (hc : ∀ i j, (co i j).natAbs ≤ B) : ∀ (pre : List (MS r)) (s : So) (M : Nat), SoSm s M → M + B * (memS c).length * pre.length < 9223372036854775808 → ouS c co s pre = pre.foldl (fun s i => (memS c).foldl (fun s j => stE co s i.1 j.1) s) s
  | [], s, M, hs, _ => rfl
  | i :: pre, s, M, hs, hb => by
    rw [List.length_cons, Nat.mul_add, Nat.mul_one] at hb
    obtain ⟨e1, h1⟩ := inS_E hc i.1 (memS c) s M hs (by have : 0 ≤ B * (memS c).length * pre.length := Nat.zero_le _; omega)
    unfold ouS
    rw [List.foldl_cons, List.foldl_cons, ← e1]
    exact ouS_E hc pre _ _ h1 (by omega)
/-- A row of cofactors added. -/
theorem row_E {c : Nat} (co : Nat → Nat → Int) (i : Nat) : ∀ (L : List (MS c)) (s : So), (L.map (·.1)).Nodup → (L.foldl (fun s j => stE co s i j.1) s).v = s.v ∧ (L.foldl (fun s j => stE co s i j.1) s).t = s.t + lI (L.map (·.1)) (co i) ∧ (∀ k, (L.foldl (fun s j => stE co s i j.1) s).x k = if k = i then s.x k + lI (L.map (·.1)) (co i) else s.x k) ∧ ∀ k, (L.foldl (fun s j => stE co s i j.1) s).y k = if k ∈ L.map (·.1) then s.y k + co i k else s.y k
  | [], s, _ => ⟨rfl, by simp [lI], fun k => by simp [lI], fun k => by simp⟩
  | j :: L, s, hn => by
    rw [List.map_cons, List.nodup_cons] at hn
    obtain ⟨h1, h2, h3, h4⟩ := row_E co i L (stE co s i j.1) hn.2
    rw [List.foldl_cons, List.map_cons, lI_cons]
    refine ⟨h1, by rw [h2]; simp only [stE]; omega, fun k => ?_, fun k => ?_⟩
    · rw [h3]
      simp only [stE]
      by_cases e : k = i
      · rw [if_pos e, if_pos e, if_pos e]; omega
      · rw [if_neg e, if_neg e, if_neg e]
    · rw [h4]
      simp only [stE]
      by_cases e : k = j.1
      · rw [if_neg (by rw [e]; exact hn.1), if_pos e, if_pos (by rw [e]; exact List.mem_cons_self), e]
      · by_cases e2 : k ∈ L.map (·.1)
        · rw [if_pos e2, if_neg e, if_pos (List.mem_cons_of_mem _ e2)]
        · rw [if_neg e2, if_neg e, if_neg (by rw [List.mem_cons, not_or]; exact ⟨e, e2⟩)]
theorem all_E {r c : Nat} (co : Nat → Nat → Int) (hn : ((memS c).map (·.1)).Nodup) : ∀ (L : List (MS r)) (s : So), (L.map (·.1)).Nodup → (L.foldl (fun s i => (memS c).foldl (fun s j => stE co s i.1 j.1) s) s).v = s.v ∧ (L.foldl (fun s i => (memS c).foldl (fun s j => stE co s i.1 j.1) s) s).t = s.t + lI (L.map (·.1)) (fun i => lI ((memS c).map (·.1)) (co i)) ∧ (∀ k, (L.foldl (fun s i => (memS c).foldl (fun s j => stE co s i.1 j.1) s) s).x k = if k ∈ L.map (·.1) then s.x k + lI ((memS c).map (·.1)) (co k) else s.x k) ∧ ∀ k, (L.foldl (fun s i => (memS c).foldl (fun s j => stE co s i.1 j.1) s) s).y k = if k ∈ (memS c).map (·.1) then s.y k + lI (L.map (·.1)) (fun i => co i k) else s.y k
  | [], s, _ => ⟨rfl, by simp [lI], fun k => by simp, fun k => by simp [lI]⟩
  | i :: L, s, hl => by
    rw [List.map_cons, List.nodup_cons] at hl
    obtain ⟨a1, a2, a3, a4⟩ := row_E co i.1 (memS c) s hn
    obtain ⟨h1, h2, h3, h4⟩ := all_E co hn L ((memS c).foldl (fun s j => stE co s i.1 j.1) s) hl.2
    rw [List.foldl_cons, List.map_cons, lI_cons]
    refine ⟨h1.trans a1, by rw [h2, a2]; omega, fun k => ?_, fun k => ?_⟩
    · rw [h3, a3]
      by_cases e : k = i.1
      · rw [if_neg (by rw [e]; exact hl.1), if_pos e, if_pos (by rw [e]; exact List.mem_cons_self), e]
      · rw [if_neg e]
        by_cases e2 : k ∈ L.map (·.1)
        · rw [if_pos e2, if_pos (List.mem_cons_of_mem _ e2)]
        · rw [if_neg e2, if_neg (by rw [List.mem_cons, not_or]; exact ⟨e, e2⟩)]
    · rw [h4, a4, lI_cons]
      by_cases e : k ∈ (memS c).map (·.1)
      · rw [if_pos e, if_pos e, if_pos e]; omega
      · rw [if_neg e, if_neg e, if_neg e]
/-- So level makes what it should. -/
theorem lev_fold {A T : Nat → Nat → Int} {m N r c : Nat} (hA : ∀ i j, (A i j).natAbs ≤ 100) (hT : RT m N A (allP m N) T) (hm : m ≤ 6) (hN : N ≤ 6) (hx : okP m N (r, c)) : T r c = (lev0 A r c).v ∧ ouS c (fun i j => cofT T r c i j) ⟨T r c, 0, fun _ => 0, fun _ => 0⟩ (memS r) = lev0 A r c := by
  obtain ⟨x1, x2, x3, x4, x5⟩ := hx
  simp only at x1 x2 x3 x4 x5
  have hr : r < 64 := Nat.lt_of_lt_of_le x2 (Nat.pow_le_pow_right (n := 2) (by omega) hm)
  have hc : c < 64 := Nat.lt_of_lt_of_le x4 (Nat.pow_le_pow_right (n := 2) (by omega) hN)
  have hTv : T r c = mnI A (mem r) (mem c) := hT.whole hr hc (.inr ⟨x1, x2, x3, x4, x5⟩)
  refine ⟨hTv, ?_⟩
  have hcof : ∀ i j, i < 6 → r.testBit i = true → j < 6 → c.testBit j = true → cofT T r c i j = cf A r c i j := fun i j i6 bi j6 bj => by
    obtain ⟨-, -, -, w4, w5⟩ := wo_mem r hr i i6 bi
    obtain ⟨-, -, -, v4, v5⟩ := wo_mem c hc j j6 bj
    have hval : T (wo r i) (wo c j) = mnI A (mem (wo r i)) (mem (wo c j)) := by
      refine hT.whole (wo_lt r hr i i6) (wo_lt c hc j j6) ?_
      by_cases h0 : sz (wo r i) = 0
      · exact .inl ⟨sz_zero _ (wo_lt r hr i i6) h0, sz_zero _ (wo_lt c hc j j6) (by omega)⟩
      · have z0 : sz 0 = 0 := by decide +kernel
        have n1 : 1 ≤ wo r i := by
          rcases Nat.eq_zero_or_pos (wo r i) with hz | hz
          · rw [hz] at h0; omega
          · exact hz
        have n2 : 1 ≤ wo c j := by
          rcases Nat.eq_zero_or_pos (wo c j) with hz | hz
          · rw [hz] at v5; omega
          · exact hz
        exact .inr ⟨n1, by simp only; omega, n2, by simp only; omega, by simp only; omega⟩
    unfold cofT cf
    rw [hval]
    split
    · refine wrap_id ?_
      rw [Int.natAbs_neg]
      have := cf_bnd hA (j := j) hr hc i6 j6 bi
      rw [cf_nab] at this
      omega
    · rfl
  -- outside the part nothing is asked: the same fold over a function that is small everywhere
  obtain ⟨co, hco⟩ : ∃ co : Nat → Nat → Int, co = fun i j => if i < 6 ∧ r.testBit i = true ∧ j < 6 ∧ c.testBit j = true then cf A r c i j else 0 := ⟨_, rfl⟩
  have hB : ∀ i j, (co i j).natAbs ≤ 77760000000000 := fun i j => by
    rw [hco]
    simp only
    split
    · rename_i h
      exact cf_bnd hA hr hc h.1 h.2.2.1 h.2.1
    · decide
  have hin : ∀ (i : MS r) (L : List (MS c)) (s : So), inS (fun i j => cofT T r c i j) s i.1 L = inS co s i.1 L := fun i L => by
    induction L with
    | nil => intro s; rfl
    | cons j L ih =>
      intro s
      have e : stS (fun i j => cofT T r c i j) s i.1 j.1 = stS co s i.1 j.1 := by
        unfold stS
        rw [hco]
        simp only
        rw [if_pos ⟨i.2.1, i.2.2, j.2.1, j.2.2⟩, hcof i.1 j.1 i.2.1 i.2.2 j.2.1 j.2.2]
      unfold inS at ih ⊢
      rw [List.foldl_cons, List.foldl_cons, e]
      exact ih _
  have hou : ∀ (L : List (MS r)) (s : So), ouS c (fun i j => cofT T r c i j) s L = ouS c co s L := fun L => by
    induction L with
    | nil => intro s; rfl
    | cons i L ih =>
      intro s
      unfold ouS at ih ⊢
      rw [List.foldl_cons, List.foldl_cons, hin]
      exact ih _
  have l1 : (memS r).length ≤ 6 := by rw [memS_len]; exact sz_le r hr
  have l2 : (memS c).length ≤ 6 := by rw [memS_len]; exact sz_le c hc
  have l3 : 77760000000000 * (memS c).length * (memS r).length ≤ 77760000000000 * 6 * 6 := Nat.mul_le_mul (Nat.mul_le_mul_left _ l2) l1
  rw [hou, ouS_E hB (memS r) ⟨T r c, 0, fun _ => 0, fun _ => 0⟩ 0 ⟨by simp, fun _ => by simp, fun _ => by simp⟩ (by omega)]
  have nr : ((memS r).map (·.1)).Nodup := by rw [memS_is]; exact mem_nodup r
  have nc : ((memS c).map (·.1)).Nodup := by rw [memS_is]; exact mem_nodup c
  obtain ⟨a1, a2, a3, a4⟩ := all_E co nc (memS r) ⟨T r c, 0, fun _ => 0, fun _ => 0⟩ nr
  rw [memS_is, memS_is] at a2
  rw [memS_is] at a3 a4
  have hrowc : ∀ i, i < 6 → r.testBit i = true → lI (mem c) (co i) = lI (mem c) (cf A r c i) := fun i i6 bi => lI_congr fun j hj => by
    obtain ⟨j6, bj⟩ := (mem_lt c j).1 hj
    rw [hco]; simp only; rw [if_pos ⟨i6, bi, j6, bj⟩]
  refine So.ext' (by rw [a1]; exact hTv) ?_ (fun k => ?_) (fun k => ?_)
  · rw [a2]
    simp only [lev0]
    rw [Int.zero_add]
    refine lI_congr fun i hi => ?_
    obtain ⟨i6, bi⟩ := (mem_lt r i).1 hi
    exact hrowc i i6 bi
  · rw [a3, memS_is]
    simp only [lev0]
    by_cases hk : k ∈ mem r
    · obtain ⟨k6, bk⟩ := (mem_lt r k).1 hk
      rw [if_pos hk, if_pos bk, Int.zero_add, hrowc k k6 bk]
    · rw [if_neg hk]
      by_cases bk : r.testBit k = true
      · exfalso
        refine hk ((mem_lt r k).2 ⟨?_, bk⟩)
        rcases Nat.lt_or_ge k 6 with h6 | h6
        · exact h6
        · have h1 : r < 2 ^ k := Nat.lt_of_lt_of_le hr (Nat.pow_le_pow_right (n := 2) (by omega) h6)
          have := Nat.testBit_lt_two_pow h1
          rw [bk] at this; cases this
      · rw [if_neg bk]
  · rw [a4, memS_is]
    simp only [lev0]
    by_cases hk : k ∈ mem c
    · obtain ⟨k6, bk⟩ := (mem_lt c k).1 hk
      rw [if_pos hk, if_pos bk, Int.zero_add]
      refine lI_congr fun i hi => ?_
      obtain ⟨i6, bi⟩ := (mem_lt r i).1 hi
      rw [hco]; simp only; rw [if_pos ⟨i6, bi, k6, bk⟩]
    · rw [if_neg hk]
      by_cases bk : c.testBit k = true
      · exfalso
        refine hk ((mem_lt c k).2 ⟨?_, bk⟩)
        rcases Nat.lt_or_ge k 6 with h6 | h6
        · exact h6
        · have h1 : c < 2 ^ k := Nat.lt_of_lt_of_le hc (Nat.pow_le_pow_right (n := 2) (by omega) h6)
          have := Nat.testBit_lt_two_pow h1
          rw [bk] at this; cases this
      · rw [if_neg bk]
end Go.Proofs.YthplbfjpmnpjmaaDoor
