/-
  Plain mathematics: tables by a queue: what is kept on the way.
-/
import Derived.Test.YtbijadnekoeofaaGreatDoorT1
namespace Go.Proofs.YtbijadnekoeofaaGreatDoor

/-- How many of the current one's edges have been gone through. -/
def curE (fr : Nat → List Nat) (known : List Nat) (k p i : Nat) : Nat :=
  match known[k]? with
  | some j => ((fr j).take p).count i
  | none => 0
/-- What holds on the way: those ahead of k have been gone through, and p edges of the one at k. -/
structure QI (N : Nat) (nxt : Nat → List Nat) (v0 : Nat → Nat) (fr : Nat → List Nat) (A : Nat → Nat × Nat) (left : Nat → Int) (known : List Nat) (k p : Nat) : Prop where
  over : ∀ i, i < N → v0 i ≠ 0 → A i = (v0 i, 0)
  val : ∀ i, i < N → v0 i = 0 → (A i).1 = 0 ∨ (A i).1 = 1 ∨ (A i).1 = 2
  kn : ∀ j, j ∈ known ↔ j < N ∧ ((A j).1 = 1 ∨ (A j).1 = 2)
  nd : known.Nodup
  srt : ∀ a b x y : Nat, a ≤ b → known[a]? = some x → known[b]? = some y → (A x).2 ≤ (A y).2
  top : ∀ j : Nat, known[k]? = some j → ∀ x ∈ known, (A x).2 ≤ (A j).2 + 1
  unk : ∀ i, i < N → v0 i = 0 → (A i).1 = 0 → A i = (0, 0) ∧ left i = (((nxt i).filter (fun j => decide (j ∉ known.take k))).length : Int) - (curE fr known k p i : Int) ∧ 0 < left i ∧ (∀ j ∈ known.take k, j ∈ nxt i → (A j).1 = 1) ∧ ∀ j, known[k]? = some j → i ∈ (fr j).take p → (A j).1 = 1
  win : ∀ i, i < N → v0 i = 0 → (A i).1 = 1 → (∃ j ∈ nxt i, (A j).1 = 2 ∧ (A i).2 = (A j).2 + 1) ∧ ∀ j ∈ nxt i, (A j).1 = 2 → (A i).2 ≤ (A j).2 + 1
  los : ∀ i, i < N → v0 i = 0 → (A i).1 = 2 → (∀ j ∈ nxt i, (A j).1 = 1 ∧ (A j).2 + 1 ≤ (A i).2) ∧ ∃ j ∈ nxt i, (A i).2 = (A j).2 + 1

theorem count_le {j : Nat} {T : List Nat} (hj : j ∉ T) : ∀ l : List Nat, l.count j ≤ (l.filter (fun z => decide (z ∉ T))).length
  | [] => Nat.zero_le _
  | a :: l => by
    have ih := count_le hj l
    rw [List.count_cons]
    by_cases haj : a = j
    · subst haj
      rw [List.filter_cons_of_pos (by simpa using hj), List.length_cons, if_pos (by simp)]
      omega
    · have hb : (a == j) = false := by simpa using haj
      rw [hb]
      simp only [Bool.false_eq_true, if_false, Nat.add_zero]
      by_cases ham : a ∈ T
      · rw [List.filter_cons_of_neg (by simpa using ham)]; exact ih
      · rw [List.filter_cons_of_pos (by simpa using ham), List.length_cons]; omega
theorem count_lt {j y : Nat} {T : List Nat} (hj : j ∉ T) : ∀ {l : List Nat}, y ∈ l → y ∉ T → y ≠ j → l.count j + 1 ≤ (l.filter (fun z => decide (z ∉ T))).length
  | [], hy, _, _ => by simp at hy
  | a :: l, hy, hy1, hy2 => by
    rw [List.count_cons]
    by_cases haj : a = j
    · subst haj
      have hy' : y ∈ l := by
        rcases List.mem_cons.1 hy with e | e
        · exact absurd e hy2
        · exact e
      have ih := count_lt hj hy' hy1 hy2
      rw [List.filter_cons_of_pos (by simpa using hj), List.length_cons, if_pos (by simp)]
      omega
    · have hb : (a == j) = false := by simpa using haj
      rw [hb]
      simp only [Bool.false_eq_true, if_false, Nat.add_zero]
      rcases List.mem_cons.1 hy with e | e
      · subst e
        have := count_le hj l
        rw [List.filter_cons_of_pos (by simpa using hy1), List.length_cons]
        omega
      · have ih := count_lt hj e hy1 hy2
        by_cases ham : a ∈ T
        · rw [List.filter_cons_of_neg (by simpa using ham)]; exact ih
        · rw [List.filter_cons_of_pos (by simpa using ham), List.length_cons]; omega

section
variable {N : Nat} {nxt : Nat → List Nat} {v0 : Nat → Nat} {fr : Nat → List Nat} {A : Nat → Nat × Nat} {left : Nat → Int} {known : List Nat} {k p : Nat}
theorem QI.fin (h : QI N nxt v0 fr A left known k p) (hn : ∀ i, i < N → ∀ j ∈ nxt i, j < N) (hk : known.length ≤ k) : Cons N nxt v0 (finR A) := by
  have hf : ∀ {i}, (A i).1 ≠ 0 → finR A i = A i := fun {i} h => by unfold finR; rw [if_neg h]
  have hback : ∀ {i v}, v ≠ 3 → (finR A i).1 = v → v ≠ 0 → (A i).1 = v ∧ finR A i = A i := fun {i v} h3 hv h0 => by
    unfold finR at hv ⊢
    split at hv
    · exact absurd hv.symm h3
    · rename_i hz
      rw [if_neg hz]
      exact ⟨hv, rfl⟩
  have htake : known.take k = known := List.take_of_length_le hk
  refine ⟨fun i hi h0 => ?_, fun i hi h0 => ?_⟩
  · have := h.over i hi h0
    rw [hf (by rw [this]; exact h0), this]
  · rcases h.val i hi h0 with hz | h1 | h2
    · right; right
      obtain ⟨hz0, hl, hpos, hw, -⟩ := h.unk i hi h0 hz
      refine ⟨by unfold finR; rw [if_pos hz], fun j hj h2 => ?_, ?_⟩
      · obtain ⟨h2', -⟩ := hback (by omega) h2 (by omega)
        have := hw j (by rw [htake]; exact (h.kn j).2 ⟨hn i hi j hj, .inr h2'⟩) hj
        omega
      · have hne : (nxt i).filter (fun j => decide (j ∉ known.take k)) ≠ [] := fun e => by
          rw [e] at hl
          simp only [List.length_nil] at hl
          omega
        obtain ⟨j, hj⟩ := List.exists_mem_of_ne_nil _ hne
        rw [List.mem_filter] at hj
        obtain ⟨hj1, hj2⟩ := hj
        have hj3 : j ∉ known := by rw [htake] at hj2; simpa using hj2
        refine ⟨j, hj1, fun h1 => ?_⟩
        obtain ⟨h1', -⟩ := hback (by omega) h1 (by omega)
        exact hj3 ((h.kn j).2 ⟨hn i hi j hj1, .inl h1'⟩)
    · left
      obtain ⟨⟨j, hj, a1, a2⟩, a3⟩ := h.win i hi h0 h1
      refine ⟨by rw [hf (by omega)]; exact h1, ⟨j, hj, by rw [hf (by omega)]; exact a1, by rw [hf (by omega), hf (by omega)]; exact a2⟩, fun x hx h2 => ?_⟩
      obtain ⟨h2', e⟩ := hback (by omega) h2 (by omega)
      rw [hf (by omega), e]
      exact a3 x hx h2'
    · right; left
      obtain ⟨a1, j, hj, a2⟩ := h.los i hi h0 h2
      refine ⟨by rw [hf (by omega)]; exact h2, fun x hx => ?_, j, hj, ?_⟩
      · obtain ⟨b1, b2⟩ := a1 x hx
        rw [hf (show (A x).1 ≠ 0 by omega), hf (show (A i).1 ≠ 0 by omega)]
        exact ⟨b1, b2⟩
      · rw [hf (show (A i).1 ≠ 0 by omega), hf (show (A j).1 ≠ 0 by have := (a1 j hj).1; omega)]
        exact a2
/-- The next one. -/
theorem QI.next (h : QI N nxt v0 fr A left known k p) (hfr : ∀ i j, i < N → (fr j).count i = (nxt i).count j) {j : Nat} (hj : known[k]? = some j) (hp : (fr j).length ≤ p) : QI N nxt v0 fr A left known (k + 1) 0 := by
  have hkl : k < known.length := (List.getElem?_eq_some_iff.1 hj).1
  have hjk : j ∈ known := List.mem_of_getElem? hj
  have htk : known.take (k + 1) = known.take k ++ [j] := by rw [List.take_add_one, hj]; rfl
  have hnot : j ∉ known.take k := by
    have hnd := h.nd
    rw [← List.take_append_drop (k + 1) known, htk] at hnd
    have h1 := (List.nodup_append.1 hnd).1
    have h2 := (List.nodup_append.1 h1).2.2
    intro hm
    exact h2 j hm j (by simp) rfl
  refine ⟨h.over, h.val, h.kn, h.nd, h.srt, ?_, ?_, h.win, h.los⟩
  · intro j' hj' x hx
    have h1 := h.top j hj x hx
    have h2 := h.srt k (k + 1) j j' (by omega) hj hj'
    omega
  · intro i hi h0 hz
    obtain ⟨a1, a2, a3, a4, a5⟩ := h.unk i hi h0 hz
    have hcur : curE fr known k p i = (nxt i).count j := by
      unfold curE
      rw [hj]
      simp only
      rw [List.take_of_length_le hp]
      exact hfr i j hi
    have hcur0 : curE fr known (k + 1) 0 i = 0 := by
      unfold curE
      split <;> simp
    have hlen : ((nxt i).filter (fun x => decide (x ∉ known.take k))).length = ((nxt i).filter (fun x => decide (x ∉ known.take (k + 1)))).length + (nxt i).count j := by
      clear a1 a2 a3 a4 a5 hcur
      induction nxt i with
      | nil => rfl
      | cons y ys ih =>
        rw [List.count_cons]
        by_cases hy : y = j
        · subst hy
          rw [List.filter_cons_of_pos (by simpa using hnot), List.filter_cons_of_neg (by simp [htk]), List.length_cons, ih]
          simp
          omega
        · have hb : (y == j) = false := by simpa using hy
          rw [hb]
          by_cases hm : y ∈ known.take k
          · rw [List.filter_cons_of_neg (by simpa using hm), List.filter_cons_of_neg (by rw [htk]; simp [hm]), ih]
            simp
          · rw [List.filter_cons_of_pos (by simpa using hm), List.filter_cons_of_pos (by rw [htk]; simp [hm, hy]), List.length_cons, List.length_cons, ih]
            simp
            omega
    refine ⟨a1, by rw [hcur0, a2, hcur, hlen]; omega, a3, fun x hx hxi => ?_, fun j' _ hx => by simp at hx⟩
    rw [htk, List.mem_append, List.mem_singleton] at hx
    rcases hx with hx | rfl
    · exact a4 x hx hxi
    · refine a5 x hj ?_
      rw [List.take_of_length_le hp, ← List.count_pos_iff, hfr i x hi, List.count_pos_iff]
      exact hxi
/-- An edge to it of one that is known already, or of which nothing is known thereby. -/
theorem QI.edge0 (h : QI N nxt v0 fr A left known k p) {j i : Nat} (hj : known[k]? = some j) (hi : (fr j)[p]? = some i) (hv : (A i).1 ≠ 0) : QI N nxt v0 fr A left known k (p + 1) := by
  refine ⟨h.over, h.val, h.kn, h.nd, h.srt, h.top, ?_, h.win, h.los⟩
  intro x hx h0 hz
  obtain ⟨a1, a2, a3, a4, a5⟩ := h.unk x hx h0 hz
  have hne : i ≠ x := fun e => hv (by rw [e]; exact hz)
  have ht : (fr j).take (p + 1) = (fr j).take p ++ [i] := by rw [List.take_add_one, hi]; rfl
  have hcur : curE fr known k (p + 1) x = curE fr known k p x := by
    unfold curE
    rw [hj]
    simp only [ht]
    rw [List.count_append, List.count_singleton]
    simp [hne]
  refine ⟨a1, by rw [hcur]; exact a2, a3, a4, fun j' hj' hm => ?_⟩
  rw [hj] at hj'
  cases hj'
  rw [ht, List.mem_append, List.mem_singleton] at hm
  rcases hm with hm | hm
  · exact a5 j hj hm
  · exact absurd hm.symm hne
theorem QI.edge1 (h : QI N nxt v0 fr A left known k p) {j i : Nat} (hj : known[k]? = some j) (hi : (fr j)[p]? = some i) (hiN : i < N) (h0 : v0 i = 0) (hv : (A i).1 = 0) (left' : Nat → Int) (hl : left' i = left i - 1) (hlo : ∀ x, x ≠ i → left' x = left x) (hnz : left' i ≠ 0) (hjl : (A j).1 ≠ 2) : QI N nxt v0 fr A left' known k (p + 1) := by
  have ht : (fr j).take (p + 1) = (fr j).take p ++ [i] := by rw [List.take_add_one, hi]; rfl
  have hj12 := ((h.kn j).1 (List.mem_of_getElem? hj)).2
  refine ⟨h.over, h.val, h.kn, h.nd, h.srt, h.top, ?_, h.win, h.los⟩
  intro x hx hx0 hz
  obtain ⟨a1, a2, a3, a4, a5⟩ := h.unk x hx hx0 hz
  by_cases hxi : x = i
  · subst hxi
    have hcur : curE fr known k (p + 1) x = curE fr known k p x + 1 := by
      unfold curE
      rw [hj]
      simp only [ht]
      rw [List.count_append, List.count_singleton]
      simp
    refine ⟨a1, by rw [hcur, hl, a2]; omega, by omega, a4, fun j' hj' _ => ?_⟩
    rw [hj] at hj'
    cases hj'
    omega
  · have hcur : curE fr known k (p + 1) x = curE fr known k p x := by
      unfold curE
      rw [hj]
      simp only [ht]
      rw [List.count_append, List.count_singleton]
      have hxi' : ¬ i = x := fun e => hxi e.symm
      simp [hxi']
    refine ⟨a1, by rw [hcur, hlo x hxi]; exact a2, by rw [hlo x hxi]; exact a3, a4, fun j' hj' hm => ?_⟩
    rw [hj] at hj'
    cases hj'
    rw [ht, List.mem_append, List.mem_singleton] at hm
    rcases hm with hm | hm
    · exact a5 j hj hm
    · exact absurd hm hxi
/-- An edge by which something is known. -/
theorem QI.edge2 (h : QI N nxt v0 fr A left known k p) (hn : ∀ i, i < N → ∀ j ∈ nxt i, j < N) (hfr : ∀ i j, i < N → (fr j).count i = (nxt i).count j) {j i : Nat} (hj : known[k]? = some j) (hi : (fr j)[p]? = some i) (hiN : i < N) (h0 : v0 i = 0) (hv : (A i).1 = 0) (left' : Nat → Int) (hl : left' i = left i - 1) (hlo : ∀ x, x ≠ i → left' x = left x) (A' : Nat → Nat × Nat) (hAo : ∀ x, x ≠ i → A' x = A x) (v : Nat) (hA : A' i = (v, (A j).2 + 1)) (hcase : ((A j).1 = 2 ∧ v = 1) ∨ ((A j).1 ≠ 2 ∧ left' i = 0 ∧ v = 2)) : QI N nxt v0 fr A' left' (known ++ [i]) k (p + 1) := by
  have ht : (fr j).take (p + 1) = (fr j).take p ++ [i] := by rw [List.take_add_one, hi]; rfl
  have hkl : k < known.length := (List.getElem?_eq_some_iff.1 hj).1
  have hjk := List.mem_of_getElem? hj
  have hj12 := ((h.kn j).1 hjk).2
  have hjN := ((h.kn j).1 hjk).1
  have hik : i ∉ known := fun hm => by have := ((h.kn i).1 hm).2; omega
  have hji : j ≠ i := fun e => hik (e ▸ hjk)
  have hv12 : v = 1 ∨ v = 2 := by rcases hcase with ⟨-, h⟩ | ⟨-, -, h⟩ <;> omega
  have hjn : j ∈ nxt i := by
    rw [← List.count_pos_iff, ← hfr i j hiN, List.count_pos_iff]
    exact List.mem_of_getElem? hi
  have hA1 : (A' i).1 = v := by rw [hA]
  have hA2 : (A' i).2 = (A j).2 + 1 := by rw [hA]
  have htk : (known ++ [i]).take k = known.take k := List.take_append_of_le_length (by omega)
  have hat : (known ++ [i])[k]? = some j := by rw [List.getElem?_append_left hkl]; exact hj
  obtain ⟨u1, u2, u3, u4, u5⟩ := h.unk i hiN h0 hv
  have hdist : ∀ x, (A x).1 = 2 → x < N → x ∈ nxt i → (A j).2 ≤ (A x).2 := fun x h2 hx hxi => by
    obtain ⟨b, hb⟩ := List.getElem?_of_mem ((h.kn x).2 ⟨hx, .inr h2⟩)
    rcases Nat.lt_or_ge b k with hlt | hge
    · have := u4 x (by
        rw [List.mem_take_iff_getElem]
        have hbl := (List.getElem?_eq_some_iff.1 hb).1
        exact ⟨b, by omega, (List.getElem?_eq_some_iff.1 hb).2⟩) hxi
      omega
    · exact h.srt k b j x hge hj hb
  refine ⟨?_, ?_, ?_, ?_, ?_, ?_, ?_, ?_, ?_⟩
  · intro x hx hx0
    rw [hAo x (fun e => hx0 (by rw [e]; exact h0))]
    exact h.over x hx hx0
  · intro x hx hx0
    by_cases hxi : x = i
    · subst hxi; rw [hA1]; omega
    · rw [hAo x hxi]; exact h.val x hx hx0
  · intro x
    rw [List.mem_append, List.mem_singleton]
    by_cases hxi : x = i
    · subst hxi
      rw [hA1]
      exact ⟨fun _ => ⟨hiN, hv12⟩, fun _ => .inr rfl⟩
    · rw [hAo x hxi]
      exact ⟨fun hh => (h.kn x).1 (by rcases hh with hh | hh; exact hh; exact absurd hh hxi), fun hh => .inl ((h.kn x).2 hh)⟩
  · rw [List.nodup_append]
    refine ⟨h.nd, by simp, fun x hx y hy e => ?_⟩
    rw [List.mem_singleton] at hy
    subst hy
    subst e
    exact hik hx
  · intro a b x y hab hx hy
    by_cases hb : b < known.length
    · rw [List.getElem?_append_left hb] at hy
      rw [List.getElem?_append_left (by omega)] at hx
      rw [hAo x (fun e => hik (e ▸ List.mem_of_getElem? hx)), hAo y (fun e => hik (e ▸ List.mem_of_getElem? hy))]
      exact h.srt a b x y hab hx hy
    · have hby : y = i := by
        rw [List.getElem?_append_right (by omega)] at hy
        have := List.mem_of_getElem? hy
        simpa using this
      subst hby
      rw [hA2]
      by_cases hal : a < known.length
      · rw [List.getElem?_append_left hal] at hx
        have hxk := List.mem_of_getElem? hx
        rw [hAo x (fun e => hik (e ▸ hxk))]
        exact h.top j hj x hxk
      · have hxy : x = y := by
          rw [List.getElem?_append_right (by omega)] at hx
          have := List.mem_of_getElem? hx
          simpa using this
        rw [hxy, hA2]
        exact Nat.le_refl _
  · intro j' hj' x hx
    rw [hat] at hj'
    cases hj'
    rw [hAo j hji]
    rw [List.mem_append, List.mem_singleton] at hx
    rcases hx with hx | rfl
    · rw [hAo x (fun e => hik (e ▸ hx))]
      exact h.top j hj x hx
    · rw [hA2]
      exact Nat.le_refl _
  · intro x hx hx0 hz
    have hxi : x ≠ i := fun e => by rw [e, hA1] at hz; omega
    rw [hAo x hxi] at hz ⊢
    obtain ⟨a1, a2, a3, a4, a5⟩ := h.unk x hx hx0 hz
    have hcur : curE fr (known ++ [i]) k (p + 1) x = curE fr known k p x := by
      unfold curE
      rw [hj, hat]
      simp only [ht]
      rw [List.count_append, List.count_singleton]
      have hxi' : ¬ i = x := fun e => hxi e.symm
      simp [hxi']
    rw [htk]
    refine ⟨a1, by rw [hcur, hlo x hxi]; exact a2, by rw [hlo x hxi]; exact a3, fun y hy hyx => ?_, fun j' hj' hm => ?_⟩
    · rw [hAo y (fun e => hik (e ▸ List.mem_of_mem_take hy))]
      exact a4 y hy hyx
    · rw [hat] at hj'
      cases hj'
      rw [hAo j hji]
      rw [ht, List.mem_append, List.mem_singleton] at hm
      rcases hm with hm | hm
      · exact a5 j hj hm
      · exact absurd hm hxi
  · intro x hx hx0 h1
    by_cases hxi : x = i
    · subst hxi
      rw [hA1] at h1
      have hj2 : (A j).1 = 2 := by
        rcases hcase with ⟨h2, -⟩ | ⟨-, -, h2⟩
        · exact h2
        · omega
      refine ⟨⟨j, hjn, by rw [hAo j hji]; exact hj2, by rw [hA2, hAo j hji]⟩, fun y hy h2 => ?_⟩
      by_cases hyx : y = x
      · subst hyx; rw [hA1] at h2; omega
      · rw [hAo y hyx] at h2 ⊢
        rw [hA2]
        have := hdist y h2 (hn x hx y hy) hy
        omega
    · rw [hAo x hxi] at h1 ⊢
      obtain ⟨⟨y, hy, b1, b2⟩, b3⟩ := h.win x hx hx0 h1
      have hyi : y ≠ i := fun e => by rw [e] at b1; omega
      refine ⟨⟨y, hy, by rw [hAo y hyi]; exact b1, by rw [hAo y hyi]; exact b2⟩, fun z hz' h2 => ?_⟩
      by_cases hzi : z = i
      · subst hzi
        rw [hA2]
        have := h.top j hj x ((h.kn x).2 ⟨hx, .inl h1⟩)
        omega
      · rw [hAo z hzi] at h2 ⊢
        exact b3 z hz' h2
  · intro x hx hx0 h2
    by_cases hxi : x = i
    · subst hxi
      rw [hA1] at h2
      have hw : (A j).1 ≠ 2 ∧ left' x = 0 := by
        rcases hcase with ⟨-, h3⟩ | ⟨h3, h4, -⟩
        · omega
        · exact ⟨h3, h4⟩
      have hj1 : (A j).1 = 1 := by omega
      -- all edges have been gone through
      have hall : ∀ y ∈ nxt x, y ∈ known.take k ∨ y = j := fun y hy => by
        apply Classical.byContradiction
        intro hno
        have hy1 : y ∉ known.take k := fun hm => hno (.inl hm)
        have hy2 : y ≠ j := fun hm => hno (.inr hm)
        have hlen : (nxt x).count j + 1 ≤ ((nxt x).filter (fun z => decide (z ∉ known.take k))).length := by
          have hjnot : j ∉ known.take k := by
            have hnd := h.nd
            rw [← List.take_append_drop (k + 1) known, show known.take (k + 1) = known.take k ++ [j] by rw [List.take_add_one, hj]; rfl] at hnd
            have h1 := (List.nodup_append.1 hnd).1
            have h2 := (List.nodup_append.1 h1).2.2
            intro hm
            exact h2 j hm j (by simp) rfl
          exact count_lt hjnot hy hy1 hy2
        have hcur : curE fr known k p x + 1 ≤ (nxt x).count j := by
          rw [← hfr x j hiN]
          unfold curE
          rw [hj]
          simp only
          have h3 : ((fr j).take (p + 1)).count x ≤ (fr j).count x := (List.take_sublist _ _).count_le _
          rw [ht, List.count_append, List.count_singleton] at h3
          simpa using h3
        omega
      have hwy : ∀ y ∈ nxt x, (A y).1 = 1 ∧ (A y).2 ≤ (A j).2 ∧ y ≠ x := fun y hy => by
        rcases hall y hy with hm | rfl
        · have hyk := List.mem_of_mem_take hm
          refine ⟨u4 y hm hy, ?_, fun e => hik (e ▸ hyk)⟩
          rw [List.mem_take_iff_getElem] at hm
          obtain ⟨b, hb, hbe⟩ := hm
          exact h.srt b k y j (by omega) (List.getElem?_eq_some_iff.2 ⟨by omega, hbe⟩) hj
        · exact ⟨hj1, Nat.le_refl _, hji⟩
      refine ⟨fun y hy => ?_, j, hjn, by rw [hA2, hAo j hji]⟩
      obtain ⟨b1, b2, b3⟩ := hwy y hy
      rw [hAo y b3, hA2]
      exact ⟨b1, by omega⟩
    · rw [hAo x hxi] at h2 ⊢
      obtain ⟨b1, y, hy, b2⟩ := h.los x hx hx0 h2
      have hni : ∀ z ∈ nxt x, z ≠ i := fun z hz' e => by
        have := (b1 z hz').1
        rw [e] at this
        omega
      refine ⟨fun z hz' => ?_, y, hy, by rw [hAo y (hni y hy)]; exact b2⟩
      rw [hAo z (hni z hz')]
      exact b1 z hz'
/-- At first. -/
theorem QI.start (known : List Nat) (hne : ∀ i, i < N → v0 i = 0 → nxt i ≠ []) (hk : ∀ j, j ∈ known ↔ j < N ∧ (v0 j = 1 ∨ v0 j = 2)) (hnd : known.Nodup) (hA : ∀ i, i < N → A i = (v0 i, 0)) (hl : ∀ i, i < N → left i = ((nxt i).length : Int)) : QI N nxt v0 fr A left known 0 0 := by
  have hkn : ∀ j, j ∈ known → A j = (v0 j, 0) := fun j hj => hA j ((hk j).1 hj).1
  refine ⟨fun i hi _ => hA i hi, fun i hi h0 => by rw [hA i hi]; exact .inl h0, fun j => ?_, hnd, fun a b x y _ hx hy => ?_, fun j hj x hx => ?_, fun i hi h0 hz => ?_, fun i hi h0 h1 => ?_, fun i hi h0 h1 => ?_⟩
  · rw [hk j]
    constructor
    · rintro ⟨h1, h2⟩
      rw [hA j h1]
      exact ⟨h1, h2⟩
    · rintro ⟨h1, h2⟩
      rw [hA j h1] at h2
      exact ⟨h1, h2⟩
  · rw [hkn x (List.mem_of_getElem? hx)]
    exact Nat.zero_le _
  · rw [hkn x hx]
    exact Nat.zero_le _
  · have hcur : curE fr known 0 0 i = 0 := by unfold curE; split <;> simp
    have hlen : (nxt i).filter (fun j => decide (j ∉ known.take 0)) = nxt i := List.filter_eq_self.2 (fun a _ => by simp)
    have hpos : 0 < (nxt i).length := List.length_pos_iff.2 (hne i hi h0)
    refine ⟨by rw [hA i hi, h0], by rw [hcur, hlen, hl i hi]; simp, by rw [hl i hi]; omega, fun j hj => by simp at hj, fun j _ hm => by simp at hm⟩
  · rw [hA i hi] at h1
    simp only at h1
    omega
  · rw [hA i hi] at h1
    simp only at h1
    omega
end
end Go.Proofs.YtbijadnekoeofaaGreatDoor
