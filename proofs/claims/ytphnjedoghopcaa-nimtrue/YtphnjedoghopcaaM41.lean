/-
  Plain mathematics: the least number that is none of a list; graphs, ranks, values; what is added without carrying.
-/
namespace Go.Proofs.Ytphnjedoghopcaa

theorem all_below : ∀ (n : Nat) (l : List Nat), (∀ k, k < n → k ∈ l) → n ≤ l.length
  | 0, _, _ => Nat.zero_le _
  | n + 1, l, h => by
    have hn := h n (Nat.lt_succ_self n)
    have := all_below n (l.erase n) (fun k hk => (List.mem_erase_of_ne (by omega)).2 (h k (by omega)))
    rw [List.length_erase_of_mem hn] at this
    have hp := List.length_pos_of_mem hn
    omega
/-- The least number from k on, of so many, that is none of them. -/
def mexF (l : List Nat) : Nat → Nat → Nat
  | 0, k => k
  | f + 1, k => if k ∈ l then mexF l f (k + 1) else k
/-- The least number that is none of them. -/
def mexN (l : List Nat) : Nat := mexF l (l.length + 1) 0
theorem mexF_spec (l : List Nat) : ∀ (f k : Nat), (∀ j, j < k → j ∈ l) → l.length < k + f → mexF l f k ∉ l ∧ ∀ j, j < mexF l f k → j ∈ l
  | 0, k, h, hl => by have := all_below k l h; omega
  | f + 1, k, h, hl => by
    rw [mexF]
    split
    · rename_i hk
      exact mexF_spec l f (k + 1) (fun j hj => by rcases Nat.lt_succ_iff_lt_or_eq.1 hj with h1 | h1; exact h j h1; exact h1 ▸ hk) (by omega)
    · rename_i hk
      exact ⟨hk, h⟩
theorem mex_no (l : List Nat) : mexN l ∉ l := (mexF_spec l (l.length + 1) 0 (fun j hj => by omega) (by omega)).1
theorem mex_low (l : List Nat) {j : Nat} (h : j < mexN l) : j ∈ l := (mexF_spec l (l.length + 1) 0 (fun j hj => by omega) (by omega)).2 j h
theorem mex_eq {l : List Nat} {m : Nat} (h1 : m ∉ l) (h2 : ∀ j, j < m → j ∈ l) : m = mexN l := by
  rcases Nat.lt_trichotomy m (mexN l) with h | h | h
  · exact absurd (mex_low l h) h1
  · exact h
  · exact absurd (h2 _ h) (mex_no l)
theorem mex_le (l : List Nat) : mexN l ≤ l.length := all_below _ l fun _ h => mex_low l h
theorem mex_congr {l l' : List Nat} (h : ∀ x, x ∈ l ↔ x ∈ l') : mexN l = mexN l' := mex_eq (fun e => mex_no l ((h _).2 e)) (fun _ hj => (h _).1 (mex_low l hj))

/-! ### Graphs -/
/-- A graph within its bounds. -/
structure OkG (G : List (List Int)) : Prop where
  len : G.length ≤ 1000
  row : ∀ (i : Nat) (r : List Int), G[i]? = some r → r.length ≤ 1000
  in_ : ∀ (i : Nat) (r : List Int), G[i]? = some r → ∀ x ∈ r, 0 ≤ x ∧ x < (G.length : Int)
/-- From i one can move to j. -/
def kid (G : List (List Int)) (i j : Nat) : Prop := ∃ r, G[i]? = some r ∧ (j : Int) ∈ r
/-- .. in one move or more. -/
inductive Reach (G : List (List Int)) : Nat → Nat → Prop where
  | one {i j : Nat} (h : kid G i j) : Reach G i j
  | snoc {i k j : Nat} (h : Reach G i k) (h' : kid G k j) : Reach G i j
/-- Each move goes down. -/
def Down (G : List (List Int)) (rk : Nat → Nat) : Prop := ∀ (i : Nat) (r : List Int), G[i]? = some r → ∀ x ∈ r, rk x.toNat < rk i
theorem Reach.down {G : List (List Int)} {rk : Nat → Nat} (hd : Down G rk) {i j : Nat} (h : Reach G i j) : rk j < rk i := by
  induction h with
  | one h => obtain ⟨r, hr, hx⟩ := h; exact hd _ r hr _ hx
  | snoc h h' ih => obtain ⟨r, hr, hx⟩ := h'; exact Nat.lt_trans (hd _ r hr _ hx) ih
theorem no_round {G : List (List Int)} {rk : Nat → Nat} (hd : Down G rk) {c : Nat} (h : Reach G c c) : False := Nat.lt_irrefl _ (h.down hd)
/-- What a number's others are worth. -/
def kidV (V : List Nat) (r : List Int) : List Nat := r.map fun x => V[x.toNat]!
/-- The values of a graph. -/
structure Solves (G : List (List Int)) (V : List Nat) : Prop where
  len : V.length = G.length
  at_ : ∀ (i : Nat) (r : List Int), G[i]? = some r → V[i]! = mexN (kidV V r)
theorem Solves.le {G : List (List Int)} {V : List Nat} (h : Solves G V) (ok : OkG G) {i : Nat} (hi : i < G.length) : V[i]! ≤ 1000 := by
  rw [h.at_ i _ (List.getElem?_eq_getElem hi)]
  refine Nat.le_trans (mex_le _) ?_
  unfold kidV
  rw [List.length_map]
  exact ok.row i _ (List.getElem?_eq_getElem hi)
theorem solves_one {G : List (List Int)} {rk : Nat → Nat} (hd : Down G rk) (ok : OkG G) {V V' : List Nat} (h : Solves G V) (h' : Solves G V') : ∀ (n i : Nat), rk i < n → i < G.length → V[i]! = V'[i]!
  | 0, i, hn, _ => by omega
  | n + 1, i, hn, hi => by
    have hr := List.getElem?_eq_getElem hi
    rw [h.at_ i _ hr, h'.at_ i _ hr]
    congr 1
    unfold kidV
    refine List.map_congr_left fun x hx => ?_
    have hx' := ok.in_ i _ hr x hx
    exact solves_one hd ok h h' n x.toNat (by have := hd i _ hr x hx; omega) (by omega)
theorem solves_eq {G : List (List Int)} {rk : Nat → Nat} (hd : Down G rk) (ok : OkG G) {V V' : List Nat} (h : Solves G V) (h' : Solves G V') : V = V' := by
  apply List.ext_getElem
  · rw [h.len, h'.len]
  · intro i h1 h2
    have := solves_one hd ok h h' (rk i + 1) i (Nat.lt_succ_self _) (by rw [← h.len]; exact h1)
    rwa [getElem!_pos V i h1, getElem!_pos V' i h2] at this

/-! ### A walk through a graph: 0 untouched, 1 begun, 2 done -/
structure Dfs (G : List (List Int)) (F V : List Nat) : Prop where
  lf : F.length = G.length
  lv : V.length = G.length
  three : ∀ j : Nat, F[j]! ≤ 2
  done : ∀ (i : Nat) (r : List Int), G[i]? = some r → F[i]! = 2 → V[i]! = mexN (kidV V r) ∧ ∀ x ∈ r, F[x.toNat]! = 2
  rank : ∃ rk : Nat → Nat, ∀ (i : Nat) (r : List Int), G[i]? = some r → F[i]! = 2 → ∀ x ∈ r, rk x.toNat < rk i
/-- What is begun or done stays so. -/
structure DExt (F V F' V' : List Nat) : Prop where
  keep : ∀ j : Nat, F[j]! ≠ 0 → F'[j]! = F[j]! ∧ V'[j]! = V[j]!
  same : ∀ j : Nat, F'[j]! = 1 → F[j]! = 1
theorem DExt.refl (F V : List Nat) : DExt F V F V := ⟨fun _ _ => ⟨rfl, rfl⟩, fun _ h => h⟩
theorem DExt.trans {F V F' V' F'' V'' : List Nat} (h : DExt F V F' V') (h' : DExt F' V' F'' V'') : DExt F V F'' V'' :=
  ⟨fun j hj => by have a := h.keep j hj; have b := h'.keep j (by rw [a.1]; exact hj); exact ⟨b.1.trans a.1, b.2.trans a.2⟩, fun j hj => h.same j (h'.same j hj)⟩
/-- How many are untouched. -/
def zer (F : List Nat) : Nat := F.countP (· == 0)
theorem get_set! (l : List Nat) (i j v : Nat) : (l.set i v)[j]! = if i = j ∧ j < l.length then v else l[j]! := by
  by_cases h : j < l.length
  · rw [getElem!_pos _ j (by simpa using h), List.getElem_set, getElem!_pos l j h]
    by_cases e : i = j
    · rw [if_pos e, if_pos ⟨e, h⟩]
    · rw [if_neg e, if_neg (fun x => e x.1)]
  · rw [if_neg (fun x => h x.2), getElem!_neg _ j (by simpa using h), getElem!_neg l j h]
theorem zer_set : ∀ (F : List Nat) (i v : Nat), i < F.length → F[i]! = 0 → v ≠ 0 → zer (F.set i v) + 1 = zer F
  | [], i, v, hi, _, _ => by simp at hi
  | x :: F, 0, v, _, h0, hv => by
    have hx : x = 0 := by simpa using h0
    subst hx
    rw [List.set_cons_zero]
    unfold zer
    rw [List.countP_cons, List.countP_cons]
    simp [hv]
  | x :: F, i + 1, v, hi, h0, hv => by
    rw [List.set_cons_succ]
    have := zer_set F i v (by simpa using hi) (by simpa using h0) hv
    unfold zer at this ⊢
    rw [List.countP_cons, List.countP_cons]
    omega
theorem zer_pos : ∀ (F : List Nat) (i : Nat), i < F.length → F[i]! = 0 → 0 < zer F
  | [], i, hi, _ => by simp at hi
  | x :: F, 0, _, h0 => by
    have hx : x = 0 := by simpa using h0
    subst hx
    unfold zer
    rw [List.countP_cons]
    simp
  | x :: F, i + 1, hi, h0 => by
    have := zer_pos F i (by simpa using hi) (by simpa using h0)
    unfold zer at this ⊢
    rw [List.countP_cons]
    omega
theorem zer_le : ∀ (F F' : List Nat), F.length = F'.length → (∀ j : Nat, F[j]! ≠ 0 → F'[j]! ≠ 0) → zer F' ≤ zer F
  | [], [], _, _ => Nat.le_refl _
  | x :: F, y :: F', hl, h => by
    have := zer_le F F' (by simpa using hl) (fun j hj => by have := h (j + 1); simp at this hj ⊢; exact this hj)
    have h0 := h 0
    simp at h0
    unfold zer at this ⊢
    rw [List.countP_cons, List.countP_cons]
    by_cases hx : x = 0
    · simp [hx]; split <;> omega
    · simp [hx, h0 hx]; omega
  | [], _ :: _, hl, _ => by simp at hl
  | _ :: _, [], hl, _ => by simp at hl
theorem DExt.zer {G : List (List Int)} {F V F' V' : List Nat} (h : DExt F V F' V') (h1 : Dfs G F V) (h2 : Dfs G F' V') : zer F' ≤ zer F :=
  zer_le F F' (by rw [h1.lf, h2.lf]) fun j hj => by rw [(h.keep j hj).1]; exact hj
/-- A number is begun. -/
theorem Dfs.begin {G : List (List Int)} {F V : List Nat} (h : Dfs G F V) {i : Nat} (hi : i < G.length) (h0 : F[i]! = 0) : Dfs G (F.set i 1) V := by
  have e : ∀ j : Nat, (F.set i 1)[j]! = if i = j then 1 else F[j]! := fun j => by
    rw [get_set!]
    by_cases hj : i = j
    · rw [if_pos ⟨hj, by rw [h.lf, ← hj]; exact hi⟩, if_pos hj]
    · rw [if_neg (fun x => hj x.1), if_neg hj]
  refine ⟨by rw [List.length_set]; exact h.lf, h.lv, fun j => ?_, fun k r hr h2 => ?_, ?_⟩
  · rw [e]; split
    · omega
    · exact h.three j
  · rw [e] at h2
    split at h2
    · omega
    · obtain ⟨a, b⟩ := h.done k r hr h2
      refine ⟨a, fun x hx => ?_⟩
      rw [e, if_neg]
      · exact b x hx
      · intro hx'
        have := b x hx
        rw [← hx', h0] at this
        omega
  · obtain ⟨rk, hrk⟩ := h.rank
    refine ⟨rk, fun k r hr h2 => ?_⟩
    rw [e] at h2
    split at h2
    · omega
    · exact hrk k r hr h2
/-- .. and done, behind all its others. -/
theorem Dfs.finish {G : List (List Int)} {F V : List Nat} (h : Dfs G F V) {i : Nat} {r : List Int} (hr : G[i]? = some r) (h1 : F[i]! = 1) (hk : ∀ x ∈ r, F[x.toNat]! = 2) :
    Dfs G (F.set i 2) (V.set i (mexN (kidV V r))) := by
  have hi : i < G.length := (List.getElem?_eq_some_iff.1 hr).1
  have e : ∀ j : Nat, (F.set i 2)[j]! = if i = j then 2 else F[j]! := fun j => by
    rw [get_set!]
    by_cases hj : i = j
    · rw [if_pos ⟨hj, by rw [h.lf, ← hj]; exact hi⟩, if_pos hj]
    · rw [if_neg (fun x => hj x.1), if_neg hj]
  have ev : ∀ j : Nat, (V.set i (mexN (kidV V r)))[j]! = if i = j then mexN (kidV V r) else V[j]! := fun j => by
    rw [get_set!]
    by_cases hj : i = j
    · rw [if_pos ⟨hj, by rw [h.lv, ← hj]; exact hi⟩, if_pos hj]
    · rw [if_neg (fun x => hj x.1), if_neg hj]
  have same : ∀ (s : List Int), (∀ x ∈ s, F[x.toNat]! = 2) → kidV (V.set i (mexN (kidV V r))) s = kidV V s := fun s hs => by
    unfold kidV
    refine List.map_congr_left fun x hx => ?_
    have := ev x.toNat
    unfold kidV at this
    rw [this, if_neg]
    intro hx'
    have := hs x hx
    rw [← hx', h1] at this
    omega
  refine ⟨by rw [List.length_set]; exact h.lf, by rw [List.length_set]; exact h.lv, fun j => ?_, fun k s hs h2 => ?_, ?_⟩
  · rw [e]; split
    · omega
    · exact h.three j
  · by_cases hik : i = k
    · subst hik
      rw [hr] at hs
      cases hs
      rw [ev, if_pos rfl, same r hk]
      exact ⟨rfl, fun x hx => by rw [e]; split; rfl; exact hk x hx⟩
    · rw [e, if_neg hik] at h2
      obtain ⟨a, b⟩ := h.done k s hs h2
      rw [ev, if_neg hik, same s b]
      exact ⟨a, fun x hx => by rw [e]; split; rfl; exact b x hx⟩
  · obtain ⟨rk, hrk⟩ := h.rank
    refine ⟨fun j => if j = i then (r.map fun x => rk x.toNat).foldl max 0 + 1 else rk j, fun k s hs h2 x hx => ?_⟩
    have big : ∀ (l : List Nat) (a : Nat), a ≤ l.foldl max a ∧ ∀ y ∈ l, y ≤ l.foldl max a := by
      intro l
      induction l with
      | nil => intro a; exact ⟨Nat.le_refl _, fun y hy => by simp at hy⟩
      | cons z l ih =>
        intro a
        rw [List.foldl_cons]
        have := ih (max a z)
        refine ⟨by omega, fun y hy => ?_⟩
        rcases List.mem_cons.1 hy with rfl | hy
        · omega
        · exact this.2 y hy
    by_cases hik : i = k
    · subst hik
      rw [hr] at hs
      cases hs
      simp only [if_true]
      rw [if_neg]
      · have := (big (r.map fun x => rk x.toNat) 0).2 (rk x.toNat) (List.mem_map_of_mem hx)
        omega
      · intro hx'
        have := hk x hx
        rw [hx', h1] at this
        omega
    · rw [e, if_neg hik] at h2
      have hb := (h.done k s hs h2).2 x hx
      have hlt := hrk k s hs h2 x hx
      simp only
      rw [if_neg (fun hx' : k = i => hik hx'.symm), if_neg (fun hx' : x.toNat = i => by rw [hx', h1] at hb; omega)]
      exact hlt
theorem DExt.finish {F V F2 V2 : List Nat} {i : Nat} (m : Nat) (h0 : F[i]! = 0) (hl : F2.length = F.length) (h : DExt (F.set i 1) V F2 V2) (hi : i < F.length) : DExt F V (F2.set i 2) (V2.set i m) := by
  have ne : ∀ j : Nat, F[j]! ≠ 0 → i ≠ j := fun j hj e => by subst e; exact hj h0
  refine ⟨fun j hj => ?_, fun j hj => ?_⟩
  · have hij := ne j hj
    rw [get_set!, if_neg (fun x => hij x.1), get_set!, if_neg (fun x => hij x.1)]
    have e1 : (F.set i 1)[j]! = F[j]! := by rw [get_set!, if_neg (fun x => hij x.1)]
    have := h.keep j (by rw [e1]; exact hj)
    rw [e1] at this
    exact this
  · rw [get_set!] at hj
    by_cases hij : i = j
    · subst hij
      rw [if_pos ⟨rfl, by omega⟩] at hj
      omega
    · rw [if_neg (fun x => hij x.1)] at hj
      have := h.same j hj
      rw [get_set!, if_neg (fun x => hij x.1)] at this
      exact this
/-- All done: the values. -/
theorem Dfs.all {G : List (List Int)} {F V : List Nat} (h : Dfs G F V) (hd : ∀ j : Nat, j < G.length → F[j]! = 2) : Solves G V ∧ ∃ rk, Down G rk := by
  refine ⟨⟨h.lv, fun i r hr => (h.done i r hr (hd i (List.getElem?_eq_some_iff.1 hr).1)).1⟩, ?_⟩
  obtain ⟨rk, hrk⟩ := h.rank
  exact ⟨rk, fun i r hr => hrk i r hr (hd i (List.getElem?_eq_some_iff.1 hr).1)⟩
theorem Dfs.start (G : List (List Int)) : Dfs G (List.replicate G.length 0) (List.replicate G.length 0) := by
  have e : ∀ j : Nat, (List.replicate G.length 0 : List Nat)[j]! = 0 := fun j => by
    by_cases h : j < G.length
    · rw [getElem!_pos _ j (by simpa using h)]; simp
    · rw [getElem!_neg _ j (by simpa using h)]; rfl
  exact ⟨by simp, by simp, fun j => by rw [e]; omega, fun i r _ h2 => by rw [e] at h2; omega, ⟨fun _ => 0, fun i r _ h2 => by rw [e] at h2; omega⟩⟩
end Go.Proofs.Ytphnjedoghopcaa
