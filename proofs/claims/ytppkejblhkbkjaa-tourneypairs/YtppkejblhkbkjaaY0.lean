/-
  Tournaments: points, those of the opponents, rotated results (plain mathematics).
-/
import Derived.WalkKit
namespace Go.Proofs.Ytppkejblhkbkjaa

/-- A result: two players, the halves of the first one. -/
structure Re where
  a : Int
  b : Int
  h : Int
/-- A rank: the player, his points, those of his opponents. -/
structure Rk where
  p : Int
  q : Int
  o : Int
theorem Rk.ext' {x y : Rk} (h1 : x.p = y.p) (h2 : x.q = y.q) (h3 : x.o = y.o) : x = y := by cases x; cases y; simp_all
instance : Inhabited Rk := ⟨⟨0, 0, 0⟩⟩
instance : Inhabited Re := ⟨⟨0, 0, 0⟩⟩

def okRe (n : Int) (r : Re) : Prop := 0 ≤ r.a ∧ r.a < n ∧ 0 ≤ r.b ∧ r.b < n ∧ r.a ≠ r.b ∧ 0 ≤ r.h ∧ r.h ≤ 2
instance (n : Int) (r : Re) : Decidable (okRe n r) := by unfold okRe; infer_instance

/-- A sum over a list. -/
def sl {α : Type} (f : α → Int) : List α → Int
  | [] => 0
  | x :: l => f x + sl f l
theorem sl_app {α : Type} (f : α → Int) : ∀ l m : List α, sl f (l ++ m) = sl f l + sl f m
  | [], m => by simp [sl]
  | x :: l, m => by simp only [List.cons_append, sl, sl_app f l m]; omega
theorem sl_perm {α : Type} (f : α → Int) {l m : List α} (h : l.Perm m) : sl f l = sl f m := by
  induction h with
  | nil => rfl
  | cons x _ ih => simp only [sl, ih]
  | swap x y l => simp only [sl]; omega
  | trans _ _ h1 h2 => exact h1.trans h2
theorem sl_congr {α : Type} {f g : α → Int} : ∀ {l : List α}, (∀ x ∈ l, f x = g x) → sl f l = sl g l
  | [], _ => rfl
  | x :: l, h => by
    simp only [sl, h x (by simp)]
    rw [sl_congr (l := l) fun y hy => h y (by simp [hy])]
theorem sl_map {α β : Type} (f : β → Int) (g : α → β) : ∀ l : List α, sl f (l.map g) = sl (fun x => f (g x)) l
  | [] => rfl
  | x :: l => by simp only [List.map_cons, sl, sl_map f g l]
theorem sl_add {α : Type} (f g : α → Int) : ∀ l : List α, sl (fun x => f x + g x) l = sl f l + sl g l
  | [] => rfl
  | x :: l => by simp only [sl, sl_add f g l]; omega
theorem sl_zero {α : Type} : ∀ l : List α, sl (fun _ => 0) l = 0
  | [] => rfl
  | _ :: l => by simp only [sl, sl_zero l]; rfl
theorem sl_bound {α : Type} {f : α → Int} {c : Int} : ∀ {l : List α}, (∀ x ∈ l, 0 ≤ f x ∧ f x ≤ c) → 0 ≤ sl f l ∧ sl f l ≤ c * l.length
  | [], _ => by simp [sl]
  | x :: l, h => by
    have h1 := h x (by simp)
    have h2 := sl_bound (l := l) fun y hy => h y (by simp [hy])
    simp only [sl, List.length_cons]
    have e : c * ((l.length + 1 : Nat) : Int) = c * (l.length : Int) + c := by rw [Int.natCast_add, Int.mul_add]; simp
    rw [e]
    omega
theorem sl_snoc {α : Type} (f : α → Int) (l : List α) (k : Nat) (x : α) (h : l[k]? = some x) : sl f (l.take (k + 1)) = sl f (l.take k) + f x := by
  rw [List.take_add_one, h, Option.toList_some, sl_app]
  simp [sl]
theorem sl_swap {α β : Type} (f : α → β → Int) : ∀ (l : List α) (m : List β), sl (fun x => sl (f x) m) l = sl (fun y => sl (fun x => f x y) l) m
  | [], m => by simp only [sl]; exact (sl_zero m).symm
  | x :: l, m => by simp only [sl, sl_swap f l m, sl_add]

def ptR (p : Int) (r : Re) : Int := (if r.a = p then r.h else 0) + (if r.b = p then 2 - r.h else 0)
def pts (l : List Re) (p : Int) : Int := sl (ptR p) l
def otR (f : Int → Int) (p : Int) (r : Re) : Int := (if r.a = p then f r.b else 0) + (if r.b = p then f r.a else 0)
def oth (f : Int → Int) (l : List Re) (p : Int) : Int := sl (otR f p) l
def rkOf (l : List Re) (p : Int) : Rk := ⟨p, pts l p, oth (pts l) l p⟩
def rks (n : Nat) (l : List Re) : List Rk := (List.range n).map fun i : Nat => rkOf l (i : Int)
def flp (r : Re) : Re := ⟨r.b, r.a, 2 - r.h⟩

theorem ptR_bound {n : Int} {r : Re} (h : okRe n r) (p : Int) : 0 ≤ ptR p r ∧ ptR p r ≤ 2 := by
  obtain ⟨-, -, -, -, h1, h2, h3⟩ := h
  unfold ptR
  by_cases ha : r.a = p
  · have hb : r.b ≠ p := fun e => h1 (ha.trans e.symm)
    simp only [ha, hb, if_true, if_false]; omega
  · simp only [ha, if_false]
    split <;> omega
theorem pts_bound {n : Int} {l : List Re} (h : ∀ r ∈ l, okRe n r) (p : Int) : 0 ≤ pts l p ∧ pts l p ≤ 2 * l.length := sl_bound fun r hr => ptR_bound (h r hr) p
theorem oth_bound {n : Int} {f : Int → Int} {c : Int} {l : List Re} (h : ∀ r ∈ l, okRe n r) (hf : ∀ p, 0 ≤ f p ∧ f p ≤ c) (p : Int) : 0 ≤ oth f l p ∧ oth f l p ≤ c * l.length := by
  refine sl_bound fun r hr => ?_
  obtain ⟨-, -, -, -, h1, -⟩ := h r hr
  have ha := hf r.a
  have hb := hf r.b
  unfold otR
  by_cases h2 : r.a = p
  · have h3 : r.b ≠ p := fun e => h1 (h2.trans e.symm)
    simp only [h2, h3, if_true, if_false]; omega
  · simp only [h2, if_false]
    split <;> omega
theorem ptR_flp (p : Int) (r : Re) : ptR p (flp r) = ptR p r := by
  unfold ptR flp
  by_cases h1 : r.a = p <;> by_cases h2 : r.b = p <;> simp only [h1, h2, if_true, if_false] <;> omega
theorem otR_flp (f : Int → Int) (p : Int) (r : Re) : otR f p (flp r) = otR f p r := by
  unfold otR flp
  by_cases h1 : r.a = p <;> by_cases h2 : r.b = p <;> simp only [h1, h2, if_true, if_false] <;> omega
theorem okRe_flp {n : Int} {r : Re} (h : okRe n r) : okRe n (flp r) := by
  obtain ⟨h1, h2, h3, h4, h5, h6, h7⟩ := h
  exact ⟨h3, h4, h1, h2, Ne.symm h5, by simp only [flp]; omega, by simp only [flp]; omega⟩
theorem rks_perm (n : Nat) {l m : List Re} (h : l.Perm m) : rks n l = rks n m := by
  have e : pts l = pts m := by funext p; exact sl_perm _ h
  unfold rks rkOf
  rw [e]
  apply List.map_congr_left
  intro i _
  rw [show oth (pts m) l (i : Int) = oth (pts m) m (i : Int) from sl_perm _ h]
theorem rks_flp (n : Nat) (l : List Re) : rks n (l.map flp) = rks n l := by
  have e : pts (l.map flp) = pts l := by funext p; unfold pts; rw [sl_map]; exact sl_congr fun x _ => ptR_flp p x
  unfold rks rkOf
  rw [e]
  apply List.map_congr_left
  intro i _
  have : oth (pts l) (l.map flp) (i : Int) = oth (pts l) l (i : Int) := by unfold oth; rw [sl_map]; exact sl_congr fun x _ => otR_flp _ _ x
  rw [this]

theorem sl_hit (x : Int) : ∀ (n : Nat) (a : Int), 0 ≤ a → a < n → sl (fun i : Nat => if a = (i : Int) then x else 0) (List.range n) = x
  | 0, a, h0, h1 => by simp at h1; omega
  | n + 1, a, h0, h1 => by
    rw [List.range_succ, sl_app]
    by_cases h : a < n
    · rw [sl_hit x n a h0 h]
      simp only [sl, show ¬ a = (n : Int) by omega, if_false]; omega
    · have e : a = (n : Int) := by omega
      have : sl (fun i : Nat => if a = (i : Int) then x else 0) (List.range n) = 0 := by
        refine (sl_congr (g := fun _ => 0) fun i hi => ?_).trans (sl_zero _)
        have := List.mem_range.1 hi
        rw [if_neg (by omega)]
      rw [this]
      simp only [sl, e, if_true]; omega
/-- Two halves a game. -/
theorem sum_pts (n : Nat) {l : List Re} (h : ∀ r ∈ l, okRe n r) : sl (fun i : Nat => pts l (i : Int)) (List.range n) = 2 * l.length := by
  have e1 : sl (fun i : Nat => pts l (i : Int)) (List.range n) = sl (fun r => sl (fun i : Nat => ptR (i : Int) r) (List.range n)) l := sl_swap (fun (i : Nat) r => ptR (i : Int) r) _ _
  have e2 : sl (fun r => sl (fun i : Nat => ptR (i : Int) r) (List.range n)) l = sl (fun _ => 2) l := sl_congr fun r hr => by
    obtain ⟨h1, h2, h3, h4, -⟩ := h r hr
    have := sl_add (fun i : Nat => if r.a = (i : Int) then r.h else 0) (fun i : Nat => if r.b = (i : Int) then 2 - r.h else 0) (List.range n)
    rw [sl_hit _ n r.a h1 h2, sl_hit _ n r.b h3 h4] at this
    have e : sl (fun i : Nat => ptR (i : Int) r) (List.range n) = r.h + (2 - r.h) := this
    omega
  rw [e1, e2]
  clear e1 e2 h
  induction l with
  | nil => rfl
  | cons x l ih => simp only [sl, ih, List.length_cons]; omega
theorem sum_rks (n : Nat) {l : List Re} (h : ∀ r ∈ l, okRe n r) {ts : List Rk} (hp : ts.Perm (rks n l)) : sl Rk.q ts = 2 * l.length := by
  rw [sl_perm _ hp, rks, sl_map]
  exact sum_pts n h

/-- Results turned round by S places. -/
def rot (l : List Re) (S : Nat) : List Re := (List.range l.length).map fun i => l[(i + S) % l.length]!
theorem rot_perm (l : List Re) (S : Nat) : (rot l S).Perm l := by
  by_cases h0 : l.length = 0
  · have : l = [] := List.length_eq_zero_iff.1 h0
    subst this
    exact .nil
  have hN : 0 < l.length := by omega
  have hs := Nat.mod_lt S hN
  have e : rot l S = l.drop (S % l.length) ++ l.take (S % l.length) := by
    apply List.ext_getElem?
    intro i
    by_cases hi : i < l.length
    · have e1 : (rot l S)[i]? = some l[(i + S) % l.length]! := by simp [rot, hi]
      have hm := Nat.mod_lt (i + S) hN
      rw [e1, getElem!_pos l _ hm]
      have e2 : (i + S) % l.length = (i + S % l.length) % l.length := by rw [Nat.add_mod_mod]
      by_cases h1 : i < l.length - S % l.length
      · rw [List.getElem?_append_left (by rw [List.length_drop]; exact h1), List.getElem?_drop]
        have e3 : (i + S) % l.length = S % l.length + i := by rw [e2, Nat.mod_eq_of_lt (by omega)]; omega
        rw [← e3, List.getElem?_eq_getElem hm]
      · rw [List.getElem?_append_right (by rw [List.length_drop]; omega), List.length_drop]
        have e3 : (i + S) % l.length = i - (l.length - S % l.length) := by
          rw [e2, Nat.mod_eq_sub_mod (by omega), Nat.mod_eq_of_lt (by omega)]; omega
        rw [List.getElem?_take_of_lt (by omega), ← e3, List.getElem?_eq_getElem hm]
    · rw [List.getElem?_eq_none (by simp [rot]; omega), List.getElem?_eq_none (by simp; omega)]
  rw [e]
  exact List.perm_append_comm.trans (by rw [List.take_append_drop])
theorem rot_at (l : List Re) (S k : Nat) (hk : k < l.length) : (rot l S)[k]? = some l[(k + S) % l.length]! := by simp [rot, hk]
theorem rot_len (l : List Re) (S : Nat) : (rot l S).length = l.length := by simp [rot]
end Go.Proofs.Ytppkejblhkbkjaa
