/-
  Texts of positions byte by byte, plain mathematics: what may begin so; it is read so.
-/
import Derived.Test.YtfhmpgjemobjhaaGreatDoorM7
namespace Go.Proofs.YtfhmpgjemobjhaaGreatDoor

/-! ### A text byte by byte -/

/-- The pieces of a text between bytes c. -/
def spl (c : UInt8) : List UInt8 → List (List UInt8)
  | [] => [[]]
  | x :: l => if x = c then [] :: spl c l else (x :: (spl c l).headD []) :: (spl c l).tail

theorem spl_ne (c : UInt8) (l : List UInt8) : spl c l ≠ [] := by
  cases l with
  | nil => simp [spl]
  | cons x l => unfold spl; split <;> simp
theorem spl_cons (c : UInt8) (l : List UInt8) : spl c l = (spl c l).headD [] :: (spl c l).tail := by
  cases h : spl c l with
  | nil => exact absurd h (spl_ne c l)
  | cons a t => rfl
theorem spl_nomem (c : UInt8) : ∀ l : List UInt8, c ∉ l → spl c l = [l]
  | [], _ => rfl
  | x :: l, h => by
    have h1 : x ≠ c := fun e => h (by simp [e])
    have h2 := spl_nomem c l (fun e => h (by simp [e]))
    simp [spl, h1, h2]
theorem spl_app (c : UInt8) : ∀ a b : List UInt8, spl c (a ++ c :: b) = spl c a ++ spl c b
  | [], b => by simp [spl]
  | x :: a, b => by
    have h := spl_app c a b
    by_cases hx : x = c
    · simp only [List.cons_append, spl, hx, if_true, h]
    · simp only [List.cons_append, spl, hx, if_false, h]
      have := spl_cons c a
      rw [this]; simp

/-- The rows till now, each with its '/'. -/
def joinS (R : List (List UInt8)) : List UInt8 := (R.map (· ++ [47])).flatten
theorem joinS_snoc (R : List (List UInt8)) (r : List UInt8) : joinS (R ++ [r]) = joinS R ++ (r ++ [47]) := by simp [joinS]
theorem joinR_snoc (R : List (List UInt8)) (r : List UInt8) : joinR (R ++ [r]) = joinS R ++ r := by
  induction R with
  | nil => simp [joinR, joinS]
  | cons a R ih =>
    cases R with
    | nil => simp [joinR, joinS]
    | cons b R => simp only [List.cons_append, joinR] at ih ⊢; rw [ih]; simp [joinS]
theorem spl_joinS (R : List (List UInt8)) (l : List UInt8) (h : ∀ r ∈ R, (47 : UInt8) ∉ r) : spl 47 (joinS R ++ l) = R ++ spl 47 l := by
  induction R with
  | nil => simp [joinS]
  | cons a R ih =>
    have h1 : joinS (a :: R) ++ l = a ++ 47 :: (joinS R ++ l) := by simp [joinS]
    rw [h1, spl_app, spl_nomem 47 a (h a (by simp)), ih (fun r hr => h r (by simp [hr]))]
    simp

theorem cells_no {r : List UInt8} (h : cellsB r = true) : (47 : UInt8) ∉ r ∧ (32 : UInt8) ∉ r := by
  simp only [cellsB, List.all_eq_true] at h
  constructor
  · intro hm; have := h _ hm; simp [cellB, capB] at this
  · intro hm; have := h _ hm; simp [cellB, capB] at this
theorem joinS_no {R : List (List UInt8)} (h : ∀ r ∈ R, cellsB r = true) : (32 : UInt8) ∉ joinS R := by
  simp only [joinS, List.mem_flatten, List.mem_map]
  rintro ⟨l, ⟨r, hr, rfl⟩, hl⟩
  simp only [List.mem_append, List.mem_singleton] at hl
  rcases hl with hl | hl
  · exact (cells_no (h r hr)).2 hl
  · cases hl

/-! ### What may begin so, by pieces -/
def rowOk (full : Bool) (n0 : Nat) (r : List UInt8) : Bool :=
  decide (r.length ≤ 8) && decide (r.length ≤ n0) && (!full || (decide (r.length = n0) && decide (r.length ≠ 0))) && cellsB r
def rowsOk (last : Bool) (n0 : Nat) : List (List UInt8) → Bool
  | [] => true
  | [r] => rowOk last n0 r
  | r :: a :: b => rowOk true n0 r && rowsOk last n0 (a :: b)
def handOk (h : List UInt8) : Bool := decide (h = [45]) || handB h
def handsOk : List (List UInt8) → Bool
  | [] => true
  | [h] => handOk h
  | h :: a :: b => handOk h && decide (h ≠ []) && handsOk (a :: b)
/-- Behind the rows: the second part, and the third. -/
def tailF (parts : List (List UInt8)) : Bool × Bool :=
  if parts.length < 2 then (true, false)
  else if parts.getD 1 [] ≠ [119] ∧ parts.getD 1 [] ≠ [98] ∧ (parts.getD 1 [] ≠ [] ∨ 2 < parts.length) then (false, false)
  else if parts.length < 3 then (true, false)
  else if 2 < (spl 47 (parts.getD 2 [])).length then (false, false)
  else if handsOk (spl 47 (parts.getD 2 [])) = false then (false, false)
  else (true, decide ((spl 47 (parts.getD 2 [])).length = 2) && decide ((spl 47 (parts.getD 2 [])).getD 1 [] ≠ []))
def begF (t : List UInt8) : Bool × Bool :=
  if 8 < (spl 47 ((spl 32 t).headD [])).length ∨ 3 < (spl 32 t).length then (false, false)
  else if rowsOk (decide (1 < (spl 32 t).length)) ((spl 47 ((spl 32 t).headD [])).headD []).length (spl 47 ((spl 32 t).headD [])) = false then (false, false)
  else tailF (spl 32 t)

/-! ### The states -/
inductive St where
  | rows (done : List (List UInt8)) (cur : List UInt8)
  | sp (R : List (List UInt8))
  | turn (R : List (List UInt8)) (c : UInt8)
  | hand1 (R : List (List UInt8)) (c : UInt8) (h : List UInt8)
  | hand2 (R : List (List UInt8)) (c : UInt8) (g h : List UInt8)

def txt : St → List UInt8
  | .rows done cur => joinS done ++ cur
  | .sp R => joinR R ++ [32]
  | .turn R c => joinR R ++ [32, c]
  | .hand1 R c h => joinR R ++ [32, c, 32] ++ h
  | .hand2 R c g h => joinR R ++ [32, c, 32] ++ g ++ [47] ++ h

/-- Rows of one length, 1 to 8 of it, 1 to 8 of them. -/
structure RowsGood (R : List (List UInt8)) : Prop where
  ne : R ≠ []
  len : R.length ≤ 8
  one : ∃ W, 1 ≤ W ∧ W ≤ 8 ∧ ∀ r ∈ R, r.length = W ∧ cellsB r = true
def Good : St → Prop
  | .rows done cur => done.length ≤ 7 ∧ cellsB cur = true ∧ ((done = [] ∧ cur.length ≤ 8) ∨ (RowsGood done ∧ cur.length ≤ (done.headD []).length))
  | .sp R => RowsGood R
  | .turn R c => RowsGood R ∧ (c = 119 ∨ c = 98)
  | .hand1 R c h => RowsGood R ∧ (c = 119 ∨ c = 98) ∧ handOk h = true
  | .hand2 R c g h => RowsGood R ∧ (c = 119 ∨ c = 98) ∧ handOk g = true ∧ g ≠ [] ∧ handOk h = true

def capS (done : List (List UInt8)) : Nat := match done with | [] => 8 | r :: _ => r.length
/-- The row is as long as it must be. -/
def fullS (done : List (List UInt8)) (cur : List UInt8) : Bool := decide (cur.length ≠ 0) && (match done with | [] => true | r :: _ => decide (cur.length = r.length))
def step : St → UInt8 → Option St
  | .rows done cur, c =>
    if cellB c.toNat && decide (cur.length < capS done) then some (.rows done (cur ++ [c]))
    else if decide (c = 47) && fullS done cur && decide (done.length < 7) then some (.rows (done ++ [cur]) [])
    else if decide (c = 32) && fullS done cur then some (.sp (done ++ [cur])) else none
  | .sp R, c => if c = 119 ∨ c = 98 then some (.turn R c) else none
  | .turn R d, c => if c = 32 then some (.hand1 R d []) else none
  | .hand1 R d h, c => if handOk (h ++ [c]) = true then some (.hand1 R d (h ++ [c])) else if c = 47 ∧ h ≠ [] then some (.hand2 R d h []) else none
  | .hand2 R d g h, c => if handOk (h ++ [c]) = true then some (.hand2 R d g (h ++ [c])) else none

/-- The hand's text as a hand. -/
def unhand (h : List UInt8) : List UInt8 := if h = [45] then [] else h
/-- A whole position, or none. -/
def fin : St → Option Six
  | .hand2 R c g h => if h = [] then none else some ((R.headD []).length, R.length, R.reverse.flatten, if c = 119 then 0 else 1, unhand g, unhand h)
  | _ => none

theorem handOk_no {h : List UInt8} (k : handOk h = true) : (47 : UInt8) ∉ h ∧ (32 : UInt8) ∉ h := by
  simp only [handOk, Bool.or_eq_true, decide_eq_true_eq, handB, Bool.and_eq_true] at k
  rcases k with rfl | k
  · simp
  · have k2 := k.2
    clear k
    generalize (65 : Int) = b at k2
    induction h generalizing b with
    | nil => simp
    | cons x h ih =>
      simp only [capsB, Bool.and_eq_true] at k2
      have hx := k2.1.1
      have := ih _ k2.2
      have h1 : (47 : UInt8) ≠ x := by rintro rfl; simp [capB] at hx
      have h2 : (32 : UInt8) ≠ x := by rintro rfl; simp [capB] at hx
      simp [h1, h2, this]

theorem step_txt {st st' : St} {c : UInt8} (h : step st c = some st') : txt st' = txt st ++ [c] := by
  cases st with
  | rows done cur =>
    simp only [step] at h
    split at h
    · cases h; simp [txt]
    · split at h
      · rename_i h1; cases h; simp at h1; simp [txt, joinS_snoc, h1.1]
      · split at h
        · rename_i h1; cases h; simp at h1; simp [txt, joinR_snoc, h1.1]
        · cases h
  | sp R =>
    simp only [step] at h
    split at h
    · cases h; simp [txt]
    · cases h
  | turn R d =>
    simp only [step] at h
    split at h
    · rename_i h1; cases h; simp [txt, h1]
    · cases h
  | hand1 R d g =>
    simp only [step] at h
    split at h
    · cases h; simp [txt]
    · split at h
      · rename_i h1; cases h; simp [txt, h1.1]
      · cases h
  | hand2 R d g k =>
    simp only [step] at h
    split at h
    · cases h; simp [txt]
    · cases h

theorem rows_head {R : List (List UInt8)} {W : Nat} (hn : R ≠ []) (h : ∀ r ∈ R, r.length = W ∧ cellsB r = true) : (R.headD []).length = W := by
  cases R with
  | nil => exact absurd rfl hn
  | cons a R => exact (h a (by simp)).1
theorem full_good {done : List (List UInt8)} {cur : List UInt8} (g : Good (.rows done cur)) (hf : fullS done cur = true) : RowsGood (done ++ [cur]) := by
  obtain ⟨h7, hc, hd⟩ := g
  simp only [fullS, Bool.and_eq_true, decide_eq_true_eq] at hf
  rcases hd with ⟨rfl, h8⟩ | ⟨hr, hle⟩
  · refine ⟨by simp, by simp, cur.length, by omega, h8, ?_⟩
    intro r hr
    simp at hr; subst hr
    exact ⟨rfl, hc⟩
  · obtain ⟨W, w1, w8, hw⟩ := hr.one
    refine ⟨by simp, by simp; omega, W, w1, w8, ?_⟩
    have hh := rows_head hr.ne hw
    have hcl : cur.length = W := by
      have h2 := hf.2
      cases hdd : done with
      | nil => exact absurd hdd hr.ne
      | cons a b =>
        rw [hdd] at h2 hh
        simp at h2 hh
        omega
    intro r hr2
    simp only [List.mem_append, List.mem_singleton] at hr2
    rcases hr2 with hr2 | rfl
    · exact hw r hr2
    · exact ⟨hcl, hc⟩

theorem step_good {st st' : St} {c : UInt8} (g : Good st) (h : step st c = some st') : Good st' := by
  cases st with
  | rows done cur =>
    simp only [step] at h
    split at h
    · rename_i h1
      cases h
      simp only [Bool.and_eq_true, decide_eq_true_eq] at h1
      obtain ⟨h7, hc, hd⟩ := g
      refine ⟨h7, ?_, ?_⟩
      · simp only [cellsB, List.all_append, List.all_cons, List.all_nil, Bool.and_true, Bool.and_eq_true]
        exact ⟨hc, h1.1⟩
      · rcases hd with ⟨rfl, h8⟩ | ⟨hr, hle⟩
        · left; refine ⟨rfl, ?_⟩; simp [capS] at h1; simp; omega
        · right
          refine ⟨hr, ?_⟩
          cases done with
          | nil => exact absurd rfl hr.ne
          | cons a b => simp [capS] at h1; simp; omega
    · split at h
      · rename_i h1
        cases h
        simp only [Bool.and_eq_true, decide_eq_true_eq] at h1
        exact ⟨by simp; omega, by simp [cellsB], Or.inr ⟨full_good g h1.1.2, by simp⟩⟩
      · split at h
        · rename_i h1
          cases h
          simp only [Bool.and_eq_true, decide_eq_true_eq] at h1
          exact full_good g h1.2
        · cases h
  | sp R =>
    simp only [step] at h
    split at h
    · rename_i h1; cases h; exact ⟨g, h1⟩
    · cases h
  | turn R d =>
    simp only [step] at h
    split at h
    · cases h; exact ⟨g.1, g.2, by decide⟩
    · cases h
  | hand1 R d k =>
    simp only [step] at h
    split at h
    · rename_i h1; cases h; exact ⟨g.1, g.2.1, h1⟩
    · split at h
      · rename_i h1; cases h; exact ⟨g.1, g.2.1, g.2.2, h1.2, by decide⟩
      · cases h
  | hand2 R d g' k =>
    simp only [step] at h
    split at h
    · rename_i h1; cases h; exact ⟨g.1, g.2.1, g.2.2.1, g.2.2.2.1, h1⟩
    · cases h

/-! ### The pieces of what a state says -/
theorem rowsOk_app (last : Bool) (n0 : Nat) (R : List (List UInt8)) (r : List UInt8) : rowsOk last n0 (R ++ [r]) = ((R.all fun x => rowOk true n0 x) && rowOk last n0 r) := by
  induction R with
  | nil => simp [rowsOk]
  | cons a R ih =>
    cases R with
    | nil => simp [rowsOk]
    | cons b R =>
      simp only [List.cons_append, rowsOk] at ih ⊢
      rw [ih]
      simp only [List.all_cons, Bool.and_assoc]
theorem RowsGood.ok {R : List (List UInt8)} (g : RowsGood R) : rowsOk true (R.headD []).length R = true := by
  obtain ⟨W, w1, w8, hw⟩ := g.one
  have hh := rows_head g.ne hw
  obtain ⟨D, r, rfl⟩ : ∃ D r, R = D ++ [r] := ⟨R.dropLast, R.getLast g.ne, (List.dropLast_concat_getLast g.ne).symm⟩
  rw [rowsOk_app, hh, Bool.and_eq_true, List.all_eq_true]
  have : ∀ x ∈ D ++ [r], rowOk true W x = true := by
    intro x hx
    have := hw x hx
    simp [rowOk, this]
    omega
  exact ⟨fun x hx => this x (by simp [hx]), this r (by simp)⟩
theorem RowsGood.spl {R : List (List UInt8)} (g : RowsGood R) : Go.Proofs.YtfhmpgjemobjhaaGreatDoor.spl 47 (joinR R) = R ∧ (32 : UInt8) ∉ joinR R := by
  obtain ⟨W, w1, w8, hw⟩ := g.one
  obtain ⟨D, r, rfl⟩ : ∃ D r, R = D ++ [r] := ⟨R.dropLast, R.getLast g.ne, (List.dropLast_concat_getLast g.ne).symm⟩
  have hr := cells_no (hw r (by simp)).2
  rw [joinR_snoc]
  refine ⟨?_, ?_⟩
  · rw [spl_joinS _ _ (fun x hx => (cells_no (hw x (by simp [hx])).2).1), spl_nomem _ _ hr.1]
  · simp only [List.mem_append, not_or]
    exact ⟨joinS_no (fun x hx => (hw x (by simp [hx])).2), hr.2⟩

/-- Behind good rows and a blank: what follows decides. -/
theorem begF_rows {R : List (List UInt8)} (g : RowsGood R) (l : List UInt8) : begF (joinR R ++ 32 :: l) = if 2 < (spl 32 l).length then (false, false) else tailF (joinR R :: spl 32 l) := by
  obtain ⟨h1, h2⟩ := g.spl
  have hs : spl 32 (joinR R ++ 32 :: l) = joinR R :: spl 32 l := by rw [spl_app, spl_nomem _ _ h2]; rfl
  have hne := List.length_pos_iff.2 (spl_ne 32 l)
  have hlen := g.len
  have hok := g.ok
  unfold begF
  rw [hs]
  simp only [List.headD_cons, h1, List.length_cons]
  by_cases h3 : 2 < (spl 32 l).length
  · rw [if_pos h3, if_pos (Or.inr (by omega))]
  · rw [if_neg h3, if_neg (by omega)]
    have : decide (1 < (spl 32 l).length + 1) = true := by simp; omega
    rw [this, hok]
    simp

theorem begF_line {D : List (List UInt8)} {r : List UInt8} (hD : ∀ x ∈ D, cellsB x = true) (hr : (47 : UInt8) ∉ r ∧ (32 : UInt8) ∉ r) :
    begF (joinS D ++ r) = if 7 < D.length then (false, false) else if ((D.all fun x => rowOk true ((D ++ [r]).headD []).length x) && rowOk false ((D ++ [r]).headD []).length r) = false then (false, false) else (true, false) := by
  have hno : (32 : UInt8) ∉ joinS D ++ r := by
    simp only [List.mem_append, not_or]; exact ⟨joinS_no hD, hr.2⟩
  have hs : spl 32 (joinS D ++ r) = [joinS D ++ r] := spl_nomem _ _ hno
  have hs2 : spl 47 (joinS D ++ r) = D ++ [r] := by rw [spl_joinS _ _ (fun x hx => (cells_no (hD x hx)).1), spl_nomem _ _ hr.1]
  unfold begF
  rw [hs]
  simp only [List.headD_cons, hs2, List.length_cons, List.length_nil, List.length_append]
  by_cases h7 : 7 < D.length
  · rw [if_pos h7, if_pos (Or.inl (by omega))]
  · rw [if_neg h7, if_neg (by omega), rowsOk_app]
    simp [tailF]

theorem handOk_nil : handOk [] = true := by decide
/-- Behind good rows, a blank, the turn and a blank: the hands decide. -/
theorem begF_hands {R : List (List UInt8)} (g : RowsGood R) (c : UInt8) (hc : c = 119 ∨ c = 98) (l : List UInt8) (hl : (32 : UInt8) ∉ l) :
    begF (joinR R ++ [32, c, 32] ++ l) = if 2 < (spl 47 l).length then (false, false) else if handsOk (spl 47 l) = false then (false, false) else (true, decide ((spl 47 l).length = 2) && decide ((spl 47 l).getD 1 [] ≠ [])) := by
  have e : joinR R ++ [32, c, 32] ++ l = joinR R ++ 32 :: ([c] ++ 32 :: l) := by simp
  have hc1 : (32 : UInt8) ∉ [c] := by rcases hc with rfl | rfl <;> decide
  rw [e, begF_rows g, spl_app, spl_nomem _ _ hc1, spl_nomem _ _ hl, if_neg (by simp), tailF]
  have h1 : ([joinR R, [c], l] : List (List UInt8)).getD 1 [] = [c] := rfl
  have h2 : ([joinR R, [c], l] : List (List UInt8)).getD 2 [] = l := rfl
  simp only [List.cons_append, List.nil_append, h1, h2]
  rw [if_neg (by simp), if_neg (by rcases hc with rfl | rfl <;> simp), if_neg (by simp)]

theorem begF_good {st : St} (g : Good st) : begF (txt st) = (true, (fin st).isSome) := by
  cases st with
  | rows done cur =>
    obtain ⟨h7, hc, hd⟩ := g
    have hr := cells_no hc
    have hD : ∀ x ∈ done, cellsB x = true := by
      rcases hd with ⟨rfl, _⟩ | ⟨h, _⟩
      · simp
      · obtain ⟨W, _, _, hw⟩ := h.one
        exact fun x hx => (hw x hx).2
    show begF (joinS done ++ cur) = _
    rw [begF_line hD hr, if_neg (by omega), if_neg]
    · rfl
    · rcases hd with ⟨rfl, h8⟩ | ⟨h, hle⟩
      · simp [rowOk, hc, h8]
      · obtain ⟨W, w1, w8, hw⟩ := h.one
        have hh := rows_head h.ne hw
        have hh2 : ((done ++ [cur]).headD []).length = W := by
          cases done with
          | nil => exact absurd rfl h.ne
          | cons a b => simpa using hh
        rw [hh2, Bool.not_eq_false, Bool.and_eq_true, List.all_eq_true]
        constructor
        · intro x hx
          have := hw x hx
          simp [rowOk, this]; omega
        · simp [rowOk, hc]; omega
  | sp R =>
    show begF (joinR R ++ [32]) = _
    rw [begF_rows g]
    simp [spl, tailF, fin]
  | turn R c =>
    obtain ⟨g, hc⟩ := g
    show begF (joinR R ++ 32 :: [c]) = _
    have hc1 : (32 : UInt8) ∉ [c] := by rcases hc with rfl | rfl <;> decide
    rw [begF_rows g, spl_nomem _ _ hc1]
    rcases hc with rfl | rfl <;> simp [tailF, fin]
  | hand1 R c h =>
    obtain ⟨g, hc, hh⟩ := g
    have hn := handOk_no hh
    show begF (joinR R ++ [32, c, 32] ++ h) = _
    rw [begF_hands g c hc h hn.2, spl_nomem _ _ hn.1]
    simp [handsOk, hh, fin]
  | hand2 R c k h =>
    obtain ⟨g, hc, hk, hk0, hh⟩ := g
    have hn := handOk_no hh
    have hn2 := handOk_no hk
    have e : txt (.hand2 R c k h) = joinR R ++ [32, c, 32] ++ (k ++ 47 :: h) := by simp [txt]
    rw [e, begF_hands g c hc _ (by simp [hn.2, hn2.2]), spl_app, spl_nomem _ _ hn.1, spl_nomem _ _ hn2.1]
    have h1 : ([k] ++ [h] : List (List UInt8)).getD 1 [] = h := rfl
    rw [h1]
    simp only [List.cons_append, List.nil_append, handsOk, hh, hk]
    by_cases h0 : h = [] <;> simp [fin, h0, hk0]

theorem bad_byte {c : UInt8} (h : cellB c.toNat = false) (l : List UInt8) : cellsB (l ++ [c]) = false := by
  simp [cellsB, h]
theorem rowOk_bad {full : Bool} {n0 : Nat} {r : List UInt8} (h : cellsB r = false) : rowOk full n0 r = false := by simp [rowOk, h]

/-- A byte that can't stand there: nothing right begins so. -/
theorem begF_bad {st : St} {c : UInt8} (g : Good st) (h : step st c = none) : (begF (txt st ++ [c])).1 = false := by
  cases st with
  | rows done cur =>
    obtain ⟨h7, hc, hd⟩ := g
    have hr := cells_no hc
    have hD : ∀ x ∈ done, cellsB x = true := by
      rcases hd with ⟨rfl, _⟩ | ⟨h, _⟩
      · simp
      · obtain ⟨W, _, _, hw⟩ := h.one
        exact fun x hx => (hw x hx).2
    simp only [step] at h
    split at h
    · cases h
    rename_i h1
    split at h
    · cases h
    rename_i h2
    split at h
    · cases h
    rename_i h3
    clear h
    simp only [Bool.and_eq_true, decide_eq_true_eq, not_and] at h1 h2 h3
    show (begF (joinS done ++ cur ++ [c])).1 = false
    rw [List.append_assoc]
    by_cases c47 : c = 47
    · subst c47
      have e : joinS done ++ (cur ++ [47]) = joinS (done ++ [cur]) ++ [] := by rw [joinS_snoc]; simp
      have hD2 : ∀ x ∈ done ++ [cur], cellsB x = true := by
        intro x hx
        simp only [List.mem_append, List.mem_singleton] at hx
        rcases hx with hx | rfl
        · exact hD x hx
        · exact hc
      rw [e, begF_line hD2 (by simp)]
      by_cases h77 : 7 < (done ++ [cur]).length
      · rw [if_pos h77]
      · rw [if_neg h77, if_pos]
        have hlen : done.length < 7 := by simp at h77; omega
        have hf : fullS done cur = false := by
          cases hf : fullS done cur with
          | false => rfl
          | true => exact absurd hlen (h2 ⟨rfl, hf⟩)
        rw [Bool.and_eq_false_iff]
        left
        rw [List.all_append, Bool.and_eq_false_iff]
        right
        simp only [List.all_cons, List.all_nil, Bool.and_true]
        simp only [fullS, Bool.and_eq_false_iff] at hf
        cases done with
        | nil => simp at hf; simp [rowOk, hf]
        | cons a b =>
          simp at hf
          simp only [rowOk, List.cons_append, List.headD_cons, Bool.not_true, Bool.false_or]
          rcases hf with hf | hf <;> simp [hf]
    · by_cases c32 : c = 32
      · subst c32
        have hf : ¬ fullS done cur = true := h3 rfl
        have e : joinS done ++ (cur ++ [32]) = (joinS done ++ cur) ++ 32 :: [] := by simp
        have hno : (32 : UInt8) ∉ joinS done ++ cur := by
          simp only [List.mem_append, not_or]; exact ⟨joinS_no hD, hr.2⟩
        have hs : spl 32 (joinS done ++ (cur ++ [32])) = [joinS done ++ cur, []] := by rw [e, spl_app, spl_nomem _ _ hno]; rfl
        have hs2 : spl 47 (joinS done ++ cur) = done ++ [cur] := by rw [spl_joinS _ _ (fun x hx => (cells_no (hD x hx)).1), spl_nomem _ _ hr.1]
        unfold begF
        rw [hs]
        simp only [List.headD_cons, hs2, List.length_cons, List.length_nil, List.length_append]
        rw [if_neg (by omega), rowsOk_app, if_pos]
        rw [Bool.and_eq_false_iff]
        right
        have hf2 : fullS done cur = false := by simpa using hf
        simp only [fullS, Bool.and_eq_false_iff] at hf2
        cases done with
        | nil => simp at hf2; simp [rowOk, hf2]
        | cons a b =>
          simp at hf2
          simp only [rowOk, List.cons_append, List.headD_cons]
          rcases hf2 with hf2 | hf2 <;> simp [hf2]
      · have hr2 : (47 : UInt8) ∉ cur ++ [c] ∧ (32 : UInt8) ∉ cur ++ [c] := by
          simp only [List.mem_append, List.mem_singleton, not_or]
          exact ⟨⟨hr.1, fun e => c47 e.symm⟩, hr.2, fun e => c32 e.symm⟩
        rw [begF_line hD hr2]
        split
        · rfl
        · rw [if_pos]
          rw [Bool.and_eq_false_iff]
          right
          cases hcb : cellB c.toNat with
          | false => exact rowOk_bad (bad_byte hcb cur)
          | true =>
            have h4 := h1 hcb
            cases done with
            | nil => simp [capS] at h4; simp [rowOk]; omega
            | cons a b => simp [capS] at h4; simp [rowOk]; omega
  | sp R =>
    simp only [step] at h
    split at h
    · cases h
    rename_i h1
    simp only [not_or] at h1
    show (begF (joinR R ++ [32] ++ [c])).1 = false
    have e : joinR R ++ [32] ++ [c] = joinR R ++ 32 :: [c] := by simp
    rw [e, begF_rows g]
    by_cases c32 : c = 32
    · subst c32; simp [spl, tailF]
    · rw [spl_nomem _ _ (by simpa using fun e : 32 = c => c32 e.symm)]
      simp [tailF, h1]
  | turn R d =>
    obtain ⟨g, hd⟩ := g
    simp only [step] at h
    split at h
    · cases h
    rename_i c32
    show (begF (joinR R ++ [32, d] ++ [c])).1 = false
    have e : joinR R ++ [32, d] ++ [c] = joinR R ++ 32 :: [d, c] := by simp
    have hn : (32 : UInt8) ∉ [d, c] := by
      simp only [List.mem_cons, List.not_mem_nil, or_false, not_or]
      exact ⟨by rcases hd with rfl | rfl <;> decide, fun e => c32 e.symm⟩
    rw [e, begF_rows g, spl_nomem _ _ hn]
    simp [tailF]
  | hand1 R d k =>
    obtain ⟨g, hd, hk⟩ := g
    have hn := handOk_no hk
    simp only [step] at h
    split at h
    · cases h
    rename_i h1
    split at h
    · cases h
    rename_i h2
    show (begF (joinR R ++ [32, d, 32] ++ k ++ [c])).1 = false
    by_cases c32 : c = 32
    · subst c32
      have e : joinR R ++ [32, d, 32] ++ k ++ [32] = joinR R ++ 32 :: ([d] ++ 32 :: (k ++ 32 :: [])) := by simp
      have hd1 : (32 : UInt8) ∉ [d] := by rcases hd with rfl | rfl <;> decide
      rw [e, begF_rows g, spl_app, spl_app, spl_nomem _ _ hd1, spl_nomem _ _ hn.2]
      simp [spl]
    · rw [List.append_assoc, begF_hands g d hd _ (by simp only [List.mem_append, List.mem_singleton, not_or]; exact ⟨hn.2, fun e => c32 e.symm⟩)]
      by_cases c47 : c = 47
      · subst c47
        have hk0 : k = [] := Classical.byContradiction fun e => h2 ⟨rfl, e⟩
        subst hk0
        simp [spl, handsOk]
      · rw [spl_nomem _ _ (by simp only [List.mem_append, List.mem_singleton, not_or]; exact ⟨hn.1, fun e => c47 e.symm⟩)]
        simp [handsOk, h1]
  | hand2 R d k j =>
    obtain ⟨g, hd, hk, hk0, hj⟩ := g
    have hn := handOk_no hj
    have hn2 := handOk_no hk
    simp only [step] at h
    split at h
    · cases h
    rename_i h1
    have e : txt (.hand2 R d k j) ++ [c] = joinR R ++ [32, d, 32] ++ (k ++ 47 :: (j ++ [c])) := by simp [txt]
    rw [e]
    by_cases c32 : c = 32
    · subst c32
      have e2 : joinR R ++ [32, d, 32] ++ (k ++ 47 :: (j ++ [32])) = joinR R ++ 32 :: ([d] ++ 32 :: ((k ++ 47 :: j) ++ 32 :: [])) := by simp
      have hd1 : (32 : UInt8) ∉ [d] := by rcases hd with rfl | rfl <;> decide
      rw [e2, begF_rows g, spl_app, spl_app, spl_nomem _ _ hd1, spl_nomem 32 (k ++ 47 :: j) (by simp [hn.2, hn2.2])]
      simp [spl]
    · rw [begF_hands g d hd _ (by simp [hn.2, hn2.2]; exact fun e => c32 e.symm), spl_app, spl_nomem _ _ hn2.1]
      by_cases c47 : c = 47
      · subst c47
        have e3 : j ++ [47] = j ++ 47 :: [] := rfl
        rw [e3, spl_app, spl_nomem _ _ hn.1]
        simp [spl]
      · rw [spl_nomem _ _ (by simp only [List.mem_append, List.mem_singleton, not_or]; exact ⟨hn.1, fun e => c47 e.symm⟩)]
        simp [handsOk, h1]

/-! ### Byte by byte is as by the reader -/
def sc : St → List UInt8 → Option Six × Nat
  | st, [] => (fin st, 0)
  | st, c :: l => match step st c with
    | none => (fin st, 0)
    | some st' => ((sc st' l).1, (sc st' l).2 + 1)

theorem sc_step {st st' : St} {c : UInt8} (h : step st c = some st') (l : List UInt8) : sc st (c :: l) = ((sc st' l).1, (sc st' l).2 + 1) := by simp [sc, h]
theorem sc_stuck {st : St} {l : List UInt8} (h : ∀ c ∈ l.head?, step st c = none) : sc st l = (fin st, 0) := by
  cases l with
  | nil => rfl
  | cons c l => simp [sc, h c (by simp)]

/-- Cells, as many as may be. -/
theorem sc_cells (done : List (List UInt8)) : ∀ (l cur : List UInt8), cur.length ≤ capS done →
    sc (.rows done cur) l = ((sc (.rows done (cur ++ l.take (rowN (capS done - cur.length) l))) (l.drop (rowN (capS done - cur.length) l))).1, (sc (.rows done (cur ++ l.take (rowN (capS done - cur.length) l))) (l.drop (rowN (capS done - cur.length) l))).2 + rowN (capS done - cur.length) l)
  | [], cur, _ => by
    have : rowN (capS done - cur.length) [] = 0 := by cases (capS done - cur.length) <;> rfl
    simp [this]
  | c :: l, cur, hle => by
    by_cases hlt : cur.length < capS done
    · obtain ⟨m, hm⟩ : ∃ m, capS done - cur.length = m + 1 := ⟨capS done - cur.length - 1, by omega⟩
      rw [hm, rowN]
      cases hc : cellB c.toNat with
      | false => simp
      | true =>
        have hs : step (.rows done cur) c = some (.rows done (cur ++ [c])) := by simp [step, hc, hlt]
        have ih := sc_cells done l (cur ++ [c]) (by simp; omega)
        have hm2 : capS done - (cur ++ [c]).length = m := by simp; omega
        rw [hm2] at ih
        rw [sc_step hs, ih]
        simp only [if_true, List.take_succ_cons, List.drop_succ_cons, List.append_assoc, List.cons_append, List.nil_append]
        rw [Nat.add_assoc]
    · have : capS done - cur.length = 0 := by omega
      have h0 : rowN 0 (c :: l) = 0 := rfl
      rw [this, h0]
      simp
theorem rowN_end (m : Nat) (l : List UInt8) (c : UInt8) (h : (l.drop (rowN m l)).head? = some c) : ¬ (cellB c.toNat = true ∧ rowN m l < m) := by
  induction m generalizing l with
  | zero => omega
  | succ m ih =>
    cases l with
    | nil => simp [rowN] at h
    | cons x l =>
      rw [rowN] at h ⊢
      cases hx : cellB x.toNat with
      | false => rw [hx] at h; simp at h; subst h; simp [hx]
      | true =>
        rw [hx] at h
        simp only [if_true, List.drop_succ_cons] at h ⊢
        have := ih l h
        intro hh
        exact this ⟨hh.1, by omega⟩

def least0 (done : List (List UInt8)) : Nat := match done with | [] => 1 | r :: _ => r.length
theorem full_least {done : List (List UInt8)} {cur : List UInt8} (h0 : 1 ≤ least0 done) (hle : cur.length ≤ capS done) : fullS done cur = decide (least0 done ≤ cur.length) := by
  rw [Bool.eq_iff_iff]
  cases done with
  | nil =>
    have e : least0 [] = 1 := rfl
    rw [e]
    simp only [fullS, Bool.and_true, decide_eq_true_eq]
    omega
  | cons a b =>
    have h0' : 1 ≤ a.length := h0
    have hle' : cur.length ≤ a.length := hle
    have e : least0 (a :: b) = a.length := rfl
    rw [e]
    simp only [fullS, Bool.and_eq_true, decide_eq_true_eq]
    omega

/-- The rows, as the reader has them. -/
theorem sc_rows : ∀ (k : Nat) (done : List (List UInt8)) (l : List UInt8), done.length + (k + 1) = 8 → 1 ≤ least0 done →
    sc (.rows done []) l = if (rowsF (k + 1) (least0 done) (capS done) l).1 = false then (none, (rowsF (k + 1) (least0 done) (capS done) l).2.2)
      else if (l.drop (rowsF (k + 1) (least0 done) (capS done) l).2.2).head? = some 32 then
        ((sc (.sp (done ++ (rowsF (k + 1) (least0 done) (capS done) l).2.1)) (l.drop ((rowsF (k + 1) (least0 done) (capS done) l).2.2 + 1))).1, (sc (.sp (done ++ (rowsF (k + 1) (least0 done) (capS done) l).2.1)) (l.drop ((rowsF (k + 1) (least0 done) (capS done) l).2.2 + 1))).2 + (rowsF (k + 1) (least0 done) (capS done) l).2.2 + 1)
      else (none, (rowsF (k + 1) (least0 done) (capS done) l).2.2) := by
  intro k
  induction k with
  | zero =>
    intro done l hk hl0
    have hsc := sc_cells done l [] (by simp)
    simp only [List.length_nil, Nat.sub_zero, List.nil_append] at hsc
    have hle := rowN_le (capS done) l
    have hend := rowN_end (capS done) l
    rw [rowsF]
    generalize hN : rowN (capS done) l = N at hsc hle hend ⊢
    have htl : (l.take N).length = N := by simp; omega
    have hfl := full_least (cur := l.take N) hl0 (by rw [htl]; exact hle.1)
    rw [htl] at hfl
    have hcell : ∀ c ∈ (l.drop N).head?, (cellB c.toNat && decide ((l.take N).length < capS done)) = false := by
      intro c hc
      have := hend c hc
      rw [htl]
      simp only [Bool.and_eq_false_iff, decide_eq_false_iff_not]
      cases hb : cellB c.toNat
      · left; rfl
      · right; intro h; exact this ⟨hb, h⟩
    by_cases h1 : N < least0 done
    · have hff : fullS done (l.take N) = false := by rw [hfl]; simp; omega
      rw [if_pos h1, if_pos rfl, hsc, sc_stuck]
      · simp [fin]
      · intro c hc
        simp only [step, hcell c hc, hff]
        simp
    · have hff : fullS done (l.take N) = true := by rw [hfl]; simp; omega
      rw [if_neg h1, if_pos (Or.inl rfl), if_neg (by simp)]
      simp only
      by_cases h32 : (l.drop N).head? = some 32
      · rw [if_pos h32]
        obtain ⟨t, ht⟩ : ∃ t, l.drop N = 32 :: t := by
          cases hd : l.drop N with
          | nil => rw [hd] at h32; simp at h32
          | cons a t => rw [hd] at h32; simp at h32; exact ⟨t, by rw [h32]⟩
        have ht1 : l.drop (N + 1) = t := by rw [← List.drop_drop, ht]; rfl
        have hst : step (.rows done (l.take N)) 32 = some (.sp (done ++ [l.take N])) := by
          have := hcell 32 (by rw [ht]; rfl)
          simp only [step, this, hff]
          simp
        rw [hsc, ht, sc_step hst, ht1]
        simp only [Prod.mk.injEq, true_and]
        omega
      · rw [if_neg h32, hsc, sc_stuck]
        · simp [fin]
        · intro c hc
          have hd : c ≠ 32 := fun e => h32 (by rw [← e]; exact hc)
          have h7 : ¬ done.length < 7 := by omega
          simp only [step, hcell c hc, hff]
          simp [hd, h7]
  | succ k ih =>
    intro done l hk hl0
    have hsc := sc_cells done l [] (by simp)
    simp only [List.length_nil, Nat.sub_zero, List.nil_append] at hsc
    have hle := rowN_le (capS done) l
    have hend := rowN_end (capS done) l
    have hF : rowsF (k + 1 + 1) (least0 done) (capS done) l = rowsF (k + 1 + 1) (least0 done) (capS done) l := rfl
    conv at hF => rhs; rw [rowsF]
    generalize hN : rowN (capS done) l = N at hsc hle hend hF
    have htl : (l.take N).length = N := by simp; omega
    have hfl := full_least (cur := l.take N) hl0 (by rw [htl]; exact hle.1)
    rw [htl] at hfl
    have hcell : ∀ c ∈ (l.drop N).head?, (cellB c.toNat && decide ((l.take N).length < capS done)) = false := by
      intro c hc
      have := hend c hc
      rw [htl]
      simp only [Bool.and_eq_false_iff, decide_eq_false_iff_not]
      cases hb : cellB c.toNat
      · left; rfl
      · right; intro h; exact this ⟨hb, h⟩
    by_cases h1 : N < least0 done
    · have hff : fullS done (l.take N) = false := by rw [hfl]; simp; omega
      rw [if_pos h1] at hF
      rw [hF, if_pos rfl, hsc, sc_stuck]
      · simp [fin]
      · intro c hc
        simp only [step, hcell c hc, hff]
        simp
    · have hff : fullS done (l.take N) = true := by rw [hfl]; simp; omega
      rw [if_neg h1] at hF
      by_cases h47 : (l.drop N).head? = some 47
      · rw [if_neg (by rw [h47]; simp)] at hF
        rw [hF]
        obtain ⟨t, ht⟩ : ∃ t, l.drop N = 47 :: t := by
          cases hd : l.drop N with
          | nil => rw [hd] at h47; simp at h47
          | cons a t => rw [hd] at h47; simp at h47; exact ⟨t, by rw [h47]⟩
        have ht1 : l.drop (N + 1) = t := by rw [← List.drop_drop, ht]; rfl
        have hst : step (.rows done (l.take N)) 47 = some (.rows (done ++ [l.take N]) []) := by
          have := hcell 47 (by rw [ht]; rfl)
          have h7 : done.length < 7 := by omega
          simp only [step, this, hff]
          simp [h7]
        have hwid : least0 (done ++ [l.take N]) = N ∧ capS (done ++ [l.take N]) = N := by
          cases done with
          | nil => simp only [List.nil_append, least0, capS]; exact ⟨htl, htl⟩
          | cons a b =>
            simp only [least0, capS] at h1 hle
            simp only [List.cons_append, least0, capS]
            omega
        have hN0 : 1 ≤ N := by omega
        have hi := ih (done ++ [l.take N]) t (by simp; omega) (by rw [hwid.1]; exact hN0)
        rw [hwid.1, hwid.2] at hi
        rw [hsc, ht, sc_step hst, ht1, hi]
        generalize rowsF (k + 1) N N t = F
        obtain ⟨ok, R, n⟩ := F
        have hdr : ∀ j, l.drop (N + 1 + j) = t.drop j := fun j => by rw [← List.drop_drop, ht1]
        simp only
        rw [hdr, Nat.add_assoc (N + 1) n 1, hdr]
        cases ok with
        | false => simp; omega
        | true =>
          simp only [Bool.true_eq_false, if_false, List.append_assoc, List.cons_append, List.nil_append]
          split
          · simp only [Prod.mk.injEq, true_and]; omega
          · simp only [Prod.mk.injEq, true_and]; omega
      · rw [if_pos (Or.inr h47)] at hF
        rw [hF, if_neg (by simp)]
        simp only
        by_cases h32 : (l.drop N).head? = some 32
        · rw [if_pos h32]
          obtain ⟨t, ht⟩ : ∃ t, l.drop N = 32 :: t := by
            cases hd : l.drop N with
            | nil => rw [hd] at h32; simp at h32
            | cons a t => rw [hd] at h32; simp at h32; exact ⟨t, by rw [h32]⟩
          have ht1 : l.drop (N + 1) = t := by rw [← List.drop_drop, ht]; rfl
          have hst : step (.rows done (l.take N)) 32 = some (.sp (done ++ [l.take N])) := by
            have := hcell 32 (by rw [ht]; rfl)
            simp only [step, this, hff]
            simp
          rw [hsc, ht, sc_step hst, ht1]
          simp only [Prod.mk.injEq, true_and]
          omega
        · rw [if_neg h32, hsc, sc_stuck]
          · simp [fin]
          · intro c hc
            have hd : c ≠ 32 := fun e => h32 (by rw [← e]; exact hc)
            have hd2 : c ≠ 47 := fun e => h47 (by rw [← e]; exact hc)
            simp only [step, hcell c hc, hff]
            simp [hd, hd2]

/-- The last byte; b where there is none. -/
def lastI (b : Int) : List UInt8 → Int
  | [] => b
  | c :: t => lastI c.toNat t
theorem lastI_snoc (h : List UInt8) (b : Int) (c : UInt8) : lastI b (h ++ [c]) = c.toNat := by
  induction h generalizing b with
  | nil => rfl
  | cons x h ih => simp only [List.cons_append, lastI]; exact ih _
theorem capsB_snoc (h : List UInt8) (b : Int) (c : UInt8) : capsB b (h ++ [c]) = (capsB b h && (capB c.toNat && decide (lastI b h ≤ c.toNat))) := by
  induction h generalizing b with
  | nil =>
    show (capB c.toNat && decide (b ≤ c.toNat) && true) = (true && (capB c.toNat && decide (b ≤ c.toNat)))
    rw [Bool.and_true, Bool.true_and]
  | cons x h ih =>
    show (capB x.toNat && decide (b ≤ x.toNat) && capsB x.toNat (h ++ [c])) = (capB x.toNat && decide (b ≤ x.toNat) && capsB x.toNat h && (capB c.toNat && decide (lastI x.toNat h ≤ c.toNat)))
    rw [ih]
    simp only [Bool.and_assoc]
theorem handB_snoc (h : List UInt8) (c : UInt8) (hb : handB h = true) : handB (h ++ [c]) = (decide (h.length < 8) && (capB c.toNat && decide (lastI 65 h ≤ c.toNat))) := by
  simp only [handB, Bool.and_eq_true, decide_eq_true_eq] at hb
  rw [handB, capsB_snoc, hb.2, Bool.true_and]
  congr 1
  rw [decide_eq_decide]
  simp
  omega
theorem handOk_snoc (h : List UInt8) (c : UInt8) (hne : h ≠ [] ∨ c ≠ 45) : handOk (h ++ [c]) = handB (h ++ [c]) := by
  have : ¬ h ++ [c] = [45] := by
    intro e
    cases h with
    | nil => simp at e; rcases hne with h1 | h1; · exact h1 rfl
             exact h1 e
    | cons a b => have := congrArg List.length e; simp at this
  simp [handOk, this]

/-- Capital letters, as many as may be. -/
theorem sc_caps (K : List UInt8 → St) (hK : ∀ h c, handOk (h ++ [c]) = true → step (K h) c = some (K (h ++ [c]))) : ∀ (l h : List UInt8), handB h = true → (h ≠ [] ∨ l.head? ≠ some 45) →
    sc (K h) l = ((sc (K (h ++ l.take (hN (8 - h.length) (lastI 65 h) l))) (l.drop (hN (8 - h.length) (lastI 65 h) l))).1, (sc (K (h ++ l.take (hN (8 - h.length) (lastI 65 h) l))) (l.drop (hN (8 - h.length) (lastI 65 h) l))).2 + hN (8 - h.length) (lastI 65 h) l) ∧
    handB (h ++ l.take (hN (8 - h.length) (lastI 65 h) l)) = true ∧
    ∀ c ∈ (l.drop (hN (8 - h.length) (lastI 65 h) l)).head?, handOk ((h ++ l.take (hN (8 - h.length) (lastI 65 h) l)) ++ [c]) = false
  | [], h, hb, _ => by
    have : hN (8 - h.length) (lastI 65 h) [] = 0 := by cases (8 - h.length) <;> rfl
    rw [this]
    simp [hb]
  | c :: l, h, hb, hne => by
    have hne2 : h ≠ [] ∨ c ≠ 45 := by
      rcases hne with h1 | h1
      · exact Or.inl h1
      · right; intro e; exact h1 (by rw [e]; rfl)
    have hsn := handB_snoc h c hb
    have hok := handOk_snoc h c hne2
    by_cases hlt : h.length < 8
    · obtain ⟨m, hm⟩ : ∃ m, 8 - h.length = m + 1 := ⟨8 - h.length - 1, by omega⟩
      rw [hm, hN]
      simp only [hlt, decide_true, Bool.true_and] at hsn
      cases hc : (capB c.toNat && decide (lastI 65 h ≤ c.toNat)) with
      | false =>
        rw [hc] at hsn
        simp only [Bool.false_eq_true, if_false, List.take_zero, List.drop_zero, List.append_nil, Nat.add_zero, true_and]
        refine ⟨hb, ?_⟩
        intro d hd
        simp only [List.head?_cons, Option.mem_def, Option.some.injEq] at hd
        rw [← hd, hok, hsn]
      | true =>
        rw [hc] at hsn
        have hs := hK h c (by rw [hok, hsn])
        have ih := sc_caps K hK l (h ++ [c]) hsn (Or.inl (by simp))
        have hm2 : 8 - (h ++ [c]).length = m := by simp; omega
        rw [hm2, lastI_snoc] at ih
        simp only [if_true, List.take_succ_cons, List.drop_succ_cons]
        have e : ∀ t : List UInt8, h ++ [c] ++ t = h ++ c :: t := fun t => by simp
        rw [e] at ih
        refine ⟨?_, ih.2⟩
        rw [sc_step hs, ih.1, Nat.add_assoc]
    · have : 8 - h.length = 0 := by omega
      have h0 : hN 0 (lastI 65 h) (c :: l) = 0 := rfl
      rw [this, h0]
      refine ⟨by simp, by simpa using hb, ?_⟩
      intro d hd
      simp only [List.drop_zero, List.head?_cons, Option.mem_def, Option.some.injEq] at hd
      rw [← hd]
      simp only [List.take_zero, List.append_nil]
      rw [hok, hsn]
      simp [hlt]

theorem dash_no (c : UInt8) : handOk ([45] ++ [c]) = false := by
  simp [handOk, handB, capsB, capB]

/-- A hand, as the reader has it: where it ends, and what is then there. -/
theorem sc_hand (K : List UInt8 → St) (hK : ∀ h c, handOk (h ++ [c]) = true → step (K h) c = some (K (h ++ [c]))) (l : List UInt8) :
    sc (K []) l = ((sc (K (l.take (handF l).2.2)) (l.drop (handF l).2.2)).1, (sc (K (l.take (handF l).2.2)) (l.drop (handF l).2.2)).2 + (handF l).2.2) ∧
    unhand (l.take (handF l).2.2) = (handF l).2.1 ∧ (handF l).1 = decide (l.take (handF l).2.2 ≠ []) ∧ ∀ c ∈ (l.drop (handF l).2.2).head?, handOk (l.take (handF l).2.2 ++ [c]) = false := by
  by_cases hh : l.head? = some 45
  · obtain ⟨t, rfl⟩ : ∃ t, l = 45 :: t := by
      cases l with
      | nil => simp at hh
      | cons a t => simp at hh; exact ⟨t, by rw [hh]⟩
    have hs := hK [] 45 (by decide)
    simp only [handF, List.head?_cons, if_true, List.take_succ_cons, List.take_zero, List.drop_succ_cons, List.drop_zero]
    refine ⟨by rw [sc_step hs]; rfl, rfl, by decide, ?_⟩
    intro c _
    exact dash_no c
  · have h := sc_caps K hK l [] (by decide) (Or.inr hh)
    simp only [List.length_nil, Nat.sub_zero, List.nil_append, lastI] at h
    obtain ⟨h1, h2, h3⟩ := h
    rw [handF, if_neg hh]
    simp only
    generalize hN' : hN 8 65 l = N at h1 h2 h3 ⊢
    have hle := hN_le 8 65 l
    rw [hN'] at hle
    refine ⟨h1, ?_, ?_, h3⟩
    · rw [unhand, if_neg]
      intro e
      rw [e] at h2
      simp [handB, capsB, capB] at h2
    · rw [decide_eq_decide]
      constructor
      · intro h0 e
        have := congrArg List.length e
        rw [List.length_take, List.length_nil] at this
        omega
      · intro hne
        rcases Nat.eq_zero_or_pos N with e | e
        · exact absurd (by rw [e]; rfl) hne
        · exact e

/-- Byte by byte it is read as by the reader. -/
theorem sc_pos (s : List UInt8) : sc (.rows [] []) s = posF s := by
  have hr := sc_rows 7 [] s rfl (by decide)
  have e1 : least0 [] = 1 := rfl
  have e2 : capS [] = 8 := rfl
  rw [e1, e2] at hr
  rw [hr]
  clear hr
  unfold posF
  have e3 : (rowsF (7 + 1) 1 8 s).2.2 = rowsEnd s := rfl
  rw [e3]
  simp only [List.nil_append]
  by_cases k0 : (rowsF 8 1 8 s).1 = false
  · rw [if_pos k0, if_pos k0]
  rw [if_neg k0, if_neg k0]
  have hat : ∀ n c, ((s.drop n).head? = some c) = (atB s n c = true) := fun n c => by rw [List.head?_drop]; simp [atB]
  simp only [hat]
  generalize (rowsF (7 + 1) 1 8 s).2.1 = R
  generalize rowsEnd s = E
  cases k1 : atB s E 32 with
  | false => simp
  | true =>
    simp only [if_true, Bool.true_eq_false, if_false]
    -- the turn
    have hdrop : ∀ n c, atB s n c = true → s.drop n = c :: s.drop (n + 1) := by
      intro n c h
      simp only [atB, decide_eq_true_eq] at h
      obtain ⟨hlt, he⟩ := List.getElem?_eq_some_iff.1 h
      rw [List.drop_eq_getElem_cons hlt, he]
    cases k2 : (turnF s (E + 1)).1 with
    | false =>
      simp only [if_true]
      have hst : ∀ c ∈ (s.drop (E + 1)).head?, step (.sp R) c = none := by
        intro c hc
        have hc' : (s.drop (E + 1)).head? = some c := hc
        rw [hat] at hc'
        unfold turnF at k2
        simp only [step]
        rw [if_neg]
        rintro (rfl | rfl)
        · rw [if_pos hc'] at k2; cases k2
        · split at k2
          · cases k2
          · cases k2
      rw [sc_stuck hst]
      simp [fin]
    | true =>
      simp only [Bool.true_eq_false, if_false]
      obtain ⟨c, hc, hcc, hT⟩ : ∃ c : UInt8, atB s (E + 1) c = true ∧ (c = 119 ∨ c = 98) ∧ (turnF s (E + 1)).2.1 = if c = 119 then 0 else 1 := by
        unfold turnF at k2 ⊢
        split at k2
        · rename_i h1; rw [if_pos h1]; exact ⟨119, h1, Or.inl rfl, rfl⟩
        · rename_i h1
          rw [if_neg h1]
          split at k2
          · rename_i h2; rw [if_pos h2]; exact ⟨98, h2, Or.inr rfl, rfl⟩
          · cases k2
      have hs1 : step (.sp R) c = some (.turn R c) := by simp only [step]; rw [if_pos hcc]
      rw [hT, hdrop _ _ hc, sc_step hs1]
      cases k3 : atB s (E + 2) 32 with
      | false =>
        simp only [if_true]
        have hst : ∀ d ∈ (s.drop (E + 1 + 1)).head?, step (.turn R c) d = none := by
          intro d hd
          have hd' : (s.drop (E + 1 + 1)).head? = some d := hd
          rw [hat] at hd'
          simp only [step]
          rw [if_neg]
          rintro rfl
          rw [hd'] at k3; cases k3
        rw [sc_stuck hst]
        simp [fin]; omega
      | true =>
        simp only [Bool.true_eq_false, if_false]
        have hs2 : step (.turn R c) 32 = some (.hand1 R c []) := by simp [step]
        have e4 : E + 1 + 1 = E + 2 := rfl
        rw [e4, hdrop _ _ k3, sc_step hs2]
        have e5 : E + 2 + 1 = E + 3 := rfl
        rw [e5]
        obtain ⟨h1, h2, h3, h4⟩ := sc_hand (.hand1 R c) (fun h d hd => by simp only [step]; rw [if_pos hd]) (s.drop (E + 3))
        rw [h1]
        have hdd : ∀ n, (s.drop (E + 3)).drop n = s.drop (E + 3 + n) := fun n => List.drop_drop ..
        rw [hdd] at h4 ⊢
        generalize hF : handF (s.drop (E + 3)) = F at h1 h2 h3 h4 ⊢
        obtain ⟨ok, A, a⟩ := F
        simp only at h2 h3 h4 ⊢
        cases ok with
        | false =>
          have h0 : (s.drop (E + 3)).take a = [] := Classical.byContradiction fun e => by rw [decide_eq_true e] at h3; cases h3
          rw [h0] at h4 ⊢
          simp only [if_true]
          have hst : ∀ d ∈ (s.drop (E + 3 + a)).head?, step (.hand1 R c []) d = none := by
            intro d hd
            have := h4 d hd
            simp only [step]
            rw [if_neg (by rw [this]; simp), if_neg (by simp)]
          rw [sc_stuck hst]
          simp [fin]; omega
        | true =>
          have h0 : (s.drop (E + 3)).take a ≠ [] := by simpa using h3
          simp only [Bool.true_eq_false, if_false]
          generalize (s.drop (E + 3)).take a = g at h0 h2 h4 ⊢
          cases k5 : atB s (E + 3 + a) 47 with
          | false =>
            simp only [if_true]
            have hst : ∀ d ∈ (s.drop (E + 3 + a)).head?, step (.hand1 R c g) d = none := by
              intro d hd
              have := h4 d hd
              have hd' : (s.drop (E + 3 + a)).head? = some d := hd
              rw [hat] at hd'
              simp only [step]
              rw [if_neg (by rw [this]; simp), if_neg]
              rintro ⟨rfl, _⟩
              rw [hd'] at k5; cases k5
            rw [sc_stuck hst]
            simp [fin]; omega
          | true =>
            simp only [Bool.true_eq_false, if_false]
            have h47 := h4 47 (by rw [hdrop _ _ k5]; rfl)
            have hs3 : step (.hand1 R c g) 47 = some (.hand2 R c g []) := by
              simp only [step]
              rw [if_neg (by rw [h47]; simp), if_pos ⟨trivial, h0⟩]
            rw [hdrop _ _ k5, sc_step hs3]
            obtain ⟨j1, j2, j3, j4⟩ := sc_hand (.hand2 R c g) (fun h d hd => by simp only [step]; rw [if_pos hd]) (s.drop (E + 3 + a + 1))
            rw [j1]
            have hst : ∀ d ∈ ((s.drop (E + 3 + a + 1)).drop (handF (s.drop (E + 3 + a + 1))).2.2).head?, step (.hand2 R c g ((s.drop (E + 3 + a + 1)).take (handF (s.drop (E + 3 + a + 1))).2.2)) d = none := by
              intro d hd
              have := j4 d hd
              simp only [step]
              rw [if_neg (by rw [this]; simp)]
            rw [sc_stuck hst]
            generalize handF (s.drop (E + 3 + a + 1)) = F2 at j2 j3 ⊢
            obtain ⟨ok2, B, b⟩ := F2
            simp only at j2 j3 ⊢
            cases ok2 with
            | false =>
              have hb0 : (s.drop (E + 3 + a + 1)).take b = [] := Classical.byContradiction fun e => by rw [decide_eq_true e] at j3; cases j3
              simp [fin, hb0]; omega
            | true =>
              have hb0 : (s.drop (E + 3 + a + 1)).take b ≠ [] := by simpa using j3
              simp only [fin, hb0, if_false, Bool.true_eq_false]
              rw [h2, j2]
              simp only [Prod.mk.injEq, true_and]
              omega
end Go.Proofs.YtfhmpgjemobjhaaGreatDoor
