/-
  Plain mathematics: rules out of their lines; what is read is written so.
-/
import Derived.Test.YtfhmpgjemobjhaaGreatDoorJ12
namespace Go.Proofs.YtfhmpgjemobjhaaGreatDoor

/-- Rules. -/
structure Rl where
  W : Nat
  H : Nat
  C : List UInt8
  T : Int
  A : List UInt8
  B : List UInt8
  ps : List Pc
  dr : Bool
  lo : UInt8
  li : Nat
  re : UInt8
  st : Bool
  pl : Nat
def Rl.none : Rl := ⟨0, 0, [], 0, [], [], [], false, 0, 0, 0, false, 0⟩
def Rl.txt (x : Rl) : List UInt8 := rulesL x.W x.H x.C x.T x.A x.B x.ps x.dr x.lo x.li x.re x.st x.pl

/-- One line, behind a line of the kind last. -/
def lineF (last : Nat) (x : Rl) (s : List UInt8) : Option Rl :=
  if mayB last (lineOf (Lib.cut s [32]).1) = false then .none
  else if lineOf (Lib.cut s [32]).1 = 1 then
    match posF (Lib.cut s [32]).2.1 with
    | (some (W, H, C, T, A, B), n) => if n = (Lib.cut s [32]).2.1.length then some { x with W := W, H := H, C := C, T := T, A := A, B := B } else .none
    | _ => .none
  else if lineOf (Lib.cut s [32]).1 = 2 then (pieceF (Lib.cut s [32]).2.1).map fun p => { x with ps := x.ps ++ [p] }
  else if lineOf (Lib.cut s [32]).1 = 3 then if (Lib.cut s [32]).2.2 then .none else some { x with dr := true }
  else if lineOf (Lib.cut s [32]).1 = 4 then (letterOf (Lib.cut s [32]).2.1).map fun c => { x with lo := c }
  else if lineOf (Lib.cut s [32]).1 = 5 then (numOf (Lib.cut s [32]).2.1).bind fun n => if 0 < n then some { x with li := n } else .none
  else if lineOf (Lib.cut s [32]).1 = 6 then (letterOf (Lib.cut s [32]).2.1).map fun c => { x with re := c }
  else if lineOf (Lib.cut s [32]).1 = 7 then if (Lib.cut s [32]).2.2 then .none else some { x with st := true }
  else if lineOf (Lib.cut s [32]).1 = 8 then (numOf (Lib.cut s [32]).2.1).map fun n => { x with pl := n }
  else .none
/-- All lines: the last one's kind and what they say, or none; how many were read. -/
def linesF : Nat → Nat → Rl → List UInt8 → Nat → Option (Nat × Rl) × Nat
  | 0, last, x, _, k => (some (last, x), k)
  | n + 1, last, x, s, k =>
    if s = [] then (some (last, x), k)
    else if (Lib.cut s [10]).2.2 = false then (.none, k)
    else match lineF last x (Lib.cut s [10]).1 with
      | .none => (.none, k)
      | some x' => linesF n (lineOf (Lib.cut (Lib.cut s [10]).1 [32]).1) x' (Lib.cut s [10]).2.1 (k + 1)

theorem may_of (last k : Nat) (h : mayB last k = true) : (last = 0 ∧ k = 1) ∨ (last = 1 ∧ k = 2) ∨ (last = 2 ∧ 2 ≤ k) ∨ (3 ≤ last ∧ last < k) := by
  unfold mayB at h
  split at h
  · rw [decide_eq_true_eq] at h; omega
  split at h
  · rw [decide_eq_true_eq] at h; omega
  split at h
  · rw [decide_eq_true_eq] at h; omega
  · rw [decide_eq_true_eq] at h; omega
theorem lineOf_w (l : List UInt8) : lineOf l = 0 ∨ (lineOf l = 1 ∧ l = wStart) ∨ (lineOf l = 2 ∧ l = wPiece) ∨ (lineOf l = 3 ∧ l = wDrops) ∨ (lineOf l = 4 ∧ l = wLose) ∨ (lineOf l = 5 ∧ l = wLine) ∨ (lineOf l = 6 ∧ l = wReach) ∨ (lineOf l = 7 ∧ l = wStuck) ∨ (lineOf l = 8 ∧ l = wPlies) := by
  unfold lineOf
  split; · rename_i e; exact Or.inr (Or.inl ⟨rfl, e⟩)
  split; · rename_i e; exact Or.inr (Or.inr (Or.inl ⟨rfl, e⟩))
  split; · rename_i e; exact Or.inr (Or.inr (Or.inr (Or.inl ⟨rfl, e⟩)))
  split; · rename_i e; exact Or.inr (Or.inr (Or.inr (Or.inr (Or.inl ⟨rfl, e⟩))))
  split; · rename_i e; exact Or.inr (Or.inr (Or.inr (Or.inr (Or.inr (Or.inl ⟨rfl, e⟩)))))
  split; · rename_i e; exact Or.inr (Or.inr (Or.inr (Or.inr (Or.inr (Or.inr (Or.inl ⟨rfl, e⟩))))))
  split; · rename_i e; exact Or.inr (Or.inr (Or.inr (Or.inr (Or.inr (Or.inr (Or.inr (Or.inl ⟨rfl, e⟩)))))))
  split; · rename_i e; exact Or.inr (Or.inr (Or.inr (Or.inr (Or.inr (Or.inr (Or.inr (Or.inr ⟨rfl, e⟩)))))))
  exact Or.inl rfl
theorem line_two (a b : List UInt8) : lineL [a, b] = (a ++ 32 :: b) ++ [10] := by
  rw [lineL, join_more, Lib.join_one]; simp
theorem line_one (a : List UInt8) : lineL [a] = a ++ [10] := by rw [lineL, Lib.join_one]

/-- What has been read, in letters. -/
def preL (last : Nat) (x : Rl) : List UInt8 := if last = 0 then [] else
  lineL [wStart, wtxt x.W x.H x.C x.T x.A x.B] ++ x.ps.flatMap pcL ++ dropsL x.dr ++ letL wLose x.lo ++ numL x.li ++ letL wReach x.re ++ stuckL x.st ++ (if last = 8 then lineL [wPlies, Lib.decDigits x.pl] else [])
structure Inv (last : Nat) (x : Rl) : Prop where
  ps : last ≤ 1 → x.ps = []
  dr : last < 3 → x.dr = false
  lo : last < 4 → x.lo = 0
  li : last < 5 → x.li = 0
  re : last < 6 → x.re = 0
  st : last < 7 → x.st = false
theorem Inv.begin : Inv 0 Rl.none := ⟨fun _ => rfl, fun _ => rfl, fun _ => rfl, fun _ => rfl, fun _ => rfl, fun _ => rfl⟩
theorem preL_all (x : Rl) : preL 8 x = x.txt := by simp [preL, Rl.txt, rulesL]

/-- A word and what is behind it. -/
theorem cut_rest (s wd : List UInt8) (e : (Lib.cut s [32]).1 = wd) (h : (Lib.cut s [32]).2.1 ≠ []) : s = wd ++ 32 :: (Lib.cut s [32]).2.1 := by
  by_cases hc : (Lib.cut s [32]).2.2 = true
  · have := cut_back s [32] hc
    rw [e] at this
    exact this
  · exact absurd (cut_whole s [32] (Bool.eq_false_iff.2 hc)).2 h
theorem letterOf_back (l : List UInt8) (c : UInt8) (h : letterOf l = some c) : l = [c] ∧ c ≠ 0 := by
  unfold letterOf at h
  split at h
  · split at h
    · rename_i hc
      obtain rfl := Option.some.inj h
      refine ⟨rfl, ?_⟩
      rintro rfl
      exact absurd hc (by decide)
    · cases h
  · cases h
theorem numOf_ne (l : List UInt8) (n : Nat) (h : numOf l = some n) : l ≠ [] := by
  rw [numOf_back l n h]; exact dec_ne n

set_option maxHeartbeats 1000000 in
theorem line_step (last : Nat) (x x' : Rl) (s : List UInt8) (hi : Inv last x) (h : lineF last x s = some x') :
    Inv (lineOf (Lib.cut s [32]).1) x' ∧ preL (lineOf (Lib.cut s [32]).1) x' = preL last x ++ (s ++ [10]) := by
  unfold lineF at h
  split at h
  · cases h
  rename_i hm
  have hm' := may_of _ _ (Bool.not_eq_false _ ▸ hm)
  obtain ⟨h1, h2, h3, h4, h5, h6⟩ := hi
  rcases lineOf_w (Lib.cut s [32]).1 with e | ⟨e, ew⟩ | ⟨e, ew⟩ | ⟨e, ew⟩ | ⟨e, ew⟩ | ⟨e, ew⟩ | ⟨e, ew⟩ | ⟨e, ew⟩ | ⟨e, ew⟩ <;> rw [e] at hm' h ⊢ <;> simp (config := { decide := true }) only [if_true, if_false] at h
  · cases h
  · have hl : last = 0 := by omega
    subst hl
    split at h
    · rename_i W H C T A B n hp
      split at h
      · rename_i hn
        subst hn
        obtain rfl := Option.some.inj h
        have ht := (written_read _ W H C T A B hp).2
        have hs := cut_rest s _ ew (by rw [← ht]; simp [wtxt])
        rw [← ht] at hs
        refine ⟨⟨fun _ => h1 (by omega), fun _ => h2 (by omega), fun _ => h3 (by omega), fun _ => h4 (by omega), fun _ => h5 (by omega), fun _ => h6 (by omega)⟩, ?_⟩
        rw [hs]
        simp [preL, h1, h2, h3, h4, h5, h6, line_two, dropsL, letL, numL, stuckL]
      · cases h
    · cases h
  · cases hp : pieceF (Lib.cut s [32]).2.1 with
    | none => rw [hp] at h; cases h
    | some p =>
      rw [hp] at h
      obtain rfl := Option.some.inj h
      have ht := (pieceF_back _ p hp).1
      have hs := cut_rest s _ ew (by rw [← ht]; simp [pieceL])
      rw [← ht] at hs
      have hl0 : last ≠ 0 := by omega
      have hl8 : last ≠ 8 := by omega
      refine ⟨⟨fun _ => by omega, fun _ => h2 (by omega), fun _ => h3 (by omega), fun _ => h4 (by omega), fun _ => h5 (by omega), fun _ => h6 (by omega)⟩, ?_⟩
      rw [hs]
      simp [preL, hl0, hl8, h2 (by omega), h3 (by omega), h4 (by omega), h5 (by omega), h6 (by omega), line_two, dropsL, letL, numL, stuckL, pcL]
  · split at h
    · cases h
    · rename_i hc
      obtain rfl := Option.some.inj h
      have hs := (cut_whole s [32] (Bool.eq_false_iff.2 hc)).1
      rw [ew] at hs
      have hl0 : last ≠ 0 := by omega
      have hl8 : last ≠ 8 := by omega
      refine ⟨⟨fun _ => by omega, fun _ => by omega, fun _ => h3 (by omega), fun _ => h4 (by omega), fun _ => h5 (by omega), fun _ => h6 (by omega)⟩, ?_⟩
      rw [← hs]
      simp [preL, hl0, hl8, h2 (by omega), h3 (by omega), h4 (by omega), h5 (by omega), h6 (by omega), line_one, dropsL, letL, numL, stuckL]
  · cases hp : letterOf (Lib.cut s [32]).2.1 with
    | none => rw [hp] at h; cases h
    | some c =>
      rw [hp] at h
      obtain rfl := Option.some.inj h
      obtain ⟨ht, hc0⟩ := letterOf_back _ _ hp
      have hs := cut_rest s _ ew (by rw [ht]; simp)
      rw [ht] at hs
      have hl0 : last ≠ 0 := by omega
      have hl8 : last ≠ 8 := by omega
      refine ⟨⟨fun _ => by omega, fun _ => by omega, fun _ => by omega, fun _ => h4 (by omega), fun _ => h5 (by omega), fun _ => h6 (by omega)⟩, ?_⟩
      rw [hs]
      simp [preL, hl0, hl8, hc0, h3 (by omega), h4 (by omega), h5 (by omega), h6 (by omega), line_two, letL, numL, stuckL]
  · cases hp : numOf (Lib.cut s [32]).2.1 with
    | none => rw [hp] at h; cases h
    | some c =>
      rw [hp] at h
      simp only [Option.bind_some] at h
      split at h
      · rename_i hc0
        obtain rfl := Option.some.inj h
        have hs := cut_rest s _ ew (numOf_ne _ _ hp)
        rw [numOf_back _ _ hp] at hs
        have hl0 : last ≠ 0 := by omega
        have hl8 : last ≠ 8 := by omega
        have hc1 : c ≠ 0 := by omega
        refine ⟨⟨fun _ => by omega, fun _ => by omega, fun _ => by omega, fun _ => by omega, fun _ => h5 (by omega), fun _ => h6 (by omega)⟩, ?_⟩
        rw [hs]
        simp [preL, hl0, hl8, hc1, h4 (by omega), h5 (by omega), h6 (by omega), line_two, letL, numL, stuckL]
      · cases h
  · cases hp : letterOf (Lib.cut s [32]).2.1 with
    | none => rw [hp] at h; cases h
    | some c =>
      rw [hp] at h
      obtain rfl := Option.some.inj h
      obtain ⟨ht, hc0⟩ := letterOf_back _ _ hp
      have hs := cut_rest s _ ew (by rw [ht]; simp)
      rw [ht] at hs
      have hl0 : last ≠ 0 := by omega
      have hl8 : last ≠ 8 := by omega
      refine ⟨⟨fun _ => by omega, fun _ => by omega, fun _ => by omega, fun _ => by omega, fun _ => by omega, fun _ => h6 (by omega)⟩, ?_⟩
      rw [hs]
      simp [preL, hl0, hl8, hc0, h5 (by omega), h6 (by omega), line_two, letL, stuckL]
  · split at h
    · cases h
    · rename_i hc
      obtain rfl := Option.some.inj h
      have hs := (cut_whole s [32] (Bool.eq_false_iff.2 hc)).1
      rw [ew] at hs
      have hl0 : last ≠ 0 := by omega
      have hl8 : last ≠ 8 := by omega
      refine ⟨⟨fun _ => by omega, fun _ => by omega, fun _ => by omega, fun _ => by omega, fun _ => by omega, fun _ => by omega⟩, ?_⟩
      rw [← hs]
      simp [preL, hl0, hl8, h6 (by omega), line_one, stuckL]
  · cases hp : numOf (Lib.cut s [32]).2.1 with
    | none => rw [hp] at h; cases h
    | some c =>
      rw [hp] at h
      obtain rfl := Option.some.inj h
      have hs := cut_rest s _ ew (numOf_ne _ _ hp)
      rw [numOf_back _ _ hp] at hs
      have hl0 : last ≠ 0 := by omega
      have hl8 : last ≠ 8 := by omega
      refine ⟨⟨fun _ => by omega, fun _ => by omega, fun _ => by omega, fun _ => by omega, fun _ => by omega, fun _ => by omega⟩, ?_⟩
      rw [hs]
      simp [preL, hl0, hl8, line_two]

theorem lines_back : ∀ (n last : Nat) (x : Rl) (s : List UInt8) (k last' : Nat) (x' : Rl) (k' : Nat), s.length ≤ n → Inv last x → linesF n last x s k = (some (last', x'), k') → preL last' x' = preL last x ++ s
  | 0, last, x, s, k, last', x', k', hn, hi, h => by
    have hs : s = [] := List.length_eq_zero_iff.1 (by omega)
    simp only [linesF, Prod.mk.injEq, Option.some.injEq] at h
    obtain ⟨⟨rfl, rfl⟩, -⟩ := h
    rw [hs, List.append_nil]
  | n + 1, last, x, s, k, last', x', k', hn, hi, h => by
    rw [linesF] at h
    split at h
    · rename_i hs
      simp only [Prod.mk.injEq, Option.some.injEq] at h
      obtain ⟨⟨rfl, rfl⟩, -⟩ := h
      rw [hs, List.append_nil]
    split at h
    · simp at h
    rename_i hc
    have hc' : (Lib.cut s [10]).2.2 = true := Bool.not_eq_false _ ▸ hc
    split at h
    · simp at h
    rename_i y hy
    obtain ⟨hi2, hp⟩ := line_step last x y _ hi hy
    have hsh := cut_shorter s [10] (by simp) hc'
    have := lines_back n _ y _ (k + 1) last' x' k' (by omega) hi2 h
    rw [this, hp]
    have e := cut_back s [10] hc'
    conv => rhs; rw [e]
    simp
/-- WHAT IS READ IS WRITTEN SO. -/
theorem rules_back (s : List UInt8) (x : Rl) (k : Nat) (h : linesF s.length 0 Rl.none s 0 = (some (8, x), k)) : x.txt = s := by
  have := lines_back s.length 0 Rl.none s 0 8 x k (Nat.le_refl _) Inv.begin h
  rw [preL_all] at this
  rw [this]
  rfl
end Go.Proofs.YtfhmpgjemobjhaaGreatDoor
