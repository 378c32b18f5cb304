/-
  Plain mathematics: numbers' words there and back.
  Plain mathematics: cut at one byte; ways' words there and back.
-/
import Derived.Test.YtbcedjjocpjkjabDoorJ14
namespace Go.Proofs.YtbcedjjocpjkjabDoor

theorem foldD_app : ∀ (a b : List UInt8) (n : Nat), foldD n (a ++ b) = (foldD n a).bind fun m => foldD m b
  | [], b, n => rfl
  | c :: t, b, n => by
    simp only [List.cons_append, foldD]
    split
    · exact foldD_app t b _
    · rfl
theorem digit_nat (d : Nat) (h : d < 10) : (UInt8.ofNat (48 + d)).toNat = 48 + d := by
  rw [UInt8.toNat_ofNat']
  omega
theorem foldD_one (n d : Nat) (h : d < 10) : foldD n [UInt8.ofNat (48 + d)] = some (10 * n + d) := by
  simp only [foldD]
  rw [digit_nat d h, if_pos (by omega)]
  congr 1
  omega
theorem foldD_dec (n : Nat) : foldD 0 (Lib.decDigits n) = some n := by
  induction n using Nat.strongRecOn with
  | ind n ih =>
    rw [Lib.decDigits]
    split
    · rename_i h
      rw [foldD_one 0 n h]
      congr 1
      omega
    · rename_i h
      rw [foldD_app, ih (n / 10) (by omega)]
      show foldD (n / 10) _ = _
      rw [foldD_one _ _ (Nat.mod_lt _ (by omega))]
      congr 1
      omega
theorem dec_ne (n : Nat) : Lib.decDigits n ≠ [] := by
  rw [Lib.decDigits]
  split <;> simp
theorem dec_head (n : Nat) (h : (Lib.decDigits n).head? = some 48) : n = 0 := by
  induction n using Nat.strongRecOn with
  | ind n ih =>
    rw [Lib.decDigits] at h
    split at h
    · rename_i h10
      have := congrArg UInt8.toNat (Option.some.inj h)
      rw [digit_nat n h10] at this
      have e : (48 : UInt8).toNat = 48 := rfl
      omega
    · rename_i h10
      have h0 := ih (n / 10) (by omega) (by
        cases hl : Lib.decDigits (n / 10) with
        | nil => exact absurd hl (dec_ne _)
        | cons c t => rw [hl] at h; exact h)
      omega
theorem dec_small (n : Nat) (h : n ≤ 9999) : (Lib.decDigits n).length ≤ 4 := by
  rw [Lib.decDigits_length]
  by_cases h1 : n < 10
  · rw [Lib.nDigits_small h1]; omega
  rw [Lib.nDigits_big h1]
  by_cases h2 : n / 10 < 10
  · rw [Lib.nDigits_small h2]; omega
  rw [Lib.nDigits_big h2]
  by_cases h3 : n / 10 / 10 < 10
  · rw [Lib.nDigits_small h3]; omega
  rw [Lib.nDigits_big h3, Lib.nDigits_small (by omega)]
  omega
theorem numOf_dec (n : Nat) (h : n ≤ 9999) : numOf (Lib.decDigits n) = some n := by
  have h4 := dec_small n h
  have h1 : 1 ≤ (Lib.decDigits n).length := by
    have := dec_ne n
    cases hl : Lib.decDigits n with
    | nil => exact absurd hl this
    | cons c t => simp
  rw [numOf, if_neg, foldD_dec]
  rintro (h' | h' | ⟨h', h''⟩)
  · omega
  · omega
  · have := dec_head n h'
    subst this
    rw [Lib.decDigits_one (by omega)] at h''
    simp at h''
theorem foldD_back (l : List UInt8) : ∀ n, l ≠ [] → ¬ (l.head? = some 48 ∧ 1 < l.length) → foldD 0 l = some n → l = Lib.decDigits n := by
  induction h : l.length generalizing l with
  | zero => intro n hn; exact absurd (List.length_eq_zero_iff.1 h) hn
  | succ k ih =>
    intro n hne hz hf
    obtain ⟨t, c, rfl⟩ : ∃ t c, l = t ++ [c] := ⟨l.dropLast, l.getLast hne, (List.dropLast_concat_getLast hne).symm⟩
    have hk : t.length = k := by simpa using h
    rw [foldD_app] at hf
    cases hm : foldD 0 t with
    | none => rw [hm] at hf; cases hf
    | some m =>
      rw [hm] at hf
      replace hf : foldD m [c] = some n := hf
      simp only [foldD] at hf
      split at hf
      · rename_i hc
        have hn : 10 * m + (c.toNat - 48) = n := Option.some.inj hf
        by_cases ht : t = []
        · subst ht
          have hm0 : m = 0 := (Option.some.inj hm).symm
          subst hm0
          have hcc : c = UInt8.ofNat (48 + n) := by
            apply UInt8.toNat_inj.1
            rw [digit_nat n (by omega)]; omega
          rw [Lib.decDigits_one (by omega), hcc]; rfl
        · have hhd : ¬ t.head? = some 48 := by
            intro hh
            apply hz
            cases t with
            | nil => exact absurd rfl ht
            | cons a b => exact ⟨hh, by simp only [List.length_cons] at hk; omega⟩
          have e := ih t hk m ht (fun hh => hhd hh.1) hm
          have hm1 : m ≠ 0 := by
            rintro rfl
            apply hhd
            rw [e, Lib.decDigits_one (by omega)]; rfl
          have hcc : c = UInt8.ofNat (48 + n % 10) := by
            apply UInt8.toNat_inj.1
            rw [digit_nat _ (Nat.mod_lt _ (by omega))]; omega
          have hd : n / 10 = m := by omega
          rw [Lib.decDigits, dif_neg (by omega), hd, ← e, hcc]
      · cases hf
theorem numOf_back (l : List UInt8) (n : Nat) (h : numOf l = some n) : l = Lib.decDigits n := by
  unfold numOf at h
  split at h
  · cases h
  · rename_i hc
    refine foldD_back l n ?_ (fun hh => hc (Or.inr (Or.inr hh))) h
    rintro rfl
    exact hc (Or.inl (by simp))
theorem dec_digits (n : Nat) : ∀ c ∈ Lib.decDigits n, 48 ≤ c.toNat ∧ c.toNat ≤ 57 := by
  induction n using Nat.strongRecOn with
  | ind n ih =>
    intro c hc
    rw [Lib.decDigits] at hc
    split at hc
    · rename_i h
      rw [List.mem_singleton.1 hc, digit_nat n h]; omega
    · rename_i h
      rcases List.mem_append.1 hc with hc | hc
      · exact ih (n / 10) (by omega) c hc
      · have := Nat.mod_lt n (show 10 > 0 by omega)
        rw [List.mem_singleton.1 hc, digit_nat _ this]; omega
end Go.Proofs.YtbcedjjocpjkjabDoor

namespace Go.Proofs.YtbcedjjocpjkjabDoor

theorem index_cons_eq (c : UInt8) (l : List UInt8) : Lib.index (c :: l) [c] = 0 := by rw [Lib.index]; simp [List.isPrefixOf]
theorem index_cons_ne (b c : UInt8) (l : List UInt8) (h : b ≠ c) : Lib.index (b :: l) [c] = if Lib.index l [c] == -1 then -1 else Lib.index l [c] + 1 := by
  have hp : ([c] : List UInt8).isPrefixOf (b :: l) = false := by simp [List.isPrefixOf, Ne.symm h]
  rw [Lib.index, hp]; simp
theorem index_mem (c : UInt8) : ∀ (a b : List UInt8), c ∉ a → Lib.index (a ++ c :: b) [c] = (a.length : Nat)
  | [], b, _ => by rw [List.nil_append, index_cons_eq]; rfl
  | x :: t, b, h => by
    have hx : x ≠ c := fun e => h (by simp [e])
    have ht : c ∉ t := fun e => h (by simp [e])
    rw [List.cons_append, index_cons_ne x c _ hx, index_mem c t b ht]
    have : ¬ (((t.length : Nat) : Int) == -1) = true := by simp
    rw [if_neg this]
    simp
theorem index_no (c : UInt8) : ∀ (a : List UInt8), c ∉ a → Lib.index a [c] = -1
  | [], _ => by simp [Lib.index]
  | x :: t, h => by
    have hx : x ≠ c := fun e => h (by simp [e])
    have ht : c ∉ t := fun e => h (by simp [e])
    rw [index_cons_ne x c _ hx, index_no c t ht]
    rfl
theorem split_hit (c : UInt8) (k : Nat) (a b : List UInt8) (h : c ∉ a) : Lib.splitK [c] 0 (k + 1) (a ++ c :: b) = a :: Lib.splitK [c] 0 k b := by
  rw [Lib.splitK, index_mem c a b h]
  have : ¬ (((a.length : Nat) : Int) == -1) = true := by simp
  rw [if_neg this]
  simp
theorem split_no (c : UInt8) (k : Nat) (a : List UInt8) (h : c ∉ a) : Lib.splitK [c] 0 k a = [a] := by
  cases k with
  | zero => rfl
  | succ k => rw [Lib.splitK, index_no c a h]; rfl
/-- Words with a byte between them. -/
def joinC (c : UInt8) : List (List UInt8) → List UInt8
  | [] => []
  | [a] => a
  | a :: b :: t => a ++ c :: joinC c (b :: t)
theorem split_ne (c : UInt8) (k : Nat) (s : List UInt8) : Lib.splitK [c] 0 k s ≠ [] := by
  cases k with
  | zero => simp [Lib.splitK]
  | succ k => rw [Lib.splitK]; split <;> simp
theorem first_c (c : UInt8) : ∀ s : List UInt8, c ∈ s → ∃ a b, s = a ++ c :: b ∧ c ∉ a
  | [], h => absurd h (by simp)
  | x :: t, h => by
    by_cases hx : x = c
    · exact ⟨[], t, by rw [hx]; rfl, by simp⟩
    · obtain ⟨a, b, rfl, ha⟩ := first_c c t (by
        rcases List.mem_cons.1 h with h | h
        · exact absurd h.symm hx
        · exact h)
      exact ⟨x :: a, b, rfl, by simp [Ne.symm hx, ha]⟩
theorem join_split (c : UInt8) : ∀ (k : Nat) (s : List UInt8), joinC c (Lib.splitK [c] 0 k s) = s
  | 0, s => rfl
  | k + 1, s => by
    by_cases h : c ∈ s
    · obtain ⟨a, b, rfl, ha⟩ := first_c c s h
      rw [split_hit c k a b ha]
      have e := join_split c k b
      cases hl : Lib.splitK [c] 0 k b with
      | nil => exact absurd hl (split_ne c k b)
      | cons x t => rw [hl] at e; rw [joinC, e]
    · rw [split_no c _ s h]; rfl

theorem dec_noblank (n : Nat) : (32 : UInt8) ∉ Lib.decDigits n := by
  intro h
  have := (dec_digits n 32 h).1
  have e : (32 : UInt8).toNat = 32 := rfl
  omega
theorem kind_noblank (k : Int) : (32 : UInt8) ∉ kindL k := by
  unfold kindL
  split
  · decide
  · split <;> decide

/-- The way, out of its own text. -/
theorem wayOf_wayL (z : Wy) (h : z.ok = true) : wayOf (wayL z) = some z := by
  obtain ⟨k, x, y, t⟩ := z
  simp only [Wy.ok, inB, Bool.and_eq_true, Bool.or_eq_true, decide_eq_true_eq] at h
  obtain ⟨⟨⟨⟨⟨hx0, hx7⟩, hy0, hy7⟩, -⟩, ht⟩, hk⟩ := h
  obtain ⟨X, rfl⟩ : ∃ X : Nat, x = X := ⟨x.toNat, by omega⟩
  obtain ⟨Y, rfl⟩ : ∃ Y : Nat, y = Y := ⟨y.toNat, by omega⟩
  have hX := numOf_dec X (by omega)
  have hY := numOf_dec Y (by omega)
  have hK : (kindOf (kindL k) : Int) = k ∧ kindOf (kindL k) ≠ 0 := by
    have : k = 1 ∨ k = 2 ∨ k = 3 := by omega
    rcases this with rfl | rfl | rfl <;> decide
  have hlen : 3 ≤ (wayL ⟨k, X, Y, t⟩).length := by simp only [wayL, List.length_append, List.length_cons]; have : 4 ≤ (kindL k).length := (by unfold kindL; split; decide; split <;> decide); omega
  have e4 : min 4 ((wayL ⟨k, X, Y, t⟩).length + 1) - 1 = 3 := by omega
  unfold wayOf Lib.splitN
  rw [e4]
  simp only [wayL, Int.toNat_natCast]
  rw [split_hit 32 2 _ _ (kind_noblank k), split_hit 32 1 _ _ (dec_noblank X)]
  rcases ht with (rfl | rfl) | rfl
  · simp only [takeL]
    rw [show Lib.decDigits Y ++ (if (0 : Int) = 1 then [32, 116, 97, 107, 101] else if (0 : Int) = 2 then [32, 113, 117, 105, 101, 116] else []) = Lib.decDigits Y by simp]
    rw [split_no 32 1 _ (dec_noblank Y)]
    simp only [wayW]
    rw [if_neg hK.2, hX, hY, hK.1]
  · rw [show takeL 1 = 32 :: [116, 97, 107, 101] from rfl, split_hit 32 0 _ _ (dec_noblank Y)]
    simp only [wayW, Lib.splitK]
    rw [if_neg (by rintro (h | h); exact hK.2 h; exact absurd h (by decide)), hX, hY, hK.1]
    rfl
  · rw [show takeL 2 = 32 :: [113, 117, 105, 101, 116] from rfl, split_hit 32 0 _ _ (dec_noblank Y)]
    simp only [wayW, Lib.splitK]
    rw [if_neg (by rintro (h | h); exact hK.2 h; exact absurd h (by decide)), hX, hY, hK.1]
    rfl
theorem kindL_of (l : List UInt8) (h : kindOf l ≠ 0) : kindL (kindOf l : Nat) = l := by
  unfold kindOf at *
  split at h
  · rename_i e; subst e; rfl
  split at h
  · rename_i e; subst e; rfl
  split at h
  · rename_i e; subst e; rfl
  · exact absurd rfl h
theorem takeL_of (l : List UInt8) (h : takeOf l ≠ 0) : takeL (takeOf l : Nat) = 32 :: l := by
  unfold takeOf at *
  split at h
  · rename_i e; subst e; rfl
  split at h
  · rename_i e; subst e; rfl
  · exact absurd rfl h
/-- The text, out of the way that it gives. -/
theorem wayL_wayOf (l : List UInt8) (z : Wy) (h : wayOf l = some z) : wayL z = l := by
  unfold wayOf Lib.splitN at h
  have e := join_split 32 (min 4 (l.length + 1) - 1) l
  generalize Lib.splitK [32] 0 (min 4 (l.length + 1) - 1) l = P at h e
  subst e
  unfold wayW at h
  split at h
  · rename_i a b c
    split at h
    · cases h
    · rename_i hk
      split at h
      · rename_i x y hx hy
        obtain rfl := Option.some.inj h
        simp only [wayL, Int.toNat_natCast, joinC]
        rw [kindL_of a hk, ← numOf_back b x hx, ← numOf_back c y hy]
        simp [takeL]
      · cases h
  · rename_i a b c d
    split at h
    · cases h
    · rename_i hk
      split at h
      · rename_i x y hx hy
        obtain rfl := Option.some.inj h
        simp only [wayL, Int.toNat_natCast, joinC]
        rw [kindL_of a (fun e => hk (Or.inl e)), ← numOf_back b x hx, ← numOf_back c y hy, takeL_of d (fun e => hk (Or.inr e))]
      · cases h
  · cases h
end Go.Proofs.YtbcedjjocpjkjabDoor
