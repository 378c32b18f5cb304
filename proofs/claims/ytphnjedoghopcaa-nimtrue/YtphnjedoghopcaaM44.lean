/-
  Plain mathematics: what may be left of a heap; values of heaps.
-/
import Derived.Test.YtphnjedoghopcaaM42
namespace Go.Proofs.Ytphnjedoghopcaa

/-- What may be left where the digit is d and rest things stay. -/
def one1 (d rest : Nat) : List (List Nat) := if d % 2 = 1 ∧ rest = 0 then [[]] else []
def one2 (d rest : Nat) : List (List Nat) := if d / 2 % 2 = 1 ∧ 0 < rest then [[rest]] else []
def two (rest k : Nat) : List (List Nat) := (List.range k).map fun a => [a + 1, rest - (a + 1)]
def one4 (d rest : Nat) : List (List Nat) := if d / 4 % 2 = 1 then two rest (rest / 2) else []
def tk1 (d rest : Nat) : List (List Nat) := one1 d rest ++ (one2 d rest ++ one4 d rest)
/-- .. taken by the first so many digits. -/
def tkTo (D : List Nat) (n k : Nat) : List (List Nat) := (List.range k).flatMap fun i => tk1 D[i]! (n - (i + 1))
/-- What may be left of a heap. -/
def tks (D : List Nat) (n : Nat) : List (List Nat) := tkTo D n (min n D.length)
theorem tkTo_succ (D : List Nat) (n k : Nat) : tkTo D n (k + 1) = tkTo D n k ++ tk1 D[k]! (n - (k + 1)) := by
  unfold tkTo; rw [List.range_succ, List.flatMap_append]; simp
theorem two_succ (rest k : Nat) : two rest (k + 1) = two rest k ++ [[k + 1, rest - (k + 1)]] := by
  unfold two; rw [List.range_succ, List.map_append]; rfl
theorem tkTo_more (D : List Nat) (n k : Nat) : ∀ m, ∃ R, tkTo D n (k + m) = tkTo D n k ++ R
  | 0 => ⟨[], by simp⟩
  | m + 1 => by
    obtain ⟨R, hR⟩ := tkTo_more D n k m
    exact ⟨R ++ tk1 D[k + m]! (n - (k + m + 1)), by rw [← Nat.add_assoc, tkTo_succ, hR, List.append_assoc]⟩
theorem tks_at (D : List Nat) {n k : Nat} (h : k < min n D.length) : ∃ R, tks D n = tkTo D n k ++ (tk1 D[k]! (n - (k + 1)) ++ R) := by
  obtain ⟨R, hR⟩ := tkTo_more D n (k + 1) (min n D.length - (k + 1))
  refine ⟨R, ?_⟩
  unfold tks
  rw [show min n D.length = k + 1 + (min n D.length - (k + 1)) by omega, hR, tkTo_succ, List.append_assoc]
/-- All up to the first that is enough. -/
def upTo (p : List Nat → Bool) : List (List Nat) → List (List Nat)
  | [] => []
  | x :: l => if p x then [x] else x :: upTo p l
theorem upTo_all (p : List Nat → Bool) : ∀ (P : List (List Nat)), (∀ x ∈ P, p x = false) → upTo p P = P
  | [], _ => rfl
  | x :: P, h => by
    rw [upTo, h x (by simp), upTo_all p P (fun y hy => h y (by simp [hy]))]
    rfl
theorem upTo_hit (p : List Nat → Bool) : ∀ (P : List (List Nat)) (x : List Nat) (R : List (List Nat)), (∀ y ∈ P, p y = false) → p x = true → upTo p (P ++ x :: R) = P ++ [x]
  | [], x, R, _, hx => by rw [List.nil_append, upTo, hx]; rfl
  | y :: P, x, R, h, hx => by
    rw [List.cons_append, upTo, h y (by simp), upTo_hit p P x R (fun z hz => h z (by simp [hz])) hx]
    rfl
/-- What is left is smaller, and something. -/
theorem tk1_lt {d rest : Nat} {x : List Nat} (h : x ∈ tk1 d rest) : (∀ y ∈ x, 1 ≤ y ∧ y ≤ rest) ∧ x.length ≤ 2 := by
  unfold tk1 at h
  rcases List.mem_append.1 h with h | h
  · unfold one1 at h
    split at h
    · simp only [List.mem_singleton] at h; subst h; exact ⟨fun y hy => by simp at hy, by simp⟩
    · simp at h
  · rcases List.mem_append.1 h with h | h
    · unfold one2 at h
      split at h
      · simp only [List.mem_singleton] at h
        subst h
        exact ⟨fun y hy => by simp only [List.mem_singleton] at hy; subst hy; omega, by simp⟩
      · simp at h
    · unfold one4 at h
      split at h
      · unfold two at h
        obtain ⟨a, ha, rfl⟩ := List.mem_map.1 h
        rw [List.mem_range] at ha
        refine ⟨fun y hy => ?_, by simp⟩
        simp only [List.mem_cons, List.not_mem_nil, or_false] at hy
        rcases hy with rfl | rfl <;> omega
      · simp at h
theorem tks_lt {D : List Nat} {n : Nat} {x : List Nat} (h : x ∈ tks D n) : (∀ y ∈ x, 1 ≤ y ∧ y < n) ∧ x.length ≤ 2 := by
  unfold tks tkTo at h
  obtain ⟨i, hi, hx⟩ := List.mem_flatMap.1 h
  rw [List.mem_range] at hi
  have := tk1_lt hx
  exact ⟨fun y hy => by have := this.1 y hy; omega, this.2⟩
theorem tk1_len (d rest : Nat) : (tk1 d rest).length ≤ rest + 2 := by
  unfold tk1 one1 one2 one4 two
  rw [List.length_append, List.length_append]
  split <;> split <;> split <;> simp <;> omega
theorem tkTo_len (D : List Nat) (n : Nat) : ∀ k, (tkTo D n k).length ≤ k * (n + 2)
  | 0 => by simp [tkTo]
  | k + 1 => by
    rw [tkTo_succ, List.length_append, Nat.add_mul, Nat.one_mul]
    have := tkTo_len D n k
    have := tk1_len D[k]! (n - (k + 1))
    omega
theorem tks_len {D : List Nat} (hD : D.length ≤ 6) {n : Nat} (hn : n ≤ 400) : (tks D n).length ≤ 2412 := by
  refine Nat.le_trans (tkTo_len D n _) ?_
  exact Nat.mul_le_mul (show min n D.length ≤ 6 by omega) (show n + 2 ≤ 402 by omega)
/-- Values added without carrying. -/
def xorL (W : List Nat) (x : List Nat) : Nat := x.foldl (fun a n => a ^^^ W[n]!) 0
/-- Values of heaps of 0 to n - 1 things. -/
def grL (D : List Nat) : Nat → List Nat
  | 0 => []
  | n + 1 => grL D n ++ [mexN ((tks D n).map (xorL (grL D n)))]
theorem grL_len (D : List Nat) : ∀ n, (grL D n).length = n
  | 0 => rfl
  | n + 1 => by rw [grL, List.length_append, grL_len D n]; rfl
theorem grL_more (D : List Nat) (n : Nat) : ∀ m, ∃ R, grL D (n + m) = grL D n ++ R
  | 0 => ⟨[], by simp⟩
  | m + 1 => by
    obtain ⟨R, hR⟩ := grL_more D n m
    exact ⟨R ++ _, by rw [← Nat.add_assoc, grL, hR, List.append_assoc]⟩
/-- The value of a heap. -/
def gr (D : List Nat) (n : Nat) : Nat := (grL D (n + 1))[n]!
theorem grL_at (D : List Nat) {n i : Nat} (h : i < n) : (grL D n)[i]! = gr D i := by
  obtain ⟨R, hR⟩ := grL_more D (i + 1) (n - (i + 1))
  unfold gr
  rw [show n = i + 1 + (n - (i + 1)) by omega, hR, getElem!_pos _ i (by rw [List.length_append, grL_len]; omega), getElem!_pos _ i (by rw [grL_len]; omega), List.getElem_append_left]
theorem xorL_congr {W W' : List Nat} : ∀ (x : List Nat) (a : Nat), (∀ y ∈ x, W[y]! = W'[y]!) → x.foldl (fun a n => a ^^^ W[n]!) a = x.foldl (fun a n => a ^^^ W'[n]!) a
  | [], _, _ => rfl
  | y :: x, a, h => by rw [List.foldl_cons, List.foldl_cons, h y (by simp)]; exact xorL_congr x _ (fun z hz => h z (by simp [hz]))
/-- .. of several. -/
def grs (D : List Nat) (x : List Nat) : Nat := x.foldl (fun a n => a ^^^ gr D n) 0
theorem xorL_grL {D : List Nat} {n : Nat} : ∀ (x : List Nat) (a : Nat), (∀ y ∈ x, y < n) → x.foldl (fun a i => a ^^^ (grL D n)[i]!) a = x.foldl (fun a i => a ^^^ gr D i) a
  | [], _, _ => rfl
  | y :: x, a, h => by rw [List.foldl_cons, List.foldl_cons, grL_at D (h y (by simp))]; exact xorL_grL x _ (fun z hz => h z (by simp [hz]))
theorem gr_eq (D : List Nat) (n : Nat) : gr D n = mexN ((tks D n).map (grs D)) := by
  unfold gr
  rw [grL, getElem!_pos _ n (by rw [List.length_append, grL_len]; simp), List.getElem_append_right (by rw [grL_len]; exact Nat.le_refl _)]
  simp only [grL_len, Nat.sub_self, List.getElem_cons_zero]
  congr 1
  refine List.map_congr_left fun x hx => ?_
  exact xorL_grL x 0 (fun y hy => ((tks_lt hx).1 y hy).2)
theorem gr_lt {D : List Nat} (hD : D.length ≤ 6) {n : Nat} (hn : n ≤ 400) : gr D n < 4096 := by
  rw [gr_eq]
  have := mex_le ((tks D n).map (grs D))
  rw [List.length_map] at this
  have := tks_len hD hn
  omega
theorem grs_lt {D : List Nat} (hD : D.length ≤ 6) : ∀ (x : List Nat) (a : Nat), a < 4096 → (∀ y ∈ x, y ≤ 400) → x.foldl (fun a n => a ^^^ gr D n) a < 4096
  | [], a, ha, _ => ha
  | y :: x, a, ha, h => by
    rw [List.foldl_cons]
    exact grs_lt hD x _ (Nat.xor_lt_two_pow (n := 12) ha (gr_lt hD (h y (by simp)))) (fun z hz => h z (by simp [hz]))
theorem foldl_xor (f : Nat → Nat) : ∀ (x : List Nat) (a : Nat), x.foldl (fun a n => a ^^^ f n) a = a ^^^ x.foldl (fun a n => a ^^^ f n) 0
  | [], a => by simp
  | y :: x, a => by
    rw [List.foldl_cons, List.foldl_cons, foldl_xor f x (a ^^^ f y), foldl_xor f x (0 ^^^ f y), Nat.zero_xor, Nat.xor_assoc]
theorem grs_app (D x y : List Nat) : grs D (x ++ y) = grs D x ^^^ grs D y := by
  unfold grs; rw [List.foldl_append, foldl_xor]
theorem grs_cons (D : List Nat) (n : Nat) (x : List Nat) : grs D (n :: x) = gr D n ^^^ grs D x := by
  unfold grs; rw [List.foldl_cons, foldl_xor, Nat.zero_xor]
theorem grs_nil (D : List Nat) : grs D [] = 0 := rfl
end Go.Proofs.Ytphnjedoghopcaa
