/-
  Texts of positions, plain mathematics: what is written is read, what is read to its end is written so.
-/
import Derived.Test.YtfhmpgjemobjhaaGreatDoorJ0
namespace Go.Proofs.YtfhmpgjemobjhaaGreatDoor

/-! ### Texts of positions: what is written, what is read -/

/-- The rows from the top one (of y) down, '/' between two. -/
def wrows (W : Nat) (C : List UInt8) : Nat → List UInt8
  | 0 => []
  | y + 1 => (C.drop (y * W)).take W ++ (if y = 0 then [] else 47 :: wrows W C y)
def whand (A : List UInt8) : List UInt8 := if A = [] then [45] else A
def wtxt (W H : Nat) (C : List UInt8) (T : Int) (A B : List UInt8) : List UInt8 :=
  wrows W C H ++ 32 :: (if T = 0 then 119 else 98) :: 32 :: (whand A ++ 47 :: whand B)

/-- How many cells stand at the head, at most m. -/
def rowN : Nat → List UInt8 → Nat
  | 0, _ => 0
  | _, [] => 0
  | m + 1, x :: l => if cellB x.toNat then rowN m l + 1 else 0

/-- The rows at the head: whether they are right, the rows, how far it went. -/
def rowsF : Nat → Nat → Nat → List UInt8 → Bool × List (List UInt8) × Nat
  | 0, _, _, _ => (true, [], 0)
  | k + 1, least, most, l =>
    if rowN most l < least then (false, [], rowN most l)
    else if k = 0 ∨ (l.drop (rowN most l)).head? ≠ some 47 then (true, [l.take (rowN most l)], rowN most l)
    else ((rowsF k (rowN most l) (rowN most l) (l.drop (rowN most l + 1))).1,
      l.take (rowN most l) :: (rowsF k (rowN most l) (rowN most l) (l.drop (rowN most l + 1))).2.1,
      rowN most l + 1 + (rowsF k (rowN most l) (rowN most l) (l.drop (rowN most l + 1))).2.2)

/-- How many capital letters stand at the head, none below b, none behind a greater one, at most m. -/
def hN : Nat → Int → List UInt8 → Nat
  | 0, _, _ => 0
  | _, _, [] => 0
  | m + 1, b, x :: l => if capB x.toNat && decide (b ≤ x.toNat) then hN m x.toNat l + 1 else 0

theorem rowN_le (m : Nat) (l : List UInt8) : rowN m l ≤ m ∧ rowN m l ≤ l.length := by
  induction m generalizing l with
  | zero => simp [rowN]
  | succ m ih =>
    cases l with
    | nil => simp [rowN]
    | cons x l =>
      simp only [rowN]
      split
      · have := ih l; simp; omega
      · simp

theorem rowN_cells (m : Nat) (l : List UInt8) : cellsB (l.take (rowN m l)) = true := by
  induction m generalizing l with
  | zero => simp [rowN, cellsB]
  | succ m ih =>
    cases l with
    | nil => simp [rowN, cellsB]
    | cons x l =>
      simp only [rowN]
      split
      · rename_i h
        have := ih l
        simp only [cellsB] at this ⊢
        simp [h, this]
      · simp [cellsB]

/-- A row and what is no cell behind it. -/
theorem rowN_app (r : List UInt8) (m : Nat) (c : UInt8) (t : List UInt8) (hr : cellsB r = true) (hm : r.length ≤ m) (hc : cellB c.toNat = false) : rowN m (r ++ c :: t) = r.length := by
  induction r generalizing m with
  | nil => cases m <;> simp [rowN, hc]
  | cons x r ih =>
    simp only [cellsB, List.all_cons, Bool.and_eq_true] at hr
    cases m with
    | zero => simp at hm
    | succ m =>
      simp only [List.cons_append, rowN, hr.1, if_true, List.length_cons]
      rw [ih m (by simpa [cellsB] using hr.2) (by simpa using hm)]

/-- The rows from the top one (of y) down. -/
def trows (W : Nat) (C : List UInt8) : Nat → List (List UInt8)
  | 0 => []
  | y + 1 => (C.drop (y * W)).take W :: trows W C y

theorem cellsB_sub (C : List UInt8) (a b : Nat) (h : cellsB C = true) : cellsB ((C.drop a).take b) = true := by
  simp only [cellsB, List.all_eq_true] at h ⊢
  intro x hx
  exact h x (List.mem_of_mem_drop (List.mem_of_mem_take hx))

theorem trows_len (W : Nat) (C : List UInt8) (n : Nat) : (trows W C n).length = n := by
  induction n with
  | zero => rfl
  | succ n ih => simp [trows, ih]

/-- From the bottom one up they are the cells. -/
theorem trows_back (W : Nat) (C : List UInt8) (n : Nat) : (trows W C n).reverse.flatten = C.take (n * W) := by
  induction n with
  | zero => simp [trows]
  | succ n ih =>
    simp only [trows, List.reverse_cons, List.flatten_append, ih, List.flatten_cons, List.flatten_nil, List.append_nil]
    rw [Nat.add_mul, Nat.one_mul, List.take_add]

theorem wrows_len_pos (W : Nat) (C : List UInt8) (n : Nat) : wrows W C (n + 1) = (C.drop (n * W)).take W ++ (if n = 0 then [] else 47 :: wrows W C n) := rfl

/-- What is written is read: the rows. -/
theorem rowsF_w (W : Nat) (C : List UInt8) (t : List UInt8) (hW : 1 ≤ W) (hC : cellsB C = true) : ∀ (y k least most : Nat), y + 1 ≤ k → least ≤ W → W ≤ most → (y + 1) * W ≤ C.length →
    rowsF k least most (wrows W C (y + 1) ++ 32 :: t) = (true, trows W C (y + 1), (wrows W C (y + 1)).length) := by
  intro y
  induction y with
  | zero =>
    intro k least most hk hl hm hlen
    obtain ⟨k, rfl⟩ : ∃ j, k = j + 1 := ⟨k - 1, by omega⟩
    have hrl : ((C.drop (0 * W)).take W).length = W := by simp; omega
    have hn : rowN most (wrows W C (0 + 1) ++ 32 :: t) = W := by
      rw [wrows_len_pos, if_pos rfl, List.append_nil, rowN_app _ _ _ _ (cellsB_sub C _ _ hC) (by rw [hrl]; exact hm) (by decide), hrl]
    have hw : wrows W C (0 + 1) = (C.drop (0 * W)).take W := by rw [wrows_len_pos, if_pos rfl, List.append_nil]
    rw [rowsF, hn, if_neg (by omega), if_pos]
    · rw [hw, List.take_append_of_le_length (by rw [hrl]; exact Nat.le_refl _), List.take_of_length_le (by rw [hrl]; exact Nat.le_refl _), hrl]; rfl
    · right
      rw [hw, List.drop_append_of_le_length (by rw [hrl]; exact Nat.le_refl _), List.drop_of_length_le (by rw [hrl]; exact Nat.le_refl _)]
      simp
  | succ y ih =>
    intro k least most hk hl hm hlen
    obtain ⟨k, rfl⟩ : ∃ j, k = j + 1 := ⟨k - 1, by omega⟩
    have hlen' : (y + 1) * W + W ≤ C.length := by rw [← Nat.succ_mul]; exact hlen
    have hrl : ((C.drop ((y + 1) * W)).take W).length = W := by simp; omega
    have hw : wrows W C (y + 1 + 1) = (C.drop ((y + 1) * W)).take W ++ 47 :: wrows W C (y + 1) := by rw [wrows_len_pos, if_neg (by omega)]
    have hn : rowN most (wrows W C (y + 1 + 1) ++ 32 :: t) = W := by
      rw [hw, List.append_assoc, List.cons_append, rowN_app _ _ _ _ (cellsB_sub C _ _ hC) (by rw [hrl]; exact hm) (by decide), hrl]
    have hd : (wrows W C (y + 1 + 1) ++ 32 :: t).drop W = 47 :: (wrows W C (y + 1) ++ 32 :: t) := by
      rw [hw, List.append_assoc, List.drop_append_of_le_length (by rw [hrl]; exact Nat.le_refl _), List.drop_of_length_le (by rw [hrl]; exact Nat.le_refl _)]
      simp
    have hd1 : (wrows W C (y + 1 + 1) ++ 32 :: t).drop (W + 1) = wrows W C (y + 1) ++ 32 :: t := by
      rw [← List.drop_drop, hd]; rfl
    have hi := ih k W W (by omega) (Nat.le_refl _) (Nat.le_refl _) (by omega)
    rw [rowsF, hn, if_neg (by omega), if_neg (by rw [hd]; simp; omega), hd1, hi]
    simp only [Prod.mk.injEq, true_and]
    constructor
    · rw [hw, List.append_assoc, List.take_append_of_le_length (by rw [hrl]; exact Nat.le_refl _), List.take_of_length_le (by rw [hrl]; exact Nat.le_refl _)]; rfl
    · rw [hw, List.length_append, hrl, List.length_cons]; omega

/-- Rows joined by '/'. -/
def joinR : List (List UInt8) → List UInt8
  | [] => []
  | [r] => r
  | r :: rs => r ++ 47 :: joinR rs

/-- What is read as rows. -/
theorem rowsF_s : ∀ (k least most : Nat) (l : List UInt8), (rowsF (k + 1) least most l).1 = true →
    (rowsF (k + 1) least most l).2.1 ≠ [] ∧ (rowsF (k + 1) least most l).2.1.length ≤ k + 1 ∧ (rowsF (k + 1) least most l).2.2 ≤ l.length ∧
    l.take (rowsF (k + 1) least most l).2.2 = joinR (rowsF (k + 1) least most l).2.1 ∧
    (∃ W, least ≤ W ∧ W ≤ most ∧ ∀ r ∈ (rowsF (k + 1) least most l).2.1, r.length = W ∧ cellsB r = true) := by
  intro k
  induction k with
  | zero =>
    intro least most l h
    have hle := rowN_le most l
    have hc := rowN_cells most l
    rw [rowsF] at h ⊢
    split at h
    · simp at h
    · rename_i h1
      rw [if_neg h1, if_pos (Or.inl rfl)]
      refine ⟨by simp, by simp, hle.2, rfl, rowN most l, by omega, hle.1, ?_⟩
      intro r hr
      simp only [List.mem_singleton] at hr
      subst hr
      exact ⟨by simp; omega, hc⟩
  | succ k ih =>
    intro least most l h
    have hle := rowN_le most l
    have hc := rowN_cells most l
    rw [rowsF] at h ⊢
    split at h
    · simp at h
    · rename_i h1
      rw [if_neg h1]
      split at h
      · rename_i h2
        rw [if_pos h2]
        refine ⟨by simp, by simp, hle.2, rfl, rowN most l, by omega, hle.1, ?_⟩
        intro r hr
        simp only [List.mem_singleton] at hr
        subst hr
        exact ⟨by simp; omega, hc⟩
      · rename_i h2
        rw [if_neg h2]
        have hh : (l.drop (rowN most l)).head? = some 47 := Classical.byContradiction fun hx => h2 (Or.inr hx)
        obtain ⟨t, ht⟩ : ∃ t, l.drop (rowN most l) = 47 :: t := by
          cases hd : l.drop (rowN most l) with
          | nil => rw [hd] at hh; simp at hh
          | cons a t => rw [hd] at hh; simp at hh; exact ⟨t, by rw [hh]⟩
        have ht1 : l.drop (rowN most l + 1) = t := by rw [← List.drop_drop, ht]; rfl
        have hi := ih (rowN most l) (rowN most l) (l.drop (rowN most l + 1)) h
        obtain ⟨i1, i2, i3, i4, V, i5, i6, i7⟩ := hi
        rw [ht1] at i1 i2 i3 i4 i7 ⊢
        have hlt : l.length = rowN most l + 1 + t.length := by
          have := congrArg List.length ht; simp at this; omega
        refine ⟨by simp, by simp; omega, by simp; omega, ?_, rowN most l, by omega, hle.1, ?_⟩
        · have h3 : l = l.take (rowN most l) ++ 47 :: t := by rw [← ht, List.take_append_drop]
          have h4 : (l.take (rowN most l)).length = rowN most l := by simp; omega
          generalize hR : (rowsF (k + 1) (rowN most l) (rowN most l) t).2.1 = R at i1 i2 i4 i7 ⊢
          generalize (rowsF (k + 1) (rowN most l) (rowN most l) t).2.2 = n at i3 i4 ⊢
          cases R with
          | nil => exact absurd rfl i1
          | cons a b =>
            show l.take (rowN most l + 1 + n) = l.take (rowN most l) ++ 47 :: joinR (a :: b)
            rw [← i4, Nat.add_assoc, List.take_add, ht, Nat.add_comm 1 n]; rfl
        · intro r hr
          simp only [List.mem_cons] at hr
          rcases hr with rfl | hr
          · exact ⟨by simp; omega, hc⟩
          · have := i7 r hr
            exact ⟨by omega, this.2⟩

/-- Rows of one length joined are what is written of their cells. -/
theorem flat_len (W : Nat) : ∀ (R : List (List UInt8)), (∀ r ∈ R, r.length = W) → R.flatten.length = R.length * W
  | [], _ => by simp
  | a :: R, h => by
    have h1 := h a (by simp)
    have h2 := flat_len W R (fun r hr => h r (by simp [hr]))
    simp only [List.flatten_cons, List.length_append, List.length_cons, h1, h2, Nat.add_mul, Nat.one_mul]; omega

theorem wrows_pre (W : Nat) (C D : List UInt8) : ∀ n, n * W ≤ C.length → wrows W (C ++ D) n = wrows W C n
  | 0, _ => rfl
  | n + 1, h => by
    have h' : n * W + W ≤ C.length := by rw [← Nat.succ_mul]; exact h
    rw [wrows_len_pos, wrows_len_pos, wrows_pre W C D n (by omega), List.drop_append_of_le_length (by omega), List.take_append_of_le_length (by simp; omega)]

theorem join_w (W : Nat) : ∀ (R : List (List UInt8)), (∀ r ∈ R, r.length = W) → joinR R = wrows W R.reverse.flatten R.length
  | [], _ => rfl
  | [r], h => by
    have h1 := h r (by simp)
    simp [joinR, wrows, ← h1]
  | r :: a :: b, h => by
    have h1 := h r (by simp)
    have h2 := join_w W (a :: b) (fun x hx => h x (by simp [hx]))
    have hl : (a :: b).reverse.flatten.length = (a :: b).length * W := by
      rw [flat_len W _ (fun x hx => h x (by simp only [List.mem_reverse] at hx; simp [hx])), List.length_reverse]
    rw [List.reverse_cons, List.flatten_append, List.length_cons, wrows_len_pos, if_neg (by simp), wrows_pre _ _ _ _ (by rw [hl]; exact Nat.le_refl _), ← h2]
    rw [List.drop_append_of_le_length (by rw [hl]; exact Nat.le_refl _), List.drop_of_length_le (by rw [hl]; exact Nat.le_refl _)]
    simp [joinR, ← h1]

/-! ### Hands, and the whole -/

theorem hN_le (m : Nat) (b : Int) (l : List UInt8) : hN m b l ≤ m ∧ hN m b l ≤ l.length := by
  induction m generalizing b l with
  | zero => simp [hN]
  | succ m ih =>
    cases l with
    | nil => simp [hN]
    | cons x l =>
      simp only [hN]
      split
      · have := ih x.toNat l; simp; omega
      · simp

theorem hN_caps (m : Nat) (b : Int) (l : List UInt8) : capsB b (l.take (hN m b l)) = true := by
  induction m generalizing b l with
  | zero => simp [hN, capsB]
  | succ m ih =>
    cases l with
    | nil => simp [hN, capsB]
    | cons x l =>
      simp only [hN]
      split
      · rename_i h
        simp only [Bool.and_eq_true] at h
        simp only [List.take_succ_cons, capsB, h, Bool.true_and]
        exact ih _ _
      · simp [capsB]

/-- A hand and what ends it: nothing, or a byte that is no capital letter. -/
theorem hN_app (r : List UInt8) (m : Nat) (b : Int) (t : List UInt8) (hr : capsB b r = true) (hm : r.length ≤ m) (ht : ∀ c ∈ t.head?, capB c.toNat = false) : hN m b (r ++ t) = r.length := by
  induction r generalizing m b with
  | nil =>
    cases m with
    | zero => simp [hN]
    | succ m =>
      cases t with
      | nil => simp [hN]
      | cons c t => simp [hN, ht c (by simp)]
  | cons x r ih =>
    simp only [capsB, Bool.and_eq_true] at hr
    cases m with
    | zero => simp at hm
    | succ m =>
      simp only [List.cons_append, hN, hr.1.1, hr.1.2, Bool.and_self, if_true, List.length_cons]
      rw [ih m x.toNat hr.2 (by simpa using hm)]

/-- A hand at the head: whether it is right, which, how far it went. -/
def handF (l : List UInt8) : Bool × List UInt8 × Nat :=
  if l.head? = some 45 then (true, [], 1) else (decide (0 < hN 8 65 l), l.take (hN 8 65 l), hN 8 65 l)

theorem handF_w (A t : List UInt8) (hA : handB A = true) (ht : ∀ c ∈ t.head?, capB c.toNat = false) : handF (whand A ++ t) = (true, A, (whand A).length) := by
  simp only [handB, Bool.and_eq_true, decide_eq_true_eq] at hA
  cases A with
  | nil => simp [whand, handF]
  | cons x r =>
    have hx : x ≠ 45 := by
      intro e
      have h := hA.2
      rw [e] at h
      simp [capsB, capB] at h
    have h1 : whand (x :: r) = x :: r := by simp [whand]
    have h2 : hN 8 65 (x :: r ++ t) = (x :: r).length := hN_app _ _ _ _ hA.2 hA.1 ht
    rw [h1, handF, if_neg (by simp [hx]), h2]
    simp

theorem handF_s (l : List UInt8) (h : (handF l).1 = true) : handB (handF l).2.1 = true ∧ (handF l).2.2 ≤ l.length ∧ l.take (handF l).2.2 = whand (handF l).2.1 := by
  unfold handF at h ⊢
  split
  · rename_i hh
    cases l with
    | nil => simp at hh
    | cons a t => simp at hh; simp [handB, capsB, whand, hh]
  · rename_i hh
    rw [if_neg hh] at h
    simp only [decide_eq_true_eq] at h
    have h1 := hN_le 8 65 l
    have h2 := hN_caps 8 65 l
    refine ⟨?_, h1.2, ?_⟩
    · simp only [handB, Bool.and_eq_true, decide_eq_true_eq]
      exact ⟨by simp; omega, h2⟩
    · rw [whand, if_neg]
      intro e
      have := congrArg List.length e
      rw [List.length_take, List.length_nil] at this
      omega

/-- Whether the byte c stands at n. -/
def atB (s : List UInt8) (n : Nat) (c : UInt8) : Bool := decide (s[n]? = some c)

/-- A position's six parts. -/
abbrev Six := Nat × Nat × List UInt8 × Int × List UInt8 × List UInt8

/-- Where the rows, the turn, the hands end. -/
def rowsEnd (s : List UInt8) : Nat := (rowsF 8 1 8 s).2.2
def turnF (s : List UInt8) (n : Nat) : Bool × Int × Nat := if atB s n 119 then (true, 0, n + 1) else if atB s n 98 then (true, 1, n + 1) else (false, 1, n)
/-- The reading of a text from its head on: the position, or none; where it stands then. -/
def posF (s : List UInt8) : Option Six × Nat :=
  if (rowsF 8 1 8 s).1 = false then (none, rowsEnd s)
  else if atB s (rowsEnd s) 32 = false then (none, rowsEnd s)
  else if (turnF s (rowsEnd s + 1)).1 = false then (none, rowsEnd s + 1)
  else if atB s (rowsEnd s + 2) 32 = false then (none, rowsEnd s + 2)
  else if (handF (s.drop (rowsEnd s + 3))).1 = false then (none, rowsEnd s + 3 + (handF (s.drop (rowsEnd s + 3))).2.2)
  else if atB s (rowsEnd s + 3 + (handF (s.drop (rowsEnd s + 3))).2.2) 47 = false then (none, rowsEnd s + 3 + (handF (s.drop (rowsEnd s + 3))).2.2)
  else if (handF (s.drop (rowsEnd s + 3 + (handF (s.drop (rowsEnd s + 3))).2.2 + 1))).1 = false then (none, rowsEnd s + 3 + (handF (s.drop (rowsEnd s + 3))).2.2 + 1 + (handF (s.drop (rowsEnd s + 3 + (handF (s.drop (rowsEnd s + 3))).2.2 + 1))).2.2)
  else (some (((rowsF 8 1 8 s).2.1.headD []).length, (rowsF 8 1 8 s).2.1.length, (rowsF 8 1 8 s).2.1.reverse.flatten, (turnF s (rowsEnd s + 1)).2.1, (handF (s.drop (rowsEnd s + 3))).2.1, (handF (s.drop (rowsEnd s + 3 + (handF (s.drop (rowsEnd s + 3))).2.2 + 1))).2.1),
    rowsEnd s + 3 + (handF (s.drop (rowsEnd s + 3))).2.2 + 1 + (handF (s.drop (rowsEnd s + 3 + (handF (s.drop (rowsEnd s + 3))).2.2 + 1))).2.2)

theorem atB_app (a t : List UInt8) (c : UInt8) (n : Nat) (h : n = a.length) : atB (a ++ c :: t) n c = true := by subst h; simp [atB]

/-- WHAT IS WRITTEN IS READ. -/
theorem read_written (W H : Nat) (C : List UInt8) (T : Int) (A B : List UInt8) (h : posB W H C T A B = true) :
    posF (wtxt W H C T A B) = (some (W, H, C, T, A, B), (wtxt W H C T A B).length) := by
  simp only [posB, sideB, Bool.and_eq_true, Bool.or_eq_true, decide_eq_true_eq] at h
  obtain ⟨⟨⟨⟨⟨⟨hW0, hW1⟩, hH0, hH1⟩, hlen, hcs⟩, hT⟩, hA⟩, hB⟩ := h
  have hl : C.length = H * W := by
    have : ((W * H : Nat) : Int) = (W : Int) * H := by simp
    rw [Nat.mul_comm]; omega
  obtain ⟨y, rfl⟩ : ∃ y, H = y + 1 := ⟨H - 1, by omega⟩
  have hr := rowsF_w W C ((if T = 0 then 119 else 98) :: 32 :: (whand A ++ 47 :: whand B)) (by omega) hcs y 8 1 8 (by omega) (by omega) (by omega) (by omega)
  have hS : wtxt W (y + 1) C T A B = wrows W C (y + 1) ++ 32 :: (if T = 0 then 119 else 98) :: 32 :: (whand A ++ 47 :: whand B) := rfl
  rw [← hS] at hr
  generalize hs : wtxt W (y + 1) C T A B = s at hr hS ⊢
  clear hs
  generalize hR : wrows W C (y + 1) = R at hr hS
  clear hR
  have e0 : rowsEnd s = R.length := by rw [rowsEnd, hr]
  have b0 : atB s R.length 32 = true := by rw [hS]; exact atB_app _ _ _ _ rfl
  have t0 : turnF s (R.length + 1) = (true, T, R.length + 2) := by
    have : s[R.length + 1]? = some (if T = 0 then 119 else 98) := by rw [hS]; simp
    rcases hT with hT | hT
    · subst hT; simp [turnF, atB, this]
    · subst hT; simp [turnF, atB, this]
  have b1 : atB s (R.length + 2) 32 = true := by rw [hS]; simp [atB]
  have d1 : s.drop (R.length + 3) = whand A ++ 47 :: whand B := by
    rw [hS, ← List.drop_drop]; simp
  have h1 : handF (s.drop (R.length + 3)) = (true, A, (whand A).length) := by
    rw [d1]; exact handF_w _ _ hA (by simp [capB])
  have b2 : atB s (R.length + 3 + (whand A).length) 47 = true := by
    have : s = (R ++ 32 :: (if T = 0 then 119 else 98) :: 32 :: whand A) ++ 47 :: whand B := by rw [hS]; simp
    rw [this]; exact atB_app _ _ _ _ (by simp; omega)
  have d2 : s.drop (R.length + 3 + (whand A).length + 1) = whand B ++ [] := by
    have : s = (R ++ 32 :: (if T = 0 then 119 else 98) :: 32 :: (whand A ++ [47])) ++ whand B := by rw [hS]; simp
    rw [this, List.append_nil]; exact List.drop_left' (by simp; omega)
  have h2 : handF (s.drop (R.length + 3 + (whand A).length + 1)) = (true, B, (whand B).length) := by
    rw [d2]; exact handF_w _ _ hB (by simp)
  have hsl : s.length = R.length + 3 + (whand A).length + 1 + (whand B).length := by rw [hS]; simp; omega
  have hbk : (trows W C (y + 1)).reverse.flatten = C := by rw [trows_back, List.take_of_length_le (by omega)]
  have hhd : ((trows W C (y + 1)).headD []).length = W := by
    have hl' : C.length = y * W + W := by rw [hl, Nat.add_mul, Nat.one_mul]
    simp [trows]; omega
  unfold posF
  simp only [e0, hr, b0, t0, b1, h1, b2, h2, hbk, hhd, trows_len, hsl]
  simp

/-- WHAT IS READ, TO ITS END, IS WRITTEN SO. -/
theorem written_read (s : List UInt8) (W H : Nat) (C : List UInt8) (T : Int) (A B : List UInt8) (h : posF s = (some (W, H, C, T, A, B), s.length)) :
    posB W H C T A B = true ∧ wtxt W H C T A B = s := by
  unfold posF at h
  split at h; · simp at h
  rename_i g0
  split at h; · simp at h
  rename_i g1
  split at h; · simp at h
  rename_i g2
  split at h; · simp at h
  rename_i g3
  split at h; · simp at h
  rename_i g4
  split at h; · simp at h
  rename_i g5
  split at h; · simp at h
  rename_i g6
  simp only [Bool.not_eq_false] at g0 g1 g2 g3 g4 g5 g6
  obtain ⟨r1, r2, r3, r4, V, r5, r6, r7⟩ := rowsF_s 7 1 8 s g0
  obtain ⟨a1, a2, a3⟩ := handF_s _ g4
  obtain ⟨c1, c2, c3⟩ := handF_s _ g6
  simp only [rowsEnd] at *
  generalize hR : (rowsF 8 1 8 s).2.1 = R at *
  generalize (rowsF 8 1 8 s).2.2 = n at *
  generalize hA' : (handF (s.drop (n + 3))).2.1 = A' at *
  generalize (handF (s.drop (n + 3))).2.2 = a at *
  generalize hB' : (handF (s.drop (n + 3 + a + 1))).2.1 = B' at *
  generalize (handF (s.drop (n + 3 + a + 1))).2.2 = b at *
  simp only [Prod.mk.injEq, Option.some.injEq] at h
  obtain ⟨⟨rfl, rfl, rfl, hT, rfl, rfl⟩, hlen⟩ := h
  have hV : (R.headD []).length = V := by
    cases R with
    | nil => exact absurd rfl r1
    | cons x R => exact (r7 x (by simp)).1
  have hfl : R.reverse.flatten.length = R.length * V := by
    rw [flat_len V _ (fun x hx => (r7 x (by simpa using hx)).1), List.length_reverse]
  have hR0 : 1 ≤ R.length := by cases R with
    | nil => exact absurd rfl r1
    | cons x R => simp
  have hcs : cellsB R.reverse.flatten = true := by
    simp only [cellsB, List.all_eq_true, List.mem_flatten, List.mem_reverse]
    rintro x ⟨l, hl, hx⟩
    have := (r7 l hl).2
    simp only [cellsB, List.all_eq_true] at this
    exact this x hx
  have ht : (turnF s (n + 1)).2.1 = T ∧ (T = 0 ∨ T = 1) ∧ s[n + 1]? = some (if T = 0 then 119 else 98) := by
    refine ⟨hT, ?_⟩
    unfold turnF at hT g2
    split at hT
    · rename_i h1; simp [atB] at h1; simp at hT; subst hT; simp [h1]
    · rename_i h1
      rw [if_neg h1] at g2
      split at hT
      · rename_i h2; simp [atB] at h2; simp at hT; subst hT; simp [h2]
      · rename_i h2; rw [if_neg h2] at g2; simp at g2
  obtain ⟨_, hT01, hTc⟩ := ht
  constructor
  · simp only [posB, sideB, hcs, a1, c1, hV, hfl, Bool.and_eq_true, Bool.or_eq_true, decide_eq_true_eq, and_true]
    refine ⟨⟨⟨⟨by omega, by omega⟩, by omega, by omega⟩, ?_⟩, hT01⟩
    rw [Int.natCast_mul, Int.mul_comm]
  · have hw : wrows V R.reverse.flatten R.length = s.take n := by rw [r4, join_w V R (fun x hx => (r7 x hx).1)]
    simp only [atB, decide_eq_true_eq] at g1 g3 g5
    have k1 : s.drop n = 32 :: s.drop (n + 1) := by
      obtain ⟨hlt, he⟩ := List.getElem?_eq_some_iff.1 g1
      rw [List.drop_eq_getElem_cons hlt, he]
    have k2 : s.drop (n + 1) = (if T = 0 then 119 else 98) :: s.drop (n + 2) := by
      obtain ⟨hlt, he⟩ := List.getElem?_eq_some_iff.1 hTc
      rw [List.drop_eq_getElem_cons hlt, he]
    have k3 : s.drop (n + 2) = 32 :: s.drop (n + 3) := by
      obtain ⟨hlt, he⟩ := List.getElem?_eq_some_iff.1 g3
      rw [List.drop_eq_getElem_cons hlt, he]
    have k4 : s.drop (n + 3) = whand A' ++ s.drop (n + 3 + a) := by
      rw [← a3, ← List.drop_drop (l := s) (i := a) (j := n + 3), List.take_append_drop]
    have k5 : s.drop (n + 3 + a) = 47 :: s.drop (n + 3 + a + 1) := by
      obtain ⟨hlt, he⟩ := List.getElem?_eq_some_iff.1 g5
      rw [List.drop_eq_getElem_cons hlt, he]
    have k6 : s.drop (n + 3 + a + 1) = whand B' := by
      rw [← c3, List.take_of_length_le (by simp; omega)]
    unfold wtxt
    rw [hV, hw, ← k6, ← k5, ← k4, ← k3, ← k2, ← k1, List.take_append_drop]
end Go.Proofs.YtfhmpgjemobjhaaGreatDoor
