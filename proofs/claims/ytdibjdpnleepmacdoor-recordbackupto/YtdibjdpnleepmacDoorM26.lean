/-
  Plain mathematics of records: what was laid flat is put together again; what is read is right.
-/
import Derived.Test.YtdibjdpnleepmacDoorM25
namespace Go.Proofs.YtdibjdpnleepmacDoor
open Go.Lib
theorem fm_congr {α β : Type} {f g : α → Option β} : ∀ (l : List α), (∀ x ∈ l, f x = g x) → l.filterMap f = l.filterMap g
  | [], _ => rfl
  | a :: l, h => by
    rw [List.filterMap_cons, List.filterMap_cons, h a (by simp), fm_congr l (fun x hx => h x (by simp [hx]))]
/-- Note i, if it comes of number j. -/
def kidF (E : List En) (N : Int → List Nt) (j : Int) (i : Nat) : Option Nt := match E[i]? with
  | some e => if e.of_ = j then some (.mk e.mv e.cm (N i)) else none
  | none => none
/-- The notes that come of number j. -/
def notesF (E : List En) : Nat → Int → List Nt
  | 0, _ => []
  | f + 1, j => (List.range' (j + 1).toNat (E.length - (j + 1).toNat)).filterMap (kidF E (notesF E f) j)
theorem notes_fuel (E : List En) : ∀ (f f' : Nat) (j : Int), -1 ≤ j → E.length ≤ f + (j + 1).toNat → E.length ≤ f' + (j + 1).toNat → notesF E f j = notesF E f' j := by
  intro f
  induction f with
  | zero =>
    intro f' j hj h h'
    cases f' with
    | zero => rfl
    | succ f' => rw [notesF, notesF, show E.length - (j + 1).toNat = 0 by omega]; rfl
  | succ f ih =>
    intro f' j hj h h'
    cases f' with
    | zero => rw [notesF, notesF, show E.length - (j + 1).toNat = 0 by omega]; rfl
    | succ f' =>
      rw [notesF, notesF]
      refine fm_congr _ fun i hi => ?_
      rw [List.mem_range'_1] at hi
      unfold kidF
      rw [ih f' (i : Int) (by omega) (by omega) (by omega)]
def notesN (E : List En) (j : Int) : List Nt := notesF E E.length j
theorem notesN_eq (E : List En) (j : Int) (_hj : -1 ≤ j) : notesN E j = (List.range' (j + 1).toNat (E.length - (j + 1).toNat)).filterMap (kidF E (notesN E) j) := by
  unfold notesN
  cases hm : E.length with
  | zero => rw [notesF, show 0 - (j + 1).toNat = 0 by omega]; rfl
  | succ m =>
    rw [notesF, hm]
    refine fm_congr _ fun i hi => ?_
    rw [List.mem_range'_1] at hi
    unfold kidF
    rw [notes_fuel E m (m + 1) (i : Int) (by omega) (by omega) (by omega)]
theorem fm_nil (E : List En) (N : Int → List Nt) (j : Int) (a n : Nat) (h : ∀ i e, a ≤ i → i < a + n → E[i]? = some e → e.of_ ≠ j) : (List.range' a n).filterMap (kidF E N j) = [] := by
  rw [List.filterMap_eq_nil_iff]
  intro i hi
  rw [List.mem_range'_1] at hi
  unfold kidF
  cases he : E[i]? with
  | none => rfl
  | some e => simp only; rw [if_neg (h i e hi.1 hi.2 he)]
/-- A piece of the entries. -/
def Seg (E : List En) (k : Nat) (L : List En) : Prop := ∀ i e, L[i]? = some e → E[k + i]? = some e
theorem Seg.head {E : List En} {k : Nat} {e : En} {L : List En} (h : Seg E k (e :: L)) : E[k]? = some e := h 0 e rfl
theorem Seg.tail {E : List En} {k : Nat} {e : En} {L : List En} (h : Seg E k (e :: L)) : Seg E (k + 1) L := fun i e' he => by
  have := h (i + 1) e' (by simpa using he)
  rw [show k + 1 + i = k + (i + 1) by omega]; exact this
theorem Seg.left {E : List En} {k : Nat} {A B : List En} (h : Seg E k (A ++ B)) : Seg E k A := fun i e he => h i e (by
  have hi := (List.getElem?_eq_some_iff.1 he).1
  rw [List.getElem?_append_left hi]; exact he)
theorem Seg.right {E : List En} {k : Nat} {A B : List En} (h : Seg E k (A ++ B)) : Seg E (k + A.length) B := fun i e he => by
  have := h (A.length + i) e (by rw [List.getElem?_append_right (by omega), show A.length + i - A.length = i by omega]; exact he)
  rw [show k + A.length + i = k + (A.length + i) by omega]; exact this
theorem Seg.mem {E : List En} {k i : Nat} {e : En} {L : List En} (h : Seg E k L) (h1 : k ≤ i) (h2 : i < k + L.length) (he : E[i]? = some e) : e ∈ L := by
  have hi : i - k < L.length := by omega
  have := h (i - k) _ (List.getElem?_eq_getElem hi)
  rw [show k + (i - k) = i by omega, he] at this
  cases this
  exact List.getElem_mem hi
theorem flat_of : ∀ F : Fo, (∀ p k e, e ∈ flat p k F → e.of_ = p ∨ (k ≤ e.of_ ∧ e.of_ < k + cnt F)) ∧ (∀ p k e, e ∈ flatO p k F → e.of_ = p ∨ (k ≤ e.of_ ∧ e.of_ < k + cnt F))
  | .nil => ⟨fun p k e h => by rw [flat_nil] at h; simp at h, fun p k e h => by rw [flatO_nil] at h; simp at h⟩
  | .cons mv cm nx r => by
    obtain ⟨a1, -⟩ := flat_of nx
    obtain ⟨-, b2⟩ := flat_of r
    refine ⟨fun p k e h => ?_, fun p k e h => ?_⟩
    · rw [flat_cons, List.mem_cons, List.mem_append] at h
      rw [cnt]
      rcases h with rfl | h | h
      · exact .inl rfl
      · have := b2 _ _ _ h; omega
      · have := a1 _ _ _ h; omega
    · rw [flatO_cons, List.mem_cons, List.mem_append] at h
      rw [cnt]
      rcases h with rfl | h | h
      · exact .inl rfl
      · have := a1 _ _ _ h; omega
      · have := b2 _ _ _ h; omega
/-- Nothing outside comes of what is inside. -/
def Closed (E : List En) (k m : Nat) : Prop := ∀ i e, E[i]? = some e → (i < k ∨ k + m ≤ i) → ¬ ((k : Int) ≤ e.of_ ∧ e.of_ < (k : Int) + (m : Int))
theorem range_cut (a n m : Nat) : List.range' a (n + m) = List.range' a n ++ List.range' (a + n) m := by
  rw [List.range'_append_1]
theorem kid_at {E : List En} {N : Int → List Nt} {j : Int} {k : Nat} {mv cm : ByteArray} (h : E[k]? = some ⟨mv, cm, j⟩) : kidF E N j k = some (.mk mv cm (N k)) := by
  unfold kidF; rw [h]; simp
/-- What was laid flat is put together again. -/
theorem notes_there (E : List En) : ∀ (F : Fo),
    (∀ (p : Int) (k : Nat), -1 ≤ p → p < k → Seg E k (flat p k F) → Closed E k (cnt F) → k + cnt F ≤ E.length → (List.range' k (cnt F)).filterMap (kidF E (notesN E) p) = toL F) ∧
    (∀ (p : Int) (k : Nat), -1 ≤ p → p < k → Seg E k (flatO p k F) → Closed E k (cnt F) → k + cnt F ≤ E.length → (List.range' k (cnt F)).filterMap (kidF E (notesN E) p) = toL F)
  | .nil => ⟨fun _ _ _ _ _ _ _ => rfl, fun _ _ _ _ _ _ _ => rfl⟩
  | .cons mv cm nx r => by
    obtain ⟨a1, -⟩ := notes_there E nx
    obtain ⟨-, b2⟩ := notes_there E r
    obtain ⟨n1, n2⟩ := flat_of nx
    obtain ⟨r1, r2⟩ := flat_of r
    obtain ⟨ln, -⟩ := flat_len nx
    obtain ⟨-, lr⟩ := flat_len r
    refine ⟨fun p k hp1 hp2 hs hc hl => ?_, fun p k hp1 hp2 hs hc hl => ?_⟩
    · rw [flat_cons] at hs
      rw [cnt] at hl hc ⊢
      have h0 := hs.head
      have hR := hs.tail.left
      have hN := hs.tail.right
      rw [lr] at hN
      have ek : ((k : Int) + 1) = ((k + 1 : Nat) : Int) := by omega
      have ekr : ((k : Int) + 1 + (cnt r : Int)) = ((k + 1 + cnt r : Nat) : Int) := by omega
      rw [ek] at hR
      rw [ekr] at hN
      have cR : ∀ i e, k + 1 ≤ i → i < k + 1 + cnt r → E[i]? = some e → e.of_ = p ∨ ((k + 1 : Nat) ≤ e.of_ ∧ e.of_ < ((k + 1 : Nat) : Int) + cnt r) := fun i e h1 h2 he => r2 _ _ _ (hR.mem h1 (by rw [lr]; omega) he)
      have cN : ∀ i e, k + 1 + cnt r ≤ i → i < k + 1 + cnt r + cnt nx → E[i]? = some e → e.of_ = k ∨ (((k + 1 + cnt r : Nat) : Int) ≤ e.of_ ∧ e.of_ < ((k + 1 + cnt r : Nat) : Int) + cnt nx) := fun i e h1 h2 he => n1 _ _ _ (hN.mem h1 (by rw [ln]; omega) he)
      have cl : ∀ i e, E[i]? = some e → i = k → e.of_ = p := by intro i e he hi; rw [hi, h0] at he; cases he; rfl
      have clR : Closed E (k + 1) (cnt r) := by
        intro i e he ho hcon
        by_cases hin : i < k ∨ k + (1 + cnt nx + cnt r) ≤ i
        · exact hc i e he hin (by omega)
        · by_cases hk : i = k
          · have := cl i e he hk; omega
          · have := cN i e (by omega) (by omega) he; omega
      have clN : Closed E (k + 1 + cnt r) (cnt nx) := by
        intro i e he ho hcon
        by_cases hin : i < k ∨ k + (1 + cnt nx + cnt r) ≤ i
        · exact hc i e he hin (by omega)
        · by_cases hk : i = k
          · have := cl i e he hk; omega
          · have := cR i e (by omega) (by omega) he; omega
      have hnx : notesN E (k : Int) = toL nx := by
        rw [notesN_eq E k (by omega), show ((k : Int) + 1).toNat = k + 1 by omega, show E.length - (k + 1) = cnt r + (cnt nx + (E.length - (k + 1 + cnt r + cnt nx))) by omega, range_cut, range_cut, List.filterMap_append, List.filterMap_append]
        rw [fm_nil E _ k (k + 1) (cnt r) (fun i e h1 h2 he => by have := cR i e h1 h2 he; omega), a1 k (k + 1 + cnt r) (by omega) (by omega) hN clN (by omega)]
        rw [fm_nil E _ k (k + 1 + cnt r + cnt nx) _ (fun i e h1 h2 he => by have := hc i e he (by omega); omega), List.nil_append, List.append_nil]
      rw [show 1 + cnt nx + cnt r = 1 + (cnt r + cnt nx) by omega, range_cut, range_cut, List.filterMap_append, List.filterMap_append, b2 p (k + 1) hp1 (by omega) hR clR (by omega)]
      rw [fm_nil E _ p (k + 1 + cnt r) (cnt nx) (fun i e h1 h2 he => by have := cN i e h1 h2 he; omega), List.append_nil]
      rw [show List.range' k 1 = [k] from rfl, toL, ← hnx]
      simp only [List.filterMap_cons, kid_at h0, List.filterMap_nil, List.cons_append, List.nil_append]
    · rw [flatO_cons] at hs
      rw [cnt] at hl hc ⊢
      have h0 := hs.head
      have hN := hs.tail.left
      have hR := hs.tail.right
      rw [ln] at hR
      have ek : ((k : Int) + 1) = ((k + 1 : Nat) : Int) := by omega
      have ekn : ((k : Int) + 1 + (cnt nx : Int)) = ((k + 1 + cnt nx : Nat) : Int) := by omega
      rw [ek] at hN
      rw [ekn] at hR
      have cN : ∀ i e, k + 1 ≤ i → i < k + 1 + cnt nx → E[i]? = some e → e.of_ = k ∨ ((k + 1 : Nat) ≤ e.of_ ∧ e.of_ < ((k + 1 : Nat) : Int) + cnt nx) := fun i e h1 h2 he => n1 _ _ _ (hN.mem h1 (by rw [ln]; omega) he)
      have cR : ∀ i e, k + 1 + cnt nx ≤ i → i < k + 1 + cnt nx + cnt r → E[i]? = some e → e.of_ = p ∨ (((k + 1 + cnt nx : Nat) : Int) ≤ e.of_ ∧ e.of_ < ((k + 1 + cnt nx : Nat) : Int) + cnt r) := fun i e h1 h2 he => r2 _ _ _ (hR.mem h1 (by rw [lr]; omega) he)
      have cl : ∀ i e, E[i]? = some e → i = k → e.of_ = p := by intro i e he hi; rw [hi, h0] at he; cases he; rfl
      have clR : Closed E (k + 1 + cnt nx) (cnt r) := by
        intro i e he ho hcon
        by_cases hin : i < k ∨ k + (1 + cnt nx + cnt r) ≤ i
        · exact hc i e he hin (by omega)
        · by_cases hk : i = k
          · have := cl i e he hk; omega
          · have := cN i e (by omega) (by omega) he; omega
      have clN : Closed E (k + 1) (cnt nx) := by
        intro i e he ho hcon
        by_cases hin : i < k ∨ k + (1 + cnt nx + cnt r) ≤ i
        · exact hc i e he hin (by omega)
        · by_cases hk : i = k
          · have := cl i e he hk; omega
          · have := cR i e (by omega) (by omega) he; omega
      have hnx : notesN E (k : Int) = toL nx := by
        rw [notesN_eq E k (by omega), show ((k : Int) + 1).toNat = k + 1 by omega, show E.length - (k + 1) = cnt nx + (cnt r + (E.length - (k + 1 + cnt nx + cnt r))) by omega, range_cut, range_cut, List.filterMap_append, List.filterMap_append]
        rw [fm_nil E _ k (k + 1 + cnt nx) (cnt r) (fun i e h1 h2 he => by have := cR i e h1 h2 he; omega), a1 k (k + 1) (by omega) (by omega) hN clN (by omega)]
        rw [fm_nil E _ k (k + 1 + cnt nx + cnt r) _ (fun i e h1 h2 he => by have := hc i e he (by omega); omega), List.nil_append, List.append_nil]
      rw [show 1 + cnt nx + cnt r = 1 + (cnt nx + cnt r) by omega, range_cut, range_cut, List.filterMap_append, List.filterMap_append, b2 p (k + 1 + cnt nx) hp1 (by omega) hR clR (by omega)]
      rw [fm_nil E _ p (k + 1) (cnt nx) (fun i e h1 h2 he => by have := cN i e h1 h2 he; omega), List.nil_append]
      rw [show List.range' k 1 = [k] from rfl, toL, ← hnx]
      simp only [List.filterMap_cons, kid_at h0, List.filterMap_nil, List.cons_append, List.nil_append]
theorem flat_notes (F : Fo) : notesN (flat (-1) 0 F) (-1) = toL F := by
  have hl := (flat_len F).1 (-1) 0
  rw [notesN_eq _ _ (by omega), hl]
  have := (notes_there (flat (-1) 0 F) F).1 (-1) 0 (by omega) (by omega) (fun i e he => by rw [Nat.zero_add]; exact he) (fun i e he ho => by
    have hi := (List.getElem?_eq_some_iff.1 he).1
    omega) (by omega)
  exact this

/-! ### what is read is right -/
def sumR (g : Nat → Nat) : Nat → Nat → Nat
  | _, 0 => 0
  | s, n + 1 => g s + sumR g (s + 1) n
theorem sumR_add (g h k : Nat → Nat) (a : Nat) : ∀ (n s : Nat), a ≤ s → (∀ i, a ≤ i → g i = h i + k i) → sumR g s n = sumR h s n + sumR k s n := by
  intro n
  induction n with
  | zero => intro s _ _; rfl
  | succ n ih =>
    intro s hs he
    rw [sumR, sumR, sumR, ih (s + 1) (by omega) he, he s hs]; omega
theorem sumR_congr (g h : Nat → Nat) : ∀ (n s : Nat), (∀ i, s ≤ i → i < s + n → g i = h i) → sumR g s n = sumR h s n := by
  intro n
  induction n with
  | zero => intro s _; rfl
  | succ n ih =>
    intro s he
    rw [sumR, sumR, ih (s + 1) (fun i h1 h2 => he i (by omega) (by omega)), he s (by omega) (by omega)]
/-- Note i and all behind it, if it comes of j. -/
def wt (E : List En) (j : Int) (i : Nat) : Nat := match E[i]? with
  | some e => if e.of_ = j then 1 + cnt (foL (notesN E i)) else 0
  | none => 0
def wl (E : List En) (k : Int) (i : Nat) : Nat := match E[i]? with
  | some e => if e.of_ < k then 1 + cnt (foL (notesN E i)) else 0
  | none => 0
theorem cnt_fm (E : List En) (j : Int) : ∀ (n s : Nat), cnt (foL ((List.range' s n).filterMap (kidF E (notesN E) j))) = sumR (wt E j) s n := by
  intro n
  induction n with
  | zero => intro s; rw [sumR]; simp [foL_nil, cnt]
  | succ n ih =>
    intro s
    rw [sumR, List.range'_succ, ← ih (s + 1)]
    unfold wt
    cases he : E[s]? with
    | none => simp only [List.filterMap_cons, kidF, he]; omega
    | some e =>
      by_cases ho : e.of_ = j
      · simp only [List.filterMap_cons, kidF, he, if_pos ho, foL_cons, cnt]
      · simp only [List.filterMap_cons, kidF, he, if_neg ho]; omega
theorem cnt_notes (E : List En) (hE : ∀ (i : Nat) (e : En), E[i]? = some e → -1 ≤ e.of_ ∧ e.of_ < (i : Int)) : cnt (foL (notesN E (-1))) = E.length := by
  have key : ∀ (m k : Nat), k + m = E.length → sumR (wl E k) k m = m := by
    intro m
    induction m with
    | zero => intro k _; rfl
    | succ m ih =>
      intro k hk
      have h1 := ih (k + 1) (by omega)
      obtain ⟨e, he⟩ : ∃ e, E[k]? = some e := ⟨_, List.getElem?_eq_getElem (by omega)⟩
      have hof := hE k e he
      have hk1 : wl E k k = 1 + cnt (foL (notesN E k)) := by unfold wl; rw [he]; simp only; rw [if_pos hof.2]
      have hck : cnt (foL (notesN E k)) = sumR (wt E k) (k + 1) m := by
        rw [notesN_eq E k (by omega), cnt_fm, show ((k : Int) + 1).toNat = k + 1 by omega, show E.length - (k + 1) = m by omega]
      have hadd : sumR (wl E ((k + 1 : Nat) : Int)) (k + 1) m = sumR (wl E k) (k + 1) m + sumR (wt E k) (k + 1) m := by
        refine sumR_add _ _ _ 0 m (k + 1) (by omega) fun i _ => ?_
        unfold wl wt
        cases hi : E[i]? with
        | none => rfl
        | some e' =>
          simp only
          by_cases c1 : e'.of_ < (k : Int)
          · rw [if_pos c1, if_pos (by omega), if_neg (by omega)]; omega
          · by_cases c2 : e'.of_ = (k : Int)
            · rw [if_neg c1, if_pos c2, if_pos (by omega)]; omega
            · rw [if_neg c1, if_neg c2, if_neg (by omega)]
      rw [sumR, hk1, hck]
      rw [hadd] at h1
      omega
  rw [notesN_eq E (-1) (by omega), cnt_fm]
  have := key E.length 0 (by omega)
  rw [show ((-1 : Int) + 1).toNat = 0 from rfl, Nat.sub_zero]
  rw [sumR_congr (wt E (-1)) (wl E ((0 : Nat) : Int)) E.length 0 (fun i h1 h2 => ?_)]
  · exact this
  · unfold wt wl
    cases hi : E[i]? with
    | none => rfl
    | some e =>
      have := hE i e hi
      simp only
      by_cases c : e.of_ = -1
      · rw [if_pos c, if_pos (by omega)]
      · rw [if_neg c, if_neg (by omega)]
theorem ok_fm (E : List En) (N : Int → List Nt) (j : Int) : ∀ (n s : Nat), (∀ i e, s ≤ i → i < s + n → E[i]? = some e → e.of_ = j → okN e.mv e.cm ∧ OkF (foL (N i))) → OkF (foL ((List.range' s n).filterMap (kidF E N j))) := by
  intro n
  induction n with
  | zero => intro s _; simp [foL_nil, OkF]
  | succ n ih =>
    intro s h
    have ht := ih (s + 1) (fun i e h1 h2 => h i e (by omega) (by omega))
    rw [List.range'_succ, List.filterMap_cons]
    cases he : E[s]? with
    | none => simp only [kidF, he]; exact ht
    | some e =>
      by_cases ho : e.of_ = j
      · obtain ⟨q1, q2⟩ := h s e (by omega) (by omega) he ho
        simp only [kidF, he, if_pos ho, foL_cons, OkF]
        exact ⟨q1, q2, ht⟩
      · simp only [kidF, he, if_neg ho]; exact ht
theorem hg_fm (E : List En) (N : Int → List Nt) (j : Int) (M : Nat) : ∀ (n s : Nat), (∀ i e, s ≤ i → i < s + n → E[i]? = some e → e.of_ = j → 1 + hg (foL (N i)) ≤ M) → hg (foL ((List.range' s n).filterMap (kidF E N j))) ≤ M := by
  intro n
  induction n with
  | zero => intro s _; simp [foL_nil, hg]
  | succ n ih =>
    intro s h
    have ht := ih (s + 1) (fun i e h1 h2 => h i e (by omega) (by omega))
    rw [List.range'_succ, List.filterMap_cons]
    cases he : E[s]? with
    | none => simp only [kidF, he]; exact ht
    | some e =>
      by_cases ho : e.of_ = j
      · have q2 := h s e (by omega) (by omega) he ho
        simp only [kidF, he, if_pos ho, foL_cons, hg]
        exact Nat.max_le.2 ⟨q2, ht⟩
      · simp only [kidF, he, if_neg ho]; exact ht
/-- How deep number j is. -/
def lev (v : List Int) (j : Int) : Int := if j < 0 then 0 else v[j.toNat]?.getD 0
/-- The entries are right. -/
structure EnOk (E : List En) (v : List Int) (d : Int) : Prop where
  len : v.length = E.length
  all : ∀ (i : Nat) (e : En), E[i]? = some e → okN e.mv e.cm ∧ -1 ≤ e.of_ ∧ e.of_ < (i : Int) ∧ lev v i = lev v e.of_ + 1 ∧ lev v i ≤ d
theorem notes_ok (E : List En) (v : List Int) (d : Int) (h : EnOk E v d) : ∀ (m : Nat) (j : Int), -1 ≤ j → (E.length : Int) ≤ m + (j + 1) → OkF (foL (notesN E j)) ∧ ((hg (foL (notesN E j)) : Int) ≤ max 0 (d - lev v j)) := by
  intro m
  induction m with
  | zero =>
    intro j hj hm
    rw [notesN_eq E j hj, show E.length - (j + 1).toNat = 0 by omega]
    simp [foL_nil, OkF, hg]; omega
  | succ m ih =>
    intro j hj hm
    rw [notesN_eq E j hj]
    refine ⟨ok_fm E _ j _ _ fun i e h1 h2 he ho => ⟨(h.all i e he).1, (ih i (by omega) (by omega)).1⟩, ?_⟩
    have := hg_fm E (notesN E) j (max 0 (d - lev v j)).toNat (E.length - (j + 1).toNat) (j + 1).toNat (fun i e h1 h2 he ho => by
      have q := (ih i (by omega) (by omega)).2
      have w := h.all i e he
      rw [ho] at w
      omega)
    omega
/-- A place is right. -/
def PlOk (n : Nat) (v : List Int) (p : Pl) : Prop := (p.main = -1 ∧ p.deep = 0 ∧ p.others = false) ∨ (0 ≤ p.main ∧ p.main < n ∧ lev v p.main = p.deep ∧ -1 ≤ p.of_ ∧ p.of_ < p.main ∧ lev v p.of_ + 1 = p.deep)
structure Inv (s : Ps) : Prop where
  ex : ∃ v, EnOk s.E v s.d ∧ PlOk s.E.length v s.here ∧ ∀ p ∈ s.O, PlOk s.E.length v p
theorem lev_app {v : List Int} {x : Int} {j : Int} (h : j < v.length) : lev (v ++ [x]) j = lev v j := by
  unfold lev
  by_cases hj : j < 0
  · rw [if_pos hj, if_pos hj]
  · rw [if_neg hj, if_neg hj, List.getElem?_append_left (by omega)]
theorem lev_new {v : List Int} {x : Int} : lev (v ++ [x]) (v.length : Int) = x := by
  unfold lev
  rw [if_neg (by omega), show ((v.length : Int)).toNat = v.length by omega]; simp
theorem PlOk.app {n : Nat} {v : List Int} {p : Pl} (h : PlOk n v p) (hl : v.length = n) (x : Int) : PlOk (n + 1) (v ++ [x]) p := by
  rcases h with h | ⟨h1, h2, h3, h4, h5, h6⟩
  · exact .inl h
  · refine .inr ⟨h1, by omega, ?_, h4, h5, ?_⟩
    · rw [lev_app (by omega)]; exact h3
    · rw [lev_app (by omega)]; exact h6
theorem EnOk.app {E : List En} {v : List Int} {d k : Int} (h : EnOk E v d) (e : En) (hok : okN e.mv e.cm) (h1 : -1 ≤ e.of_) (h2 : e.of_ < E.length) (h3 : lev v e.of_ + 1 = k) : EnOk (E ++ [e]) (v ++ [k]) (max d k) := by
  refine ⟨by simp [h.len], fun i e' he => ?_⟩
  by_cases hi : i < E.length
  · rw [List.getElem?_append_left hi] at he
    obtain ⟨q1, q2, q3, q4, q5⟩ := h.all i e' he
    refine ⟨q1, q2, q3, ?_, ?_⟩
    · rw [lev_app (by rw [h.len]; omega), lev_app (by rw [h.len]; omega)]; exact q4
    · rw [lev_app (by rw [h.len]; omega)]; omega
  · rw [List.getElem?_append_right (by omega)] at he
    have hi' : i = E.length := by
      have := (List.getElem?_eq_some_iff.1 he).1
      simp at this; omega
    rw [hi', Nat.sub_self] at he
    simp at he
    subst he
    have hn : lev (v ++ [k]) (i : Int) = k := by rw [hi', ← h.len]; exact lev_new
    refine ⟨hok, h1, by omega, ?_, ?_⟩
    · rw [hn, lev_app (by rw [h.len]; omega), h3]
    · rw [hn]; omega
theorem part_inv (s s' : Ps) (hi : Inv s) (h : partL s = .ok (some s')) : Inv s' := by
  obtain ⟨v, hE, hh, hO⟩ := hi.ex
  unfold partL at h
  simp only at h
  split at h
  · rename_i hp
    split at h
    · cases h
    · rename_i c' mv cm hn
      simp only [Except.ok.injEq, Option.some.injEq] at h
      subst h
      obtain ⟨⟨n, b1, b2, b3⟩, ⟨k, b4, b5⟩, -⟩ := note_back (skp s.c).1 (skp s.c).2 c' mv cm hp hn
      have hok : okN (ofL mv) (ofL cm) := ⟨⟨n, by rw [ofL_list]; exact b1, b2, b3⟩, ⟨k, by rw [ofL_list]; exact b4, b5⟩⟩
      have hmain : -1 ≤ s.here.main ∧ s.here.main < s.E.length ∧ lev v s.here.main = s.here.deep := by
        rcases hh with ⟨e1, e2, e3⟩ | ⟨e1, e2, e3, e4, e5, e6⟩
        · refine ⟨by omega, by omega, ?_⟩
          rw [e1, e2]; rfl
        · exact ⟨by omega, e2, e3⟩
      have hap := hE.app (k := s.here.deep + 1) ⟨ofL mv, ofL cm, s.here.main⟩ hok hmain.1 hmain.2.1 (by simp only; omega)
      refine ⟨v ++ [s.here.deep + 1], hap, ?_, fun p hp => ?_⟩
      · refine .inr ⟨by simp only; omega, by simp; omega, ?_, hmain.1, hmain.2.1, ?_⟩
        · simp only; rw [← hE.len]; exact lev_new
        · simp only; rw [lev_app (by rw [hE.len]; exact hmain.2.1), hmain.2.2]
      · simp only [List.length_append, List.length_cons, List.length_nil]
        exact (hO p hp).app hE.len _
  · split at h
    · rename_i hp
      split at h
      · cases h
      · rename_i hm
        obtain ⟨b, hb⟩ : ∃ b, b = skp (onL (skp s.c).1, (skp s.c).2 + 1) := ⟨_, rfl⟩
        rw [← hb] at h hm
        split at h
        · cases h
        · rename_i c' mv cm hn
          simp only [Except.ok.injEq, Option.some.injEq] at h
          subst h
          obtain ⟨⟨n, b1, b2, b3⟩, ⟨k, b4, b5⟩, -⟩ := note_back b.1 b.2 c' mv cm (by simpa using hm) hn
          have hok : okN (ofL mv) (ofL cm) := ⟨⟨n, by rw [ofL_list]; exact b1, b2, b3⟩, ⟨k, by rw [ofL_list]; exact b4, b5⟩⟩
          obtain ⟨e1, e2, e3, e4, e5, e6⟩ : 0 ≤ s.here.main ∧ s.here.main < s.E.length ∧ lev v s.here.main = s.here.deep ∧ -1 ≤ s.here.of_ ∧ s.here.of_ < s.here.main ∧ lev v s.here.of_ + 1 = s.here.deep := by
            rcases hh with ⟨-, -, e3⟩ | q
            · rw [e3] at hp; cases hp.2
            · exact q
          have hap := hE.app (k := s.here.deep) ⟨ofL mv, ofL cm, s.here.of_⟩ hok e4 (by simp only; omega) e6
          refine ⟨v ++ [s.here.deep], hap, ?_, fun p hp => ?_⟩
          · refine .inr ⟨by simp only; omega, by simp; omega, ?_, e4, by simp only; omega, ?_⟩
            · simp only; rw [← hE.len]; exact lev_new
            · simp only; rw [lev_app (by rw [hE.len]; omega), e6]
          · simp only [List.length_append, List.length_cons, List.length_nil]
            rcases List.mem_append.1 hp with hp | hp
            · exact (hO p hp).app hE.len _
            · simp only [List.mem_singleton] at hp
              subst hp
              exact PlOk.app (.inr ⟨e1, e2, e3, e4, e5, e6⟩) hE.len _
    · split at h
      · rename_i hp
        simp only [Except.ok.injEq, Option.some.injEq] at h
        subst h
        refine ⟨v, hE, ?_, fun p hp => hO p (List.dropLast_subset _ hp)⟩
        rw [List.getLast?_eq_some_getLast hp.2]
        exact hO _ (List.getLast_mem hp.2)
      · split at h <;> simp at h
theorem whole_inv : ∀ (f : Nat) (s : Ps) (E : List En) (d : Int), Inv s → wholeL f s = .ok (E, d) → ∃ v, EnOk E v d := by
  intro f
  induction f with
  | zero => intro s E d _ h; cases h
  | succ f ih =>
    intro s E d hi h
    rw [wholeL] at h
    cases hp : partL s with
    | error a => rw [hp] at h; cases h
    | ok o =>
      cases o with
      | none =>
        rw [hp] at h
        simp only [Except.ok.injEq, Prod.mk.injEq] at h
        obtain ⟨rfl, rfl⟩ := h
        obtain ⟨v, hE, -⟩ := hi.ex
        exact ⟨v, hE⟩
      | some s' =>
        rw [hp] at h
        exact ih s' E d (part_inv s s' hi hp) h
/-- What is read is right, as large as it is told, and no deeper. -/
theorem read_ok (l : List UInt8) (E : List En) (d : Int) (h : whole (.start l) = .ok (E, d)) : OkF (foL (notesN E (-1))) ∧ cnt (foL (notesN E (-1))) = E.length ∧ (hg (foL (notesN E (-1))) : Int) ≤ max 0 d := by
  have hi : Inv (.start l) := ⟨[], ⟨rfl, fun i e he => by simp [Ps.start] at he⟩, .inl ⟨rfl, rfl, rfl⟩, fun p hp => by simp [Ps.start] at hp⟩
  obtain ⟨v, hE⟩ := whole_inv _ _ _ _ hi h
  have h1 := notes_ok E v d hE E.length (-1) (by omega) (by omega)
  refine ⟨h1.1, cnt_notes E (fun i e he => ⟨(hE.all i e he).2.1, (hE.all i e he).2.2.1⟩), ?_⟩
  have := h1.2
  rw [show lev v (-1) = 0 from rfl] at this
  omega
end Go.Proofs.YtdibjdpnleepmacDoor
