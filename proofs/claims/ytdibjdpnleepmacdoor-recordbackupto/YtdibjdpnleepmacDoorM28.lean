/-
  Plain mathematics of records: the reader's functions, by lists.
-/
import Derived.Test.YtdibjdpnleepmacDoorM27
namespace Go.Proofs.YtdibjdpnleepmacDoor
open Go.Lib
theorem size_zero_list {s : ByteArray} : s.size = 0 ↔ s.data.toList = [] := by
  rw [size_eq]; exact List.length_eq_zero_iff
theorem decodeGo_list (s : ByteArray) (h : s.data.toList ≠ []) : decodeGo s = decodeL s.data.toList := by
  unfold decodeGo
  rw [if_neg (fun e => h (size_zero_list.1 e)), ← decodeL_drop s 0, List.drop_zero]
theorem pk_list (s : ByteArray) : pkR s = pkL s.data.toList := by
  unfold pkR pkL
  by_cases h : s.data.toList = []
  · rw [if_pos h]
    unfold decodeGo
    rw [if_pos (size_zero_list.2 h)]; rfl
  · have hw := decodeL_width s.data.toList
    rw [if_neg h, decodeGo_list s h]
    by_cases hok : okD s.data.toList
    · rw [if_pos hok, if_pos]
      unfold okD at hok
      omega
    · rw [if_neg hok]
      unfold okD at hok
      rw [if_neg (by omega), if_neg (by omega)]
theorem on_list (x : Re) : x.on.rest = ofL (onL x.rest.data.toList) := by
  rw [← ofL_of x.on.rest]
  congr 1
  show (x.rest.extract (decodeGo x.rest).2 x.rest.size).data.toList = _
  rw [extract_data, List.take_of_length_le (by rw [List.length_drop, ← size_eq]; omega)]
  unfold onL
  by_cases h : x.rest.data.toList = []
  · rw [h]; simp
  · rw [decodeGo_list _ h]
/-- The reader with its text as a list. -/
def Re.cur (x : Re) : Cur := (x.rest.data.toList, x.at_)
def Re.put (x : Re) (c : Cur) : Re := { x with rest := ofL c.1, at_ := c.2 }
theorem Re.put_cur (x : Re) : x.put x.cur = x := by
  unfold Re.put Re.cur
  rw [ofL_of]
theorem Re.cur_put (x : Re) (c : Cur) : (x.put c).cur = c := by
  unfold Re.put Re.cur
  rw [ofL_list]
theorem Re.put_put (x : Re) (c c' : Cur) : (x.put c).put c' = x.put c' := rfl
theorem Re.on_put (x : Re) : x.on = x.put (onL x.cur.1, x.cur.2 + 1) := by
  have h := on_list x
  unfold Re.put Re.cur
  simp only
  rw [← h]
  rfl
theorem skip_list : ∀ (f : Nat) (x : Re), Re.skip f x = x.put (skipL f x.cur) := by
  intro f
  induction f with
  | zero => intro x; rw [Re.skip, skipL, Re.put_cur]
  | succ f ih =>
    intro x
    rw [Re.skip, skipL]
    by_cases hb : pkL x.cur.1 = 32 ∨ pkL x.cur.1 = 10
    · rw [if_pos hb, if_pos (by unfold blR; rw [pk_list, show x.rest.data.toList = x.cur.1 from rfl]; simpa using hb), ih, x.on_put, Re.cur_put, Re.put_put]
    · rw [if_neg hb, if_neg (by unfold blR; rw [pk_list, show x.rest.data.toList = x.cur.1 from rfl]; simpa using hb), Re.put_cur]
theorem run_list (fits : Int → Bool) (most : Nat) : ∀ (f n : Nat) (x : Re), Re.run fits most f n x = (x.put (runL fits most f n x.cur).1, (runL fits most f n x.cur).2) := by
  intro f
  induction f with
  | zero => intro n x; rw [Re.run, runL, Re.put_cur]
  | succ f ih =>
    intro n x
    rw [Re.run, runL, pk_list, show pkL x.rest.data.toList = pkL x.cur.1 from rfl]
    split
    · split
      · rw [Re.put_cur]
      · rw [ih, x.on_put, Re.cur_put, Re.put_put]
    · rw [Re.put_cur]
theorem cur_len (x : Re) : x.rest.size = x.cur.1.length := size_eq _
theorem take_list (s : ByteArray) (k : Nat) : s.extract 0 k = ofL (s.data.toList.take k) := by
  rw [← ofL_of (s.extract 0 k), extract_data]; simp
theorem skp_list (x : Re) : Re.skip x.rest.size x = x.put (skp x.cur) := by rw [skip_list, cur_len]; rfl
/-- A note's text, by lists. -/
theorem note_list (x : Re) : x.noteF = match noteL x.cur with | .error a => .error a | .ok (c, mv, cm) => .ok (x.put c, ofL mv, ofL cm) := by
  unfold Re.noteF noteL
  simp only
  rw [run_list mvR 20 (x.rest.size + 1) 0 x, cur_len x]
  obtain ⟨Y, hY⟩ : ∃ Y, Y = runL mvR 20 (x.cur.1.length + 1) 0 x.cur := ⟨_, rfl⟩
  rw [← hY]
  simp only
  by_cases hy : Y.2 = false
  · rw [if_pos hy, if_pos hy]; rfl
  · rw [if_neg hy, if_neg hy]
    rw [skp_list (x.put Y.1), Re.cur_put, Re.put_put]
    obtain ⟨Z, hZ⟩ : ∃ Z, Z = skp Y.1 := ⟨_, rfl⟩
    rw [← hZ]
    rw [pk_list (x.put Z).rest, show (x.put Z).rest.data.toList = Z.1 from congrArg Prod.fst (x.cur_put Z)]
    have hmv : x.rest.extract 0 (x.cur.1.length - (x.put Y.1).rest.size) = ofL (x.cur.1.take (x.cur.1.length - Y.1.1.length)) := by
      rw [take_list, cur_len (x.put Y.1), Re.cur_put]; rfl
    by_cases h123 : pkL Z.1 = 123
    · rw [if_pos h123, if_pos h123]
      rw [(x.put Z).on_put, Re.cur_put, Re.put_put]
      obtain ⟨V, hV⟩ : ∃ V : Cur, V = (onL Z.1, Z.2 + 1) := ⟨_, rfl⟩
      rw [← hV, show onL Z.1 = V.1 by rw [hV]]
      rw [run_list cmR 200 _ 0 (x.put V), cur_len (x.put V), Re.cur_put]
      obtain ⟨U, hU⟩ : ∃ U, U = runL cmR 200 (V.1.length + 1) 0 V := ⟨_, rfl⟩
      rw [← hU]
      simp only [Re.put_put]
      by_cases hu : U.2 = false
      · rw [if_pos hu, if_pos hu]; rfl
      · rw [if_neg hu, if_neg hu]
        have hpu : pkR (x.put U.1).rest = pkL U.1.1 := by rw [pk_list (x.put U.1).rest, show (x.put U.1).rest.data.toList = U.1.1 from congrArg Prod.fst (x.cur_put U.1)]
        by_cases h125 : pkL U.1.1 = 125
        · refine Eq.trans (if_pos (hpu.trans h125)) ?_
          rw [if_pos h125, (x.put U.1).on_put, Re.cur_put, Re.put_put, hmv]
          have hcm : (x.put V).rest.extract 0 (V.1.length - (x.put U.1).rest.size) = ofL (V.1.take (V.1.length - U.1.1.length)) := by
            rw [take_list, cur_len (x.put U.1), Re.cur_put, show (x.put V).rest.data.toList = V.1 from congrArg Prod.fst (x.cur_put V)]
          rw [hcm]
        · refine Eq.trans (if_neg (fun e => h125 (hpu.symm.trans e))) ?_
          rw [if_neg h125]; rfl
    · rw [if_neg h123, if_neg h123, hmv]; rfl
end Go.Proofs.YtdibjdpnleepmacDoor
