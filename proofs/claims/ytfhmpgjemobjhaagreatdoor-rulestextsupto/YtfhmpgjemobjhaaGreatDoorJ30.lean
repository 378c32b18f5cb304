/-
  gameref.Parsed, walked as far as the text is looked through: where it goes wrong.
  gameref.Text, walked at a position: the same text as board.Write's.
-/
import Derived.Test.YtfhmpgjemobjhaaGreatDoorW62
import Derived.Test.YtfhmpgjemobjhaaGreatDoorJ24
import Derived.Test.YtfhmpgjemobjhaaGreatDoorJ9
import Derived.Test.YtfhmpgjemobjhaaGreatDoorW51
import Derived.Lib.Strings
namespace Go.Proofs.YtfhmpgjemobjhaaGreatDoor
open Go.RowKit
attribute [local go_sem ↓] Go.wp_at_zero Go.wp_at_succ

theorem joinS_len (W : Nat) : ∀ R : List (List UInt8), (∀ r ∈ R, r.length = W) → (joinS R).length = R.length * (W + 1)
  | [], _ => by simp [joinS]
  | a :: R, h => by
    have h1 := h a (by simp)
    have h2 := joinS_len W R (fun r hr => h r (by simp [hr]))
    have e : joinS (a :: R) = a ++ 47 :: joinS R := by simp [joinS]
    rw [e, List.length_append, List.length_cons, h1, h2, List.length_cons, Nat.succ_mul]
    omega
theorem RowsGood.joinLen {R : List (List UInt8)} (g : RowsGood R) : (joinR R).length ≤ 72 := by
  obtain ⟨W, w1, w8, hw⟩ := g.one
  obtain ⟨D, r, rfl⟩ : ∃ D r, R = D ++ [r] := ⟨R.dropLast, R.getLast g.ne, (List.dropLast_concat_getLast g.ne).symm⟩
  have hl := g.len
  have h1 := joinS_len W D (fun x hx => (hw x (by simp [hx])).1)
  have h2 := (hw r (by simp)).1
  simp only [List.length_append, List.length_cons, List.length_nil] at hl
  have h3 : D.length * (W + 1) ≤ 7 * 9 := Nat.mul_le_mul (by omega) (by omega)
  rw [joinR_snoc, List.length_append]
  omega
theorem handOk_len {h : List UInt8} (k : handOk h = true) : h.length ≤ 8 := by
  simp only [handOk, Bool.or_eq_true, decide_eq_true_eq, handB, Bool.and_eq_true] at k
  rcases k with rfl | k
  · simp
  · exact k.1
theorem Good.len {st : St} (g : Good st) : (txt st).length ≤ 100 := by
  cases st with
  | rows done cur =>
    obtain ⟨h7, hc, hd⟩ := g
    rcases hd with ⟨rfl, h8⟩ | ⟨hr, hle⟩
    · simp [txt, joinS]; omega
    · obtain ⟨W, w1, w8, hw⟩ := hr.one
      have h1 := joinS_len W done (fun x hx => (hw x hx).1)
      have h3 : done.length * (W + 1) ≤ 7 * 9 := Nat.mul_le_mul (by omega) (by omega)
      have h4 := rows_head hr.ne hw
      simp only [txt, List.length_append]
      omega
  | sp R => have := RowsGood.joinLen g; simp only [txt, List.length_append, List.length_cons, List.length_nil]; omega
  | turn R c => have := RowsGood.joinLen g.1; simp only [txt, List.length_append, List.length_cons, List.length_nil]; omega
  | hand1 R c h =>
    have := RowsGood.joinLen g.1
    have := handOk_len g.2.2
    simp only [txt, List.length_append, List.length_cons, List.length_nil]; omega
  | hand2 R c k h =>
    have := RowsGood.joinLen g.1
    have := handOk_len g.2.2.1
    have := handOk_len g.2.2.2.2
    simp only [txt, List.length_append, List.length_cons, List.length_nil]; omega

/-- What holds when k bytes have been looked through. -/
structure Through (s : ByteArray) (k : Nat) (st : St) : Prop where
  good : Good st
  tx : txt st = s.data.toList.take k
  pos : posF s.data.toList = ((sc st (s.data.toList.drop k)).1, (sc st (s.data.toList.drop k)).2 + k)
theorem Through.start (s : ByteArray) : Through s 0 (.rows [] []) := by
  refine ⟨⟨by simp, by decide, Or.inl ⟨rfl, by simp⟩⟩, by simp [txt, joinS], ?_⟩
  rw [List.drop_zero, sc_pos]
  rfl
theorem Through.len {s : ByteArray} {k : Nat} {st : St} (t : Through s k st) (hk : k ≤ s.size) : k ≤ 100 := by
  have h1 := t.good.len
  rw [t.tx, List.length_take, len_data] at h1
  omega
/-- One byte more: what package gameref says of it; where it goes on. -/
theorem Through.next {s : ByteArray} {k : Nat} {st : St} (t : Through s k st) (hk : k < s.size) :
    ((begF (s.data.toList.take (k + 1))).1 = false → (posF s.data.toList).2 = k ∧ ∀ x, ¬ readsAs s x) ∧
    ((begF (s.data.toList.take (k + 1))).1 = true → ∃ st', Through s (k + 1) st') := by
  have ht := take_snoc s k hk
  have hd := drop_cons s k hk
  have hp := t.pos
  rw [hd] at hp
  cases hst : step st s[k] with
  | none =>
    have hb := begF_bad t.good hst
    rw [t.tx, ← ht] at hb
    have hsc : sc st (s[k] :: s.data.toList.drop (k + 1)) = (fin st, 0) := sc_stuck (by simp [hst])
    rw [hsc] at hp
    refine ⟨fun _ => ⟨by rw [hp]; simp, fun x hx => ?_⟩, fun h => (by rw [hb] at h; cases h)⟩
    unfold readsAs at hx
    rw [hp, len_data] at hx
    simp at hx
    omega
  | some st' =>
    have hg := step_good t.good hst
    have hx := step_txt hst
    have hb := begF_good hg
    rw [hx, t.tx, ← ht] at hb
    refine ⟨fun h => (by rw [hb] at h; cases h), fun _ => ⟨st', hg, by rw [hx, t.tx, ← ht], ?_⟩⟩
    rw [hp, sc_step hst]
    simp only [Prod.mk.injEq, true_and]
    omega
/-- At the text's end. -/
theorem Through.stop {s : ByteArray} {st : St} (t : Through s s.size st) : txt st = s.data.toList ∧ begF s.data.toList = (true, (fin st).isSome) ∧ posF s.data.toList = (fin st, s.size) := by
  have hx := t.tx
  rw [take_all s s.size (Nat.le_refl _)] at hx
  have hb := begF_good t.good
  rw [hx] at hb
  have hp := t.pos
  rw [drop_all s s.size (Nat.le_refl _)] at hp
  exact ⟨hx, hb, by rw [hp]; simp [sc]⟩
end Go.Proofs.YtfhmpgjemobjhaaGreatDoor

namespace Go.Proofs.YtfhmpgjemobjhaaGreatDoor
open Go.RowKit

theorem wrows_top (W : Nat) (C : List UInt8) (k : Nat) : wrows W C (k + 1) = (C.drop (k * W)).take W ++ (if k = 0 then [] else 47 :: wrows W C k) := rfl

theorem app_data (a b : ByteArray) : (a ++ b).data.toList = a.data.toList ++ b.data.toList := by simp [ByteArray.data_append]
theorem app_size (a b : ByteArray) : (a ++ b).size = a.size + b.size := ByteArray.size_append

/-- One row more. -/
theorem text_step {W H k j m : Nat} {C X Y : List UInt8} (hj : H = k + 1 + j) (hm : m = j * W) (hX : X ++ (if k = 0 ∨ k = H then [] else [47]) ++ wrows W C (H - k) = wrows W C H)
    (hY : Y = X ++ (if k = 0 then [] else [47]) ++ (C.drop m).take W) : Y ++ (if k + 1 = 0 ∨ k + 1 = H then [] else [47]) ++ wrows W C (H - (k + 1)) = wrows W C H := by
  have e1 : (if k + 1 = 0 ∨ k + 1 = H then ([] : List UInt8) else [47]) = if j = 0 then [] else [47] := by
    by_cases j0 : j = 0
    · rw [if_pos j0, if_pos (by omega)]
    · rw [if_neg j0, if_neg (by omega)]
  have e2 : (if k = 0 ∨ k = H then ([] : List UInt8) else [47]) = if k = 0 then [] else [47] := by
    by_cases k0 : k = 0
    · rw [if_pos k0, if_pos (by omega)]
    · rw [if_neg k0, if_neg (by omega)]
  have e3 : H - k = j + 1 := by omega
  have e4 : H - (k + 1) = j := by omega
  rw [← hX, e1, e2, e3, e4, hY, wrows_top, ← hm]
  by_cases j0 : j = 0
  · simp [j0, wrows]
  · simp [j0]

set_option maxHeartbeats 1000000 in
set_option maxRecDepth 100000 in
theorem Text_ok {W H : Nat} {T : Int} {C A B : ByteArray} (w : World) (p : IsPos W H C T A B) :
    Calls Tryz.prog 30 #[.agg #[.int .i64 W, .int .i64 H, .string C, .int .i64 T, .string A, .string B]] w fun e w' =>
      e = .returned (.string ⟨(wtxt W H C.data.toList T A.data.toList B.data.toList).toArray⟩) ∧ Below w.heap.size w w' := by
  have h64 := p.c64
  have hA := p.as
  have hB := p.bs
  have hW0 := p.w0
  have hW1 := p.w1
  have hH0 := p.h0
  have hH1 := p.h1
  have HC : Hid (C.size = W * H) := p.c
  have hT := p.t
  clear p
  go_enter Tryz.func30, Tryz.ntmps30
  go_wp2
  go_loopw [3, 4] (fun v i wr => ∃ (k : Nat) (X : ByteArray), k ≤ H ∧ i = .int .i64 (k : Int) ∧ v = .string X ∧ X.data.toList ++ (if k = 0 ∨ k = H then [] else [47]) ++ wrows W C.data.toList (H - k) = wrows W C.data.toList H ∧ X.size ≤ 72 ∧ wr = w.alloc (.cells #[.int .i64 W, .int .i64 H, .string C, .int .i64 T, .string A, .string B] 24 (0, 0))) (fun _ i _ => H - (intOf i).toNat)
  case atStart => exact ⟨0, ⟨#[]⟩, Nat.zero_le _, rfl, rfl, by simp, by decide, rfl⟩
  case round =>
    obtain ⟨k, X, hk, rfl, rfl, hX, hXs, rfl⟩ := hrel
    have hXl : X.data.toList.length = X.size := len_data X
    by_cases hlt : k < H
    · obtain ⟨j, hj⟩ : ∃ j, H = k + 1 + j := ⟨H - (k + 1), by omega⟩
      have hHk : (H : Int) - (k : Int) = (j : Int) + 1 := by omega
      have hH1 : (H : Int) - 1 - (k : Int) = (j : Int) := by omega
      obtain ⟨m, hm⟩ : ∃ m, m = j * W := ⟨_, rfl⟩
      have hmW : m + W = (j + 1) * W := by rw [hm, Nat.succ_mul]
      have hle : m + W ≤ C.size := by rw [hmW, unhide HC, Nat.mul_comm W H]; exact Nat.mul_le_mul_right _ (by omega)
      have hmi : (j : Int) * (W : Int) = (m : Int) := by rw [hm]; simp
      have hni : ((j : Int) + 1) * (W : Int) = ((m + W : Nat) : Int) := by rw [hmW]; simp
      have hx : (C.extract m (m + W)).data.toList = (C.data.toList.drop m).take W := by
        rw [ByteArray.data_extract, Array.toList_extract, List.extract_eq_take_drop]
        congr 1
        omega
      have hxs : (C.extract m (m + W)).size = W := by rw [ByteArray.size_extract]; omega
      have htot : (wrows W C.data.toList H).length ≤ 72 := by
        have h1 := wrows_length W C.data.toList H
        have h2 : H * (W + 1) ≤ 8 * 9 := Nat.mul_le_mul (by omega) (by omega)
        omega
      have hfin : ∀ (Y : ByteArray), Y.data.toList = X.data.toList ++ (if k = 0 then [] else [47]) ++ (C.data.toList.drop m).take W →
          Y.data.toList ++ (if k + 1 = 0 ∨ k + 1 = H then [] else [47]) ++ wrows W C.data.toList (H - (k + 1)) = wrows W C.data.toList H ∧ Y.size ≤ 72 := by
        intro Y hY
        have hall := text_step hj hm hX hY
        refine ⟨hall, ?_⟩
        have := congrArg List.length hall
        rw [List.length_append, List.length_append, len_data] at this
        omega
      have HFIN := hide hfin
      have HX := hide hx
      clear hfin hx hX hm hmW htot hj hXl
      generalize hXX : C.extract m (m + W) = R at HX hxs
      by_cases hk0 : k = 0
      · have hki : ¬ (0 : Int) < (k : Int) := by omega
        have HK0 := hide hk0
        clear hk0
        go_wp2
        go_roundw
        case rel =>
          obtain ⟨f1, f2⟩ := unhide HFIN (X ++ R) (by rw [app_data, unhide HX, if_pos (unhide HK0), List.append_nil])
          exact ⟨k + 1, X ++ R, by omega, by go_num, rfl, f1, f2, trivial⟩
        case measure => simp [intOf]; omega
      · have hki : (0 : Int) < (k : Int) := by omega
        go_wp2
        go_roundw
        case rel =>
          obtain ⟨f1, f2⟩ := unhide HFIN (X ++ ⟨#[47]⟩ ++ R) (by rw [app_data, app_data, unhide HX, if_neg hk0])
          exact ⟨k + 1, X ++ ⟨#[47]⟩ ++ R, by omega, by go_num, rfl, f1, f2, trivial⟩
        case measure => simp [intOf]; omega
    · obtain rfl : k = H := by omega
      have hXe : X.data.toList = wrows W C.data.toList k := by
        rw [← hX, Nat.sub_self]
        simp [wrows]
      have HXE := hide hXe
      clear hX hXe hXl
      have strE : ∀ s : ByteArray, s.size = 0 → s = ⟨#[]⟩ := fun s h => ByteArray.ext (Array.eq_empty_of_size_eq_zero h)
      have neE : ∀ s : ByteArray, ¬ s.size = 0 → s.toList.isEmpty = false ∧ whand s.data.toList = s.data.toList := fun s h => by
        have hne : s.data.toList ≠ [] := fun e => h (by rw [← len_data, e]; rfl)
        exact ⟨by rw [Lib.toList_data, List.isEmpty_eq_false_iff]; exact hne, by rw [whand, if_neg hne]⟩
      rcases hT with rfl | rfl
      all_goals
        by_cases hA0 : A.size = 0
        · obtain rfl := strE A hA0
          by_cases hB0 : B.size = 0
          · obtain rfl := strE B hB0
            clear strE neE hA0 hB0
            go_wp2
            go_quiet (fail)
            go_wp2
            go_ret
            refine ⟨?_, below_drewN ((Below.refl _ _).alloc (Nat.le_refl _) _) _⟩
            show Ending.returned (.string _) = Ending.returned (.string _)
            congr 2
            apply bytes_eq
            rw [bytes_data]
            simp [unhide HXE, wtxt, whand]
          · obtain ⟨hB1, hB2⟩ := neE B hB0
            have HB2 := hide hB2
            clear strE neE hA0 hB0 hB2
            go_wp2
            go_quiet (fail)
            go_wp2
            go_ret
            refine ⟨?_, below_drewN ((Below.refl _ _).alloc (Nat.le_refl _) _) _⟩
            show Ending.returned (.string _) = Ending.returned (.string _)
            congr 2
            apply bytes_eq
            rw [bytes_data]
            simp [unhide HXE, wtxt, unhide HB2]
            simp [whand]
        · obtain ⟨hA1, hA2⟩ := neE A hA0
          have HA2 := hide hA2
          by_cases hB0 : B.size = 0
          · obtain rfl := strE B hB0
            clear strE neE hA0 hB0 hA2
            go_wp2
            go_quiet (fail)
            go_wp2
            go_ret
            refine ⟨?_, below_drewN ((Below.refl _ _).alloc (Nat.le_refl _) _) _⟩
            show Ending.returned (.string _) = Ending.returned (.string _)
            congr 2
            apply bytes_eq
            rw [bytes_data]
            simp [unhide HXE, wtxt, unhide HA2]
            simp [whand]
          · obtain ⟨hB1, hB2⟩ := neE B hB0
            have HB2 := hide hB2
            clear strE neE hA0 hB0 hB2 hA2
            go_wp2
            go_quiet (fail)
            go_wp2
            go_ret
            refine ⟨?_, below_drewN ((Below.refl _ _).alloc (Nat.le_refl _) _) _⟩
            show Ending.returned (.string _) = Ending.returned (.string _)
            congr 2
            apply bytes_eq
            rw [bytes_data]
            simp [unhide HXE, wtxt, unhide HA2, unhide HB2]
end Go.Proofs.YtfhmpgjemobjhaaGreatDoor
