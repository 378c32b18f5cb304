/-
  gameref.Text, walked at a position: the same text as board.Write's.
  gamelaw.HousePlays, walked for whatever comes in.
-/
import Derived.Test.YtihojhfpepbjhaaGreatDoorJ11
import Derived.Lib.Strings
import Derived.Test.YtihojhfpepbjhaaGreatDoorJ43
import Derived.Test.YtihojhfpepbjhaaGreatDoorJ44
import Derived.Test.YtihojhfpepbjhaaGreatDoorV33
import Derived.Test.YtihojhfpepbjhaaGreatDoorJ49
import Derived.Test.YtihojhfpepbjhaaGreatDoorJ40
namespace Go.Proofs.YtihojhfpepbjhaaGreatDoor
open Go.RowKit

theorem bytes_dataT (l : List UInt8) : (⟨l.toArray⟩ : ByteArray).data.toList = l := rfl
theorem bytes_eqT {a b : ByteArray} (h : a.data.toList = b.data.toList) : a = b := by
  cases a with | mk x => cases b with | mk y => simp only at h; rw [Array.toList_inj.1 h]
theorem wrows_top (W : Nat) (C : List UInt8) (k : Nat) : wrows W C (k + 1) = (C.drop (k * W)).take W ++ (if k = 0 then [] else 47 :: wrows W C k) := rfl

theorem app_data (a b : ByteArray) : (a ++ b).data.toList = a.data.toList ++ b.data.toList := by simp [ByteArray.data_append]
/-- One row more. -/
theorem text_step {W H k j m : Nat} {C X Y : List UInt8} (hj : H = k + 1 + j) (hm : m = j * W) (hX : X ++ (if k = 0 ∨ k = H then [] else [47]) ++ wrows W C (H - k) = wrows W C H)
    (hY : Y = X ++ (if k = 0 then [] else [47]) ++ (C.drop m).take W) : Y ++ (if k + 1 = 0 ∨ k + 1 = H then [] else [47]) ++ wrows W C (H - (k + 1)) = wrows W C H := by
  have e1 : (if k + 1 = 0 ∨ k + 1 = H then ([] : List UInt8) else [47]) = if j = 0 then [] else [47] := by
    by_cases j0 : j = 0
    · rw [if_pos j0, if_pos (by omega)]
    · rw [if_neg j0, if_neg (by omega)]
  have e2 : (if k = 0 ∨ k = H then ([] : List UInt8) else [47]) = if k = 0 then [] else [47] := by
    by_cases k0 : k = 0
    · rw [if_pos k0, if_pos (by omega)]
    · rw [if_neg k0, if_neg (by omega)]
  have e3 : H - k = j + 1 := by omega
  have e4 : H - (k + 1) = j := by omega
  rw [← hX, e1, e2, e3, e4, hY, wrows_top, ← hm]
  by_cases j0 : j = 0
  · simp [j0, wrows]
  · simp [j0]

set_option maxHeartbeats 1000000 in
set_option maxRecDepth 100000 in
theorem Text_ok {W H : Nat} {T : Int} {C A B : ByteArray} (w : World) (p : IsPos W H C T A B) :
    Calls Tryz.prog 40 #[.agg #[.int .i64 W, .int .i64 H, .string C, .int .i64 T, .string A, .string B]] w fun e w' =>
      e = .returned (.string ⟨(wtxt W H C.data.toList T A.data.toList B.data.toList).toArray⟩) ∧ Below w.heap.size w w' := by
  have h64 := p.c64
  have hA := p.as
  have hB := p.bs
  have hW0 := p.w0
  have hW1 := p.w1
  have hH0 := p.h0
  have hH1 := p.h1
  have HC : Hid (C.size = W * H) := p.c
  have hT := p.t
  clear p
  go_enter Tryz.func40, Tryz.ntmps40
  go_wp2
  go_loopw [3, 4] (fun v i wr => ∃ (k : Nat) (X : ByteArray), k ≤ H ∧ i = .int .i64 (k : Int) ∧ v = .string X ∧ X.data.toList ++ (if k = 0 ∨ k = H then [] else [47]) ++ wrows W C.data.toList (H - k) = wrows W C.data.toList H ∧ X.size ≤ 72 ∧ wr = w.alloc (.cells #[.int .i64 W, .int .i64 H, .string C, .int .i64 T, .string A, .string B] 24 (0, 0))) (fun _ i _ => H - (intOf i).toNat)
  case atStart => exact ⟨0, ⟨#[]⟩, Nat.zero_le _, rfl, rfl, by simp, by decide, rfl⟩
  case round =>
    obtain ⟨k, X, hk, rfl, rfl, hX, hXs, rfl⟩ := hrel
    have hXl : X.data.toList.length = X.size := len_data X
    by_cases hlt : k < H
    · obtain ⟨j, hj⟩ : ∃ j, H = k + 1 + j := ⟨H - (k + 1), by omega⟩
      have hHk : (H : Int) - (k : Int) = (j : Int) + 1 := by omega
      have hH1 : (H : Int) - 1 - (k : Int) = (j : Int) := by omega
      obtain ⟨m, hm⟩ : ∃ m, m = j * W := ⟨_, rfl⟩
      have hmW : m + W = (j + 1) * W := by rw [hm, Nat.succ_mul]
      have hle : m + W ≤ C.size := by rw [hmW, unhide HC, Nat.mul_comm W H]; exact Nat.mul_le_mul_right _ (by omega)
      have hmi : (j : Int) * (W : Int) = (m : Int) := by rw [hm]; simp
      have hni : ((j : Int) + 1) * (W : Int) = ((m + W : Nat) : Int) := by rw [hmW]; simp
      have hx : (C.extract m (m + W)).data.toList = (C.data.toList.drop m).take W := by
        rw [ByteArray.data_extract, Array.toList_extract, List.extract_eq_take_drop]
        congr 1
        omega
      have hxs : (C.extract m (m + W)).size = W := by rw [ByteArray.size_extract]; omega
      have htot : (wrows W C.data.toList H).length ≤ 72 := by
        have h1 := wrows_length W C.data.toList H
        have h2 : H * (W + 1) ≤ 8 * 9 := Nat.mul_le_mul (by omega) (by omega)
        omega
      have hfin : ∀ (Y : ByteArray), Y.data.toList = X.data.toList ++ (if k = 0 then [] else [47]) ++ (C.data.toList.drop m).take W →
          Y.data.toList ++ (if k + 1 = 0 ∨ k + 1 = H then [] else [47]) ++ wrows W C.data.toList (H - (k + 1)) = wrows W C.data.toList H ∧ Y.size ≤ 72 := by
        intro Y hY
        have hall := text_step hj hm hX hY
        refine ⟨hall, ?_⟩
        have := congrArg List.length hall
        rw [List.length_append, List.length_append, len_data] at this
        omega
      have HFIN := hide hfin
      have HX := hide hx
      clear hfin hx hX hm hmW htot hj hXl
      generalize hXX : C.extract m (m + W) = R at HX hxs
      by_cases hk0 : k = 0
      · have hki : ¬ (0 : Int) < (k : Int) := by omega
        have HK0 := hide hk0
        clear hk0
        go_wp2
        go_roundw
        case rel =>
          obtain ⟨f1, f2⟩ := unhide HFIN (X ++ R) (by rw [app_data, unhide HX, if_pos (unhide HK0), List.append_nil])
          exact ⟨k + 1, X ++ R, by omega, by go_num, rfl, f1, f2, trivial⟩
        case measure => simp [intOf]; omega
      · have hki : (0 : Int) < (k : Int) := by omega
        go_wp2
        go_roundw
        case rel =>
          obtain ⟨f1, f2⟩ := unhide HFIN (X ++ ⟨#[47]⟩ ++ R) (by rw [app_data, app_data, unhide HX, if_neg hk0])
          exact ⟨k + 1, X ++ ⟨#[47]⟩ ++ R, by omega, by go_num, rfl, f1, f2, trivial⟩
        case measure => simp [intOf]; omega
    · obtain rfl : k = H := by omega
      have hXe : X.data.toList = wrows W C.data.toList k := by
        rw [← hX, Nat.sub_self]
        simp [wrows]
      have HXE := hide hXe
      clear hX hXe hXl
      have strE : ∀ s : ByteArray, s.size = 0 → s = ⟨#[]⟩ := fun s h => ByteArray.ext (Array.eq_empty_of_size_eq_zero h)
      have neE : ∀ s : ByteArray, ¬ s.size = 0 → s.toList.isEmpty = false ∧ whand s.data.toList = s.data.toList := fun s h => by
        have hne : s.data.toList ≠ [] := fun e => h (by rw [← len_data, e]; rfl)
        exact ⟨by rw [Lib.toList_data, List.isEmpty_eq_false_iff]; exact hne, by rw [whand, if_neg hne]⟩
      rcases hT with rfl | rfl
      all_goals
        by_cases hA0 : A.size = 0
        · obtain rfl := strE A hA0
          by_cases hB0 : B.size = 0
          · obtain rfl := strE B hB0
            clear strE neE hA0 hB0
            go_wp2
            go_quiet (fail)
            go_wp2
            go_ret
            refine ⟨?_, below_drewN ((Below.refl _ _).alloc (Nat.le_refl _) _) _⟩
            show Ending.returned (.string _) = Ending.returned (.string _)
            congr 2
            apply bytes_eqT
            rw [bytes_dataT]
            simp [unhide HXE, wtxt, whand]
          · obtain ⟨hB1, hB2⟩ := neE B hB0
            have HB2 := hide hB2
            clear strE neE hA0 hB0 hB2
            go_wp2
            go_quiet (fail)
            go_wp2
            go_ret
            refine ⟨?_, below_drewN ((Below.refl _ _).alloc (Nat.le_refl _) _) _⟩
            show Ending.returned (.string _) = Ending.returned (.string _)
            congr 2
            apply bytes_eqT
            rw [bytes_dataT]
            simp [unhide HXE, wtxt, unhide HB2]
            simp [whand]
        · obtain ⟨hA1, hA2⟩ := neE A hA0
          have HA2 := hide hA2
          by_cases hB0 : B.size = 0
          · obtain rfl := strE B hB0
            clear strE neE hA0 hB0 hA2
            go_wp2
            go_quiet (fail)
            go_wp2
            go_ret
            refine ⟨?_, below_drewN ((Below.refl _ _).alloc (Nat.le_refl _) _) _⟩
            show Ending.returned (.string _) = Ending.returned (.string _)
            congr 2
            apply bytes_eqT
            rw [bytes_dataT]
            simp [unhide HXE, wtxt, unhide HA2]
            simp [whand]
          · obtain ⟨hB1, hB2⟩ := neE B hB0
            have HB2 := hide hB2
            clear strE neE hA0 hB0 hB2 hA2
            go_wp2
            go_quiet (fail)
            go_wp2
            go_ret
            refine ⟨?_, below_drewN ((Below.refl _ _).alloc (Nat.le_refl _) _) _⟩
            show Ending.returned (.string _) = Ending.returned (.string _)
            congr 2
            apply bytes_eqT
            rw [bytes_dataT]
            simp [unhide HXE, wtxt, unhide HA2, unhide HB2]
end Go.Proofs.YtihojhfpepbjhaaGreatDoor

namespace Go.Proofs.YtihojhfpepbjhaaGreatDoor
open Go.RowKit

theorem rText_H {ps : List Pc} {dr : Bool} {lo : Nat} {li : Int} {re : Nat} {W' H' T' : Nat} {C A B : ByteArray} (hf : AtF ps W' H' T' C A B W' H' T') {m : Mv} (hm : m ∈ movesL W' H' T' C A B ps dr lo li re) (u : World) :
    Calls Tryz.prog 74 #[.agg #[.int .i64 (W' : Int), .int .i64 (H' : Int), .string C, .int .i64 (T' : Int), .string A, .string B], .agg #[.int .i64 m.f, .int .i64 (m.t : Int), .int .u8 (m.c : Int)]] u fun e w' => e = .returned (.string ⟨(txM W' C m).toArray⟩) ∧ Below u.heap.size u w' := by
  obtain ⟨f1, f2, f3⟩ := (mov_is hm).facts
  have h8 : C.size ≤ W' * 8 := by rw [hf.c]; exact Nat.mul_le_mul (Nat.le_refl _) hf.h1.2
  have hcc : m.c.toUInt8.toNat = m.c := u8_back f3
  unfold txM
  rcases f2 with h | ⟨h1, h2⟩
  · have := rText_drop W' H' T' C A B m.t m.c.toUInt8 u hf.w1 (by omega)
    rw [hcc] at this
    rw [h]
    exact this
  · obtain ⟨fr, hfr⟩ : ∃ fr : Nat, m.f = fr := ⟨m.f.toNat, by omega⟩
    have := rText_go W' H' T' C A B fr m.t m.c.toUInt8 u hf.w1 (by omega) (by omega) f1
    rw [hcc] at this
    rw [hfr]
    exact this
section
variable {s : Po} {ps : List Pc} {dr st : Bool} {lo re : Nat} {li pl : Int}
/-- The document's answers. -/
theorem rc_of (ao : Option Addr) (cap : Nat) (w00 : World) (h : isPcs w00 ao cap ps) (hlo : lo < 256) (hre : re < 256) (ht : isTab w00) :
    Rc (gmP ps dr st lo li re pl) (OkP s.W s.H s.T s.C.data.toList s.A.data.toList s.B.data.toList ps lo re li pl) txtP w00.heap.size w00 (.int .i64 s.W) (.int .i64 s.H) (.string s.C) (.int .i64 s.T) (.string s.A) (.string s.B) (.slice ao ps.length cap) (.bool dr) (.int .u8 (lo : Int)) (.int .i64 li) (.int .u8 (re : Int)) (.bool st) := by
  have hps : ∀ u, Below w00.heap.size w00 u → isPcs u ao cap ps := fun u hu => h.below hu (Nat.le_refl _)
  refine ⟨?_, ?_, ?_, ?_, ?_, ?_, ?_⟩
  · intro q hq u hu
    obtain ⟨a1, a2, a3, hf⟩ := at_facts hq
    have hg := at_more hq hf
    have := rEnds_any a1 a2 a3 q.C q.A q.B s.W s.H s.T s.C s.A s.B ao cap ps dr st lo re li pl u (hps u hu) hf.ok hf.t1 hf.a hf.b hf.w1 hf.h1 hf.c hg.cell hg.let_ hlo hre hg.loc hg.rec_ hg.li
    rw [← hf.w, ← hf.h, ← hf.t, ← hf.out] at this
    exact this
  · intro q hq u hu
    obtain ⟨a1, a2, a3, hf⟩ := at_facts hq
    have hg := at_more hq hf
    have := rMoves_any a1 a2 a3 q.C q.A q.B s.W s.H s.T s.C s.A s.B ao cap ps dr st lo re li pl u (hps u hu) hf.ok hf.t1 hf.a hf.b hf.w1 hf.h1 hf.c hg.cell hg.let_ hlo hre hg.loc hg.rec_ hg.li
    rw [← hf.w, ← hf.h, ← hf.t, ← hf.movs] at this
    exact this
  · intro q hq m hm u
    obtain ⟨a1, a2, a3, hf⟩ := at_facts hq
    have hm2 : m ∈ movP ps dr lo li re q := hm
    rw [hf.movs] at hm2
    have hf2 := hf
    have e1 := hf.w
    have e2 := hf.h
    have e3 := hf.t
    show Calls _ _ _ _ (fun e u' => e = .returned (.string ⟨(txM q.W.toNat q.C m).toArray⟩) ∧ _)
    rw [e1, e2, e3] at hf2 ⊢
    exact rText_H hf2 hm2 u
  · intro q hq m hm u
    exact made_P hq hm _ _ _ _ _ _ _ _ _ _ _ _ u
  · intro q hq u
    obtain ⟨W', H', T', hf⟩ := at_facts hq
    have hp := at_isPos hq hf
    have := Text_ok u hp
    unfold txtP
    rw [hf.w, hf.h, hf.t]
    exact this
  · intro q hq
    have : (movP ps dr lo li re q).length ≤ 4608 := mov_len (at_facts hq)
    show (movP ps dr lo li re q).length ≤ 100000
    omega
  · exact fun u hu => tab_below ht hu (Nat.le_refl _)
end
theorem housePlays_any (s : Po) (ao : Option Addr) (cap : Nat) (ps : List Pc) (dr st : Bool) (lo re : Nat) (li pl time : Int) (mo : Option Addr) (mc : Nat) (ml : List Ms) (mx : Int) (w : World) (hm : w.cell? ⟨0, 0, none⟩ = some (.int .i64 mx)) (ht : isTab w) (hC0 : s.C.size ≤ maxLen) (hA0 : s.A.size ≤ maxLen) (hB0 : s.B.size ≤ maxLen) (hlo : lo < 256) (hre : re < 256) (h : isPcs w ao cap ps) (hml : isMl w mo mc ml) (hmb : ∀ m ∈ ml, m.at_ < 9223372036854775808) :
    Calls Tryz.prog 3 #[.agg #[.int .i64 s.W, .int .i64 s.H, .string s.C, .int .i64 s.T, .string s.A, .string s.B, .slice ao ps.length cap, .bool dr, .int .u8 (lo : Int), .int .i64 li, .int .u8 (re : Int), .bool st, .int .i64 pl], .int .i64 time, .slice mo ml.length mc] w fun e w' => e = .returned (.bool true) ∧ Below w.heap.size w w' := by
  have hps : ∀ u, Below w.heap.size w u → isPcs u ao cap ps := fun u hu => h.below hu (Nat.le_refl _)
  have hRu := fun u (hu : Below w.heap.size w u) => gRules_any s.W s.H s.T s.C s.A s.B ao cap ps dr st lo re li pl u hA0 hB0 hlo hre (hps u hu)
  by_cases hgood : rulesB s.W s.H s.C.data.toList s.T s.A.data.toList s.B.data.toList ps lo li re pl = true ∧ 1 ≤ time ∧ time ≤ 1000000
  · obtain ⟨hR, ht1⟩ := hgood
    rw [hR] at hRu
    have hat : OkP s.W s.H s.T s.C.data.toList s.A.data.toList s.B.data.toList ps lo re li pl s := by
      have hR2 := hR
      unfold rulesB at hR2
      unfold OkP atB
      simp only [Bool.and_eq_true, decide_eq_true_eq] at hR2 ⊢
      exact ⟨⟨⟨⟨hR, hR2.1.1.1.1.1.2⟩, trivial⟩, trivial⟩, hR2.1.1.1.1.2⟩
    have hpl : 1 ≤ pl ∧ pl ≤ 1000 := by
      have hR2 := hR
      unfold rulesB at hR2
      simp only [Bool.and_eq_true] at hR2
      have := hR2.2
      simpa [inB] using this
    have hpsB := rules_len hR
    obtain ⟨W', H', T', hf⟩ := at_facts hat
    have hp := at_isPos hat hf
    have hhc := fun b ao2 cp2 (w00 : World) (hb : w00.heap.size = b) (h2 : isPcs w00 ao2 cp2 ps) (hl : Below w.heap.size w w00) => hc_of (s := s) (dr := dr) (st := st) (li := li) (pl := pl) ao2 cp2 b w00 hb h2 ⟨hC0, hA0, hB0⟩ hlo hre mx ((hl.cell (p := ⟨0, 0, none⟩) (World.block_lt_of_cell? w ⟨0, 0, none⟩ hm)).trans hm) (tab_below ht hl (Nat.le_refl _))
    refine plays_yes (gmP ps dr st lo li re pl) _ (gm_ok dr st hpl) txtP s hat ao cap ps dr st lo re li time mo mc ml w ht1 hml hmb (fun u hu => ?_) (fun b ao2 cp2 w00 hb h2 hl => hhc b ao2 cp2 w00 hb h2 hl) (rc_of ao cap w h hlo hre ht) hRu
    have hn := new_ok (gmP ps dr st lo li re pl) (W := W') (H := H') (T := s.T) (C := s.C) (A := s.A) (B := s.B) ao cap ps dr st lo re li time u (by rw [hf.t]; exact hp) (hps u hu) hC0 hA0 hB0 hlo hre (by rw [← hf.w, ← hf.h]; exact hR) hpsB.1 hpsB.2 ht1 (fun ao2 cp2 v hv => by
      have := Outcome_ok s.W s.H s.T s.C s.A s.B ao2 cp2 ps dr st lo re li pl s.W s.H s.T s.C s.A s.B v hC0 hA0 hB0 hlo hre hv hC0 hA0 hB0 hat W' H' T' hf
      rw [← hf.out] at this
      rw [← hf.w, ← hf.h]
      exact this)
    rw [← hf.w, ← hf.h] at hn
    exact hn
  · have hbad : (rulesB s.W s.H s.C.data.toList s.T s.A.data.toList s.B.data.toList ps lo li re pl && (decide (1 ≤ time) && decide (time ≤ 1000000))) = false := by
      rw [Bool.eq_false_iff]
      intro hh
      simp only [Bool.and_eq_true, decide_eq_true_eq] at hh
      exact hgood hh
    refine plays_no _ _ _ _ _ _ _ _ _ _ _ _ _ time _ _ w ?_ (fun u hu => new_no s.W s.H s.T s.C s.A s.B ao cap ps dr st lo re li pl time u (hps u hu) hC0 hA0 hB0 hlo hre hbad) hRu
    cases hR : rulesB s.W s.H s.C.data.toList s.T s.A.data.toList s.B.data.toList ps lo li re pl with
    | false => exact .inl rfl
    | true =>
      have : ¬ (1 ≤ time ∧ time ≤ 1000000) := fun hh => hgood ⟨hR, hh⟩
      omega
end Go.Proofs.YtihojhfpepbjhaaGreatDoor
