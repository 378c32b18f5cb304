/-
  The document's answer: gameref.Takings.
-/
import Derived.Test.YtphnjedoghopcaaQ30
namespace Go.Proofs.Ytphnjedoghopcaa
open Go.RowKit
attribute [local go_sem ↓] Go.wp_at_zero Go.wp_at_succ

structure TkEnd (l : List (List Nat)) (w : World) (e : Ending) (w' : World) : Prop where
  low : Below w.heap.size w w'
  out : ∃ v, e = .returned v ∧ isTk w' w.heap.size v l
theorem isIsP_nil (S : Nat → Prop) (w : World) : isIsP S w none 0 (natI []) := ⟨Nat.le_refl _, by unfold maxLen; omega, fun h => absurd rfl h⟩
theorem isIs.toP {w w' : World} {g cap : Nat} {r : List Int} {S : Nat → Prop} (h : isIs w w.heap.size (some ⟨g, 0, none⟩) cap r) (hk : w'.heap[g]? = w.heap[g]?) (hS : S g) : isIsP S w' (some ⟨g, 0, none⟩) cap r := by
  obtain ⟨h1, h2, h3⟩ := h
  refine ⟨h1, h2, fun hne => ?_⟩
  obtain ⟨g', off, e, hg, hc⟩ := h3 hne
  cases e
  exact ⟨g, 0, rfl, hS, fun k x hx => (World.cell?_of_block (a := ⟨g, 0 + k, none⟩) hk).trans (hc k x hx)⟩
theorem news_at (w : World) (v : Value) (t : TypeId) {g : Nat} (hg : g = w.heap.size) : ∀ (j : Nat) (u : Value), [v][j]? = some u → (w.alloc (.cells #[v] t)).cell? ((⟨g, 0, none⟩ : Addr).add j) = some u := by
  subst hg
  intro j u hj
  match j, hj with
  | 0, hj =>
    simp at hj; subst hj
    rw [show (⟨w.heap.size, 0, none⟩ : Addr).add 0 = ⟨w.heap.size, 0, none⟩ by simp [Addr.add]]
    exact cell_of_row _ _ _ _ _ _ (heap_alloc_new w _)
theorem one_at {v : Value} (h : v.oneCell' = true) : ∀ u ∈ [v], u.oneCell' = true := fun u hu => by
  simp only [List.mem_singleton] at hu
  subst hu; exact h

set_option maxHeartbeats 4000000 in
set_option maxRecDepth 100000 in
theorem takings_any (s : ByteArray) (n : Nat) (w : World) (hcd : codeB s = true) (hn : n ≤ 400) :
    Calls Try.prog 12 #[.string s, .int .i64 (n : Int)] w fun e w' => TkEnd (tks (digs (dig s)) n) w e w' := by
  obtain ⟨h6, hdg⟩ := code_dig hcd
  have h2s : 2 ≤ s.size := by unfold codeB preB at hcd; rw [Bool.and_eq_true, Bool.and_eq_true, decide_eq_true_eq] at hcd; exact hcd.1.1
  have hds := dig_size h2s
  obtain ⟨dl, hdl⟩ : ∃ dl, dl = (dig s).size := ⟨_, rfl⟩
  rw [← hdl] at hds h6
  have hdli : (s.size : Int) - 2 = (dl : Int) := by omega
  obtain ⟨D, hD⟩ : ∃ D, D = digs (dig s) := ⟨_, rfl⟩
  have hDl : D.length = dl := by rw [hD, digs_len, hdl]
  have hDat : ∀ (i : Nat) (h : i + 2 < s.size), D[i]! = s[i + 2].toNat - 48 ∧ 48 ≤ s[i + 2].toNat ∧ s[i + 2].toNat ≤ 55 := fun i h => by
    have hi : i < (dig s).size := by omega
    have e : (dig s)[i] = s[i + 2] := by
      have h1 : (dig s).data.toList[i]'(by rw [Array.length_toList]; exact hi) = s.data.toList[i + 2]'(by rw [Array.length_toList]; exact h) := by
        simp only [dig_list, List.getElem_drop, Nat.add_comm 2 i]
      exact h1
    have hb : digB (dig s)[i] = true := List.all_eq_true.1 hdg _ (List.getElem_mem (l := (dig s).data.toList) (by rw [Array.length_toList]; exact hi))
    rw [e] at hb
    unfold digB at hb
    rw [Bool.and_eq_true, decide_eq_true_eq, decide_eq_true_eq] at hb
    refine ⟨by rw [hD, digs_at hi, e], by omega, by omega⟩
  rw [← hD]
  obtain ⟨m, hm⟩ : ∃ m, m = min n dl := ⟨_, rfl⟩
  have hT : tks D n = tkTo D n m := by unfold tks; rw [hDl, hm]
  rw [hT]
  obtain ⟨i1, hinfo1, hy0, hy1, hy2⟩ := info_parts Try.infoL
  have HI1 := hide hinfo1
  have HY0 := hide hy0
  have HY1 := hide hy1
  have HY2 := hide hy2
  have HDAT := hide hDat
  have HM := hide hm
  have hmn : m ≤ n := by omega
  have hmd : m ≤ dl := by omega
  have hor : m = n ∨ m = dl := by omega
  clear hinfo1 hy0 hy1 hy2 hDat hm hT hD hdg hcd hdl
  have HOR := hide hor
  clear hor
  go_enter Try.func12, Try.ntmps12
  go_wp2
  go_loopw [5, 6] (fun ov kv wr => ∃ k : Nat, 1 ≤ k ∧ k ≤ m + 1 ∧ kv = .int .i64 (k : Int) ∧ isTk wr w.heap.size ov (tkTo D n (k - 1)) ∧ Below w.heap.size w wr) (fun _ kv _ => m + 1 - (intOf kv).toNat)
  case atStart => exact ⟨1, Nat.le_refl _, by omega, rfl, ⟨[], isAr.nil _ _, rfl⟩, Below.refl _ _⟩
  case round =>
    obtain ⟨k, hk1, hkm, rfl, htk, hb⟩ := hrel
    rename World => wk
    have hwk := hb.size
    obtain ⟨i, hi⟩ : ∃ i, i = k - 1 := ⟨_, rfl⟩
    rw [← hi] at htk
    by_cases hlt : k ≤ dl
    · have hlti : (k : Int) ≤ (dl : Int) := by omega
      obtain ⟨K1, hK1⟩ : ∃ K1, K1 = k + 1 := ⟨_, rfl⟩
      have hK1i : (k : Int) + 1 = (K1 : Int) := by omega
      have hK1s : K1 < s.size := by omega
      have hK1si : (K1 : Int) < (s.size : Int) := by omega
      have hK10 : (0 : Int) ≤ (K1 : Int) := by omega
      obtain ⟨dq, l48, g55⟩ := unhide HDAT i (by omega)
      have hKe : i + 2 = K1 := by omega
      have hse : s[i + 2]'(by omega) = s[K1] := by simp only [hKe]
      rw [hse] at dq l48 g55
      obtain ⟨q, hq⟩ : ∃ q, q = s[K1].toNat - 48 := ⟨_, rfl⟩
      rw [← hq] at dq
      have hq8 : q < 8 := by omega
      have hqw : IntKind.u8.wrap ((s[K1].toNat : Int) - 48) = (q : Int) := by rw [IntKind.wrap_u8']; omega
      have hqw2 : IntKind.i64.wrap (q : Int) = (q : Int) := by unfold IntKind.wrap; simp [IntKind.signed, IntKind.bits]; omega
      have HDQ := hide dq
      have HKK := hide hi
      clear hK1 hKe hse hq dq l48 g55
      by_cases hbr : n < k
      · have hneg : (n : Int) - (k : Int) < 0 := by omega
        have hin : i = m := by omega
        have HE : Hid (isTk wk w.heap.size u5 (tkTo D n m)) := hide (by rw [← hin]; exact htk)
        obtain ⟨uo, uc, hv⟩ := row_len htk.len
        subst hv
        have HB := hide hb
        clear htk hb hi hin hbr
        go_wp2
        go_ret
        exact ⟨unhide HB, _, rfl, unhide HE⟩
      · have hnn : ¬ n < k := hbr
        obtain ⟨rest, hrest⟩ : ∃ rest, rest = n - k := ⟨_, rfl⟩
        have hri : (n : Int) - (k : Int) = (rest : Int) := by omega
        have hrb : rest ≤ 400 := by omega
        have him : i < m := by have := unhide HOR; omega
        have hkm2 : k ≤ m := by omega
        obtain ⟨P, hP⟩ : ∃ P, P = tkTo D n i := ⟨_, rfl⟩
        have hsu : tkTo D n k = P ++ (one1 q rest ++ (one2 q rest ++ one4 q rest)) := by
          rw [show k = i + 1 by omega, tkTo_succ, ← hP, unhide HDQ, show n - (i + 1) = rest by omega]
          rfl
        rw [← hP] at htk
        have hPl : (tkTo D n k).length ≤ 3000 := by
          have h1 := tkTo_len D n k
          have : k * (n + 2) ≤ 6 * 402 := Nat.mul_le_mul (by omega) (by omega)
          omega
        rw [hsu] at hPl
        simp only [List.length_append] at hPl
        obtain ⟨b1, hb1⟩ : ∃ b, b = decide (q % 2 = 1) := ⟨_, rfl⟩
        obtain ⟨b2, hb2⟩ : ∃ b, b = decide (q / 2 % 2 = 1) := ⟨_, rfl⟩
        obtain ⟨b4, hb4⟩ : ∃ b, b = decide (q / 4 % 2 = 1) := ⟨_, rfl⟩
        obtain ⟨A1, hA1⟩ : ∃ A, A = q % 2 := ⟨_, rfl⟩
        obtain ⟨Q2, hQ2⟩ : ∃ A, A = q / 2 := ⟨_, rfl⟩
        obtain ⟨A2, hA2⟩ : ∃ A, A = Q2 % 2 := ⟨_, rfl⟩
        obtain ⟨Q4, hQ4⟩ : ∃ A, A = q / 4 := ⟨_, rfl⟩
        obtain ⟨H, hH⟩ : ∃ H, H = rest / 2 := ⟨_, rfl⟩
        have y1 : (q : Int) % 2 = (A1 : Int) := by omega
        have y1t : (q : Int).tmod 2 = (A1 : Int) := by rw [hA1]; rfl
        have y2 : (q : Int) / 2 = (Q2 : Int) := by omega
        have y2t : (q : Int).tdiv 2 = (Q2 : Int) := by rw [hQ2]; rfl
        have y3 : (Q2 : Int) % 2 = (A2 : Int) := by omega
        have y3t : (Q2 : Int).tmod 2 = (A2 : Int) := by rw [hA2]; rfl
        have y4 : (q : Int) / 4 = (Q4 : Int) := by omega
        have y4t : (q : Int).tdiv 4 = (Q4 : Int) := by rw [hQ4]; rfl
        have yh : (rest : Int) / 2 = (H : Int) := by omega
        have yht : (rest : Int).tdiv 2 = (H : Int) := by rw [hH]; rfl
        have z1 : ((A1 : Int) == 1) = b1 := by rw [hb1, hA1]; exact Bool.eq_iff_iff.2 (by simp; omega)
        have z2 : ((A2 : Int) == 1) = b2 := by rw [hb2, hA2, hQ2]; exact Bool.eq_iff_iff.2 (by simp; omega)
        have z4 : ((Q4 : Int) == 1) = b4 := by rw [hb4, hQ4]; exact Bool.eq_iff_iff.2 (by simp; omega)
        have o1 : one1 q rest = if b1 = true ∧ rest = 0 then [[]] else [] := by unfold one1; rw [hb1]; simp
        have o2 : one2 q rest = if b2 = true ∧ 0 < rest then [[rest]] else [] := by unfold one2; rw [hb2]; simp
        have o4 : one4 q rest = if b4 = true then two rest H else [] := by unfold one4; rw [hb4, hH]; simp
        have hH1 : 2 * H ≤ rest := by omega
        have hH2 : rest < 2 * H + 2 := by omega
        generalize one1 q rest = p1 at *
        generalize one2 q rest = p2 at *
        generalize one4 q rest = p4 at *
        have HSU := hide hsu
        have HO1 := hide o1
        have HO2 := hide o2
        have HO4 := hide o4
        have HTK := hide htk
        have HB := hide hb
        clear hsu o1 o2 o4 hb1 hb2 hb4 hA1 hA2 hQ2 hQ4 hH hP htk hb hi hrest hbr
        obtain ⟨B1, hB1⟩ : ∃ B, B = (decide (rest = 0) && b1) := ⟨_, rfl⟩
        have HP1 : Hid (p1 = if B1 = true then [[]] else []) := hide (by
          rw [unhide HO1, hB1]
          by_cases h0 : rest = 0
          · cases b1 <;> simp [h0]
          · simp [h0])
        go_upto_region 8 with fail
        go_cut [34] (fun v wz => v = .bool B1 ∧ wz = wk)
        case first =>
          by_cases h0 : rest = 0
          · have h0i : ((rest : Int) == 0) = true := by simp [h0]
            rw [decide_eq_true h0, Bool.true_and] at hB1
            subst hB1
            clear h0
            go_wp2
            go_meet
            case rel => exact ⟨rfl, rfl⟩
          · have h0i : ((rest : Int) == 0) = false := beq_eq_false_iff_ne.2 (by omega)
            rw [decide_eq_false h0, Bool.false_and] at hB1
            subst hB1
            clear h0
            go_wp2
            go_meet
            case rel => exact ⟨rfl, rfl⟩
        case rest =>
        obtain ⟨rfl, rfl⟩ := hcut
        clear hB1 HO1 y1 y1t z1
        rename World => wj
        go_upto_if 34 with fail
        go_cut [5] (fun v wz => isTk wz w.heap.size v (P ++ p1) ∧ Below w.heap.size w wz)
        case first =>
          cases B1 with
          | false =>
            have hp1 : p1 = [] := by rw [unhide HP1]; rfl
            have HF : Hid (isTk wj w.heap.size u5 (P ++ p1) ∧ Below w.heap.size w wj) := hide (by rw [hp1, List.append_nil]; exact ⟨unhide HTK, unhide HB⟩)
            clear hp1
            go_wp2
            go_meet
            case rel => exact unhide HF
          | true =>
            have hp1 : p1 = [[]] := by rw [unhide HP1]; rfl
            obtain ⟨xs, hxs, hpush⟩ := isTk.push (w2 := wj.alloc (.cells #[.slice none 0 0] 22 (0, 0))) [] none 0 (unhide HTK) ((Below.refl _ _).alloc (Nat.le_refl _) _) (isIsP_nil _ _) hwk
            have HXS := hide hxs
            have HPU := hide hpush
            have HBA : Hid (Below w.heap.size w (wj.alloc (.cells #[.slice none 0 0] 22 (0, 0)))) := hide ((unhide HB).alloc hwk _)
            have HP1' := hide hp1
            clear hxs hpush hp1
            have HNA := hide (news_at (wj) (.slice none 0 0) 22 (g := wj.heap.size) (by simp))
            go_wp2_with (at_builtin; refine wpList_append_own_at _ rfl _ _ 33 rfl w.heap.size 22 i1 _ 1 24 Try.underlying33 (unhide HI1) (unhide HY0) (unhide HY1) (unhide HY2) rfl (by decide) _ _ xs rfl (unhide HXS) ⟨wj.heap.size, 0, none⟩ 1 1 [.slice none 0 0] rfl rfl (unhide HNA) (one_at rfl) (by unfold maxLen; omega) (by omega) (by first | omega | (simp; omega)) ?_)
            intro v5 w5 hown5 hg5 _ hat5
            have HF : Hid (isTk w5 w.heap.size v5 (P ++ p1) ∧ Below w.heap.size w w5) := hide (by
              obtain ⟨h1, h2⟩ := unhide HPU v5 w5 hown5 hg5 (by simpa using hat5)
              rw [unhide HP1']; exact ⟨h1, (unhide HBA).trans h2⟩)
            clear hown5 hg5 hat5
            go_wp2
            go_meet
            case rel => exact unhide HF
        case rest =>
        obtain ⟨htk, hb⟩ := hcut
        clear HTK HB HP1
        have hwk := hb.size
        have HTK := hide htk
        have HB := hide hb
        clear htk hb
        obtain ⟨P1, hP1⟩ : ∃ P1, P1 = P ++ p1 := ⟨_, rfl⟩
        rw [← hP1] at HTK
        have HSU1 : Hid (tkTo D n k = P1 ++ (p2 ++ p4)) := hide (by rw [unhide HSU, hP1, List.append_assoc])
        have hPl1 : P1.length + (p2.length + p4.length) ≤ 3000 := by rw [hP1, List.length_append]; omega
        clear hP1 HSU hPl
        obtain ⟨B2, hB2⟩ : ∃ B, B = (decide (0 < rest) && b2) := ⟨_, rfl⟩
        have HP2 : Hid (p2 = if B2 = true then [[rest]] else []) := hide (by
          rw [unhide HO2, hB2]
          by_cases h0 : 0 < rest
          · cases b2 <;> simp [h0]
          · simp [h0])
        rename World => wj2
        go_upto_region 10 with fail
        go_cut [45] (fun v wz => v = .bool B2 ∧ wz = wj2)
        case first =>
          by_cases h0 : 0 < rest
          · have h0i : (0 : Int) < (rest : Int) := by omega
            rw [decide_eq_true h0, Bool.true_and] at hB2
            subst hB2
            clear h0
            go_wp2
            go_meet
            case rel => exact ⟨rfl, rfl⟩
          · have h0i : ¬ (0 : Int) < (rest : Int) := by omega
            rw [decide_eq_false h0, Bool.false_and] at hB2
            subst hB2
            clear h0
            go_wp2
            go_meet
            case rel => exact ⟨rfl, rfl⟩
        case rest =>
        obtain ⟨rfl, rfl⟩ := hcut
        clear hB2 HO2 y2 y2t y3 y3t z2
        rename World => wj3
        go_upto_if 45 with fail
        go_cut [5] (fun v wz => isTk wz w.heap.size v (P1 ++ p2) ∧ Below w.heap.size w wz)
        case first =>
          cases B2 with
          | false =>
            have hp2 : p2 = [] := by rw [unhide HP2]; rfl
            have HF : Hid (isTk wj3 w.heap.size u5 (P1 ++ p2) ∧ Below w.heap.size w wj3) := hide (by rw [hp2, List.append_nil]; exact ⟨unhide HTK, unhide HB⟩)
            clear hp2
            go_wp2
            go_meet
            case rel => exact unhide HF
          | true =>
            have hp2 : p2 = [[rest]] := by rw [unhide HP2]; rfl
            have hpl : P1.length ≤ 2999 := by rw [hp2] at hPl1; simp at hPl1; omega
            obtain ⟨xs, hxs, hpush⟩ := isTk.push (w2 := (wj3.alloc (.cells #[.int .i64 (rest : Int)] 3 (0, 0))).alloc (.cells #[.slice (some ⟨wj3.heap.size, 0, none⟩) 1 1] 22 (0, 0))) [rest] (some ⟨wj3.heap.size, 0, none⟩) 1 (unhide HTK) (((Below.refl _ _).alloc (Nat.le_refl _) _).alloc (by simp) _) ((isIs_one wj3 rest).toP (Below.heap_alloc _ _ _ (by simp)) ⟨Nat.le_refl _, by simp; omega⟩) hwk
            have HXS := hide hxs
            have HPU := hide hpush
            have HBA : Hid (Below w.heap.size w ((wj3.alloc (.cells #[.int .i64 (rest : Int)] 3 (0, 0))).alloc (.cells #[.slice (some ⟨wj3.heap.size, 0, none⟩) 1 1] 22 (0, 0)))) := hide (((unhide HB).alloc hwk _).alloc (by simp; omega) _)
            have HP2' := hide hp2
            clear hxs hpush hp2
            have HNA := hide (news_at (wj3.alloc (.cells #[.int .i64 (rest : Int)] 3 (0, 0))) (.slice (some ⟨wj3.heap.size, 0, none⟩) 1 1) 22 (g := wj3.heap.size + 1) (by simp))
            go_wp2_with (at_builtin; refine wpList_append_own_at _ rfl _ _ 33 rfl w.heap.size 22 i1 _ 1 24 Try.underlying33 (unhide HI1) (unhide HY0) (unhide HY1) (unhide HY2) rfl (by decide) _ _ xs rfl (unhide HXS) ⟨wj3.heap.size + 1, 0, none⟩ 1 1 [.slice (some ⟨wj3.heap.size, 0, none⟩) 1 1] rfl rfl (unhide HNA) (one_at rfl) (by unfold maxLen; omega) (by omega) (by first | omega | (simp; omega)) ?_)
            intro v5 w5 hown5 hg5 _ hat5
            have HF : Hid (isTk w5 w.heap.size v5 (P1 ++ p2) ∧ Below w.heap.size w w5) := hide (by
              obtain ⟨h1, h2⟩ := unhide HPU v5 w5 hown5 hg5 (by simpa using hat5)
              rw [unhide HP2']; exact ⟨h1, (unhide HBA).trans h2⟩)
            clear hown5 hg5 hat5
            go_wp2
            go_meet
            case rel => exact unhide HF
        case rest =>
        obtain ⟨htk, hb⟩ := hcut
        clear HTK HB HP2
        have hwk2 := hb.size
        have HTK := hide htk
        have HB := hide hb
        clear htk hb
        obtain ⟨P2, hP2⟩ : ∃ P2, P2 = P1 ++ p2 := ⟨_, rfl⟩
        rw [← hP2] at HTK
        have HSU2 : Hid (tkTo D n k = P2 ++ p4) := hide (by rw [unhide HSU1, hP2, List.append_assoc])
        have hPl2 : P2.length + p4.length ≤ 3000 := by rw [hP2, List.length_append]; omega
        clear hP2 HSU1 hPl1
        rename World => wl
        cases b4 with
        | false =>
          have hp4 : p4 = [] := by rw [unhide HO4]; rfl
          have HF : Hid (isTk wl w.heap.size u5 (tkTo D n (k + 1 - 1))) := hide (by rw [Nat.add_sub_cancel, unhide HSU2, hp4, List.append_nil]; exact unhide HTK)
          clear hp4
          go_wp2
          go_loop [5, 9] (fun v av => v = u5 ∧ av = .int .i64 1) (fun _ _ => 0)
          case atStart => exact ⟨rfl, rfl⟩
          case round =>
            obtain ⟨rfl, rfl⟩ := hrel
            by_cases h1 : (1 : Int) ≤ (H : Int)
            · go_wp2
              go_roundw
              case rel => exact ⟨k + 1, by omega, by omega, by go_num, unhide HF, unhide HB⟩
              case measure => simp only [intOf]; omega
            · go_wp2
              go_roundw
              case rel => exact ⟨k + 1, by omega, by omega, by go_num, unhide HF, unhide HB⟩
              case measure => simp only [intOf]; omega
        | true =>
          have hp4 : p4 = two rest H := by rw [unhide HO4]; rfl
          subst hp4
          have htl : (two rest H).length = H := by simp [two]
          rw [htl] at hPl2
          clear htl HO4
          go_wp2
          go_loopw [5, 9] (fun ov av wr => ∃ a : Nat, 1 ≤ a ∧ a ≤ H + 1 ∧ av = .int .i64 (a : Int) ∧ isTk wr w.heap.size ov (P2 ++ two rest (a - 1)) ∧ Below w.heap.size w wr) (fun _ av _ => H + 1 - (intOf av).toNat)
          case atStart => exact ⟨1, Nat.le_refl _, by omega, rfl, by simpa [two] using unhide HTK, unhide HB⟩
          case round =>
            obtain ⟨a, ha1, haH, rfl, htk, hb⟩ := hrel
            clear HTK HB
            rename World => wa
            have hwa := hb.size
            by_cases hlta : a ≤ H
            · have hltai : (a : Int) ≤ (H : Int) := by omega
              obtain ⟨t, ht⟩ : ∃ t, t = rest - a := ⟨_, rfl⟩
              have hti : (rest : Int) - (a : Int) = (t : Int) := by omega
              have htw : two rest a = two rest (a - 1) ++ [[a, t]] := by
                have h1 : two rest (a - 1 + 1) = two rest (a - 1) ++ [[a - 1 + 1, rest - (a - 1 + 1)]] := two_succ rest (a - 1)
                rw [show a - 1 + 1 = a by omega] at h1
                rw [h1, ht]
              obtain ⟨Z, hZ⟩ : ∃ Z, Z = P2 ++ two rest (a - 1) := ⟨_, rfl⟩
              have hZl : Z.length ≤ 2999 := by rw [hZ, List.length_append]; simp [two]; omega
              rw [← hZ] at htk
              obtain ⟨xs, hxs, hpush⟩ := isTk.push (w2 := (wa.alloc (.cells #[.int .i64 (a : Int), .int .i64 (t : Int)] 3 (0, 0))).alloc (.cells #[.slice (some ⟨wa.heap.size, 0, none⟩) 2 2] 22 (0, 0))) [a, t] (some ⟨wa.heap.size, 0, none⟩) 2 htk (((Below.refl _ _).alloc (Nat.le_refl _) _).alloc (by simp) _) ((isIs_two wa a t).toP (Below.heap_alloc _ _ _ (by simp)) ⟨Nat.le_refl _, by simp; omega⟩) hwa
              have HXS := hide hxs
              have HPU := hide hpush
              have HBA : Hid (Below w.heap.size w ((wa.alloc (.cells #[.int .i64 (a : Int), .int .i64 (t : Int)] 3 (0, 0))).alloc (.cells #[.slice (some ⟨wa.heap.size, 0, none⟩) 2 2] 22 (0, 0)))) := hide ((hb.alloc hwa _).alloc (by simp; omega) _)
              have HZZ : Hid (P2 ++ two rest (a + 1 - 1) = Z ++ [[a, t]]) := hide (by rw [Nat.add_sub_cancel, htw, hZ, List.append_assoc])
              obtain ⟨zo, zc, hzv⟩ := row_len htk.len
              subst hzv
              clear hxs hpush htk hb htw hZ ht
              have HNA := hide (news_at (wa.alloc (.cells #[.int .i64 (a : Int), .int .i64 (t : Int)] 3 (0, 0))) (.slice (some ⟨wa.heap.size, 0, none⟩) 2 2) 22 (g := wa.heap.size + 1) (by simp))
              go_wp2_with (at_builtin; refine wpList_append_own_at _ rfl _ _ 33 rfl w.heap.size 22 i1 _ 1 24 Try.underlying33 (unhide HI1) (unhide HY0) (unhide HY1) (unhide HY2) rfl (by decide) _ _ xs rfl (unhide HXS) ⟨wa.heap.size + 1, 0, none⟩ 1 1 [.slice (some ⟨wa.heap.size, 0, none⟩) 2 2] rfl rfl (unhide HNA) (one_at rfl) (by unfold maxLen; omega) (by omega) (by first | omega | (simp; omega)) ?_)
              intro v5 w5 hown5 hg5 _ hat5
              have HF : Hid (isTk w5 w.heap.size v5 (P2 ++ two rest (a + 1 - 1)) ∧ Below w.heap.size w w5) := hide (by
                obtain ⟨h1, h2⟩ := unhide HPU v5 w5 hown5 hg5 (by simpa using hat5)
                rw [unhide HZZ]; exact ⟨h1, (unhide HBA).trans h2⟩)
              clear hown5 hg5 hat5
              go_wp2
              go_roundw
              case rel => exact ⟨a + 1, by omega, by omega, by go_num, (unhide HF).1, (unhide HF).2⟩
              case measure => simp only [intOf]; omega
            · have hltai : ¬ (a : Int) ≤ (H : Int) := by omega
              have hae : a - 1 = H := by omega
              rw [hae] at htk
              have HF : Hid (isTk wa w.heap.size u5 (tkTo D n (k + 1 - 1))) := hide (by rw [Nat.add_sub_cancel, unhide HSU2]; exact htk)
              have HB := hide hb
              clear htk hb hae
              go_wp2
              go_roundw
              case rel => exact ⟨k + 1, by omega, by omega, by go_num, unhide HF, unhide HB⟩
              case measure => simp only [intOf]; omega
    · have hlti : ¬ (k : Int) ≤ (dl : Int) := by omega
      have hin : i = m := by omega
      have HE : Hid (isTk wk w.heap.size u5 (tkTo D n m)) := hide (by rw [← hin]; exact htk)
      obtain ⟨uo, uc, hv⟩ := row_len htk.len
      subst hv
      have HB := hide hb
      clear htk hb hi hin
      go_wp2
      go_ret
      exact ⟨unhide HB, _, rfl, unhide HE⟩
end Go.Proofs.Ytphnjedoghopcaa
