/-
  The document's answer on rules (package gameref), walked: Rules.
-/
import Derived.Test.YtihojhfpepbjhaaGreatDoorJ25
namespace Go.Proofs.YtihojhfpepbjhaaGreatDoor
open Go.RowKit
attribute [local go_sem ↓] Go.wp_at_zero Go.wp_at_succ

theorem cap_low (c : Nat) (h : capB (c : Int) = true) : lowN c = c := by
  unfold capB at h
  simp only [Bool.and_eq_true, decide_eq_true_eq] at h
  rw [lowN, if_neg (by omega)]
theorem up_low : ∀ c : Nat, c < 256 → cellB (c : Int) = true → c ≠ 46 → (upN c = lowN c ∧ capB (upN c : Nat) = true) := by decide +kernel
theorem low_cap256 : ∀ c : Nat, c < 256 → capB (c : Int) = true → c ≠ 46 := by decide +kernel
/-- All letters of a right position. -/
theorem letters_all (ps : List Pc) (hps : psB ps = true) (W H : Int) (C : List UInt8) (T : Int) (A B : List UInt8) (hp : posB W H C T A B = true) : allL (lettersS ps) C A B = (C ++ A ++ B).all (hasP ps) := by
  simp only [posB, Bool.and_eq_true, handB] at hp
  obtain ⟨⟨⟨⟨-, -, hc⟩, -⟩, -, ha⟩, -, hb⟩ := hp
  have hcell : ∀ c ∈ C, cellL (lettersS ps) c = hasP ps c := by
    intro c hcm
    have hcb : cellB (c.toNat : Nat) = true := List.all_eq_true.1 hc c hcm
    unfold cellL hasP
    by_cases h46 : c.toNat = 46
    · simp [h46]
    · obtain ⟨e1, e2⟩ := up_low c.toNat c.toNat_lt hcb h46
      rw [letter_of ps hps _ e2, e1]
  have hcaps : ∀ (l : List UInt8) (m : Int), capsB m l = true → ∀ c ∈ l, handL (lettersS ps) c = hasP ps c := by
    intro l
    induction l with
    | nil => intro m _ c hcm; cases hcm
    | cons x t ih =>
      intro m hm c hcm
      rw [capsB, Bool.and_eq_true, Bool.and_eq_true] at hm
      rcases List.mem_cons.1 hcm with rfl | hcm
      · unfold handL hasP
        have h46 := low_cap256 c.toNat c.toNat_lt hm.1.1
        rw [letter_of ps hps _ hm.1.1, cap_low _ hm.1.1]
        simp [h46]
      · exact ih _ hm.2 c hcm
  have hall : ∀ (l : List UInt8) (f : UInt8 → Bool), (∀ c ∈ l, f c = hasP ps c) → l.all f = l.all (hasP ps) := by
    intro l f hf
    induction l with
    | nil => rfl
    | cons x t ih => rw [List.all_cons, List.all_cons, hf x (by simp), ih fun c hcm => hf c (List.mem_cons_of_mem _ hcm)]
  unfold allL
  rw [hall C _ hcell, hall A _ (hcaps A _ ha), hall B _ (hcaps B _ hb), List.all_append, List.all_append]
theorem zero_of (ps : List Pc) (hps : psB ps = true) (c : Nat) : hasZ (lettersS ps) c = (decide (c = 0) || (capB (c : Int) && decide (0 ≤ idxF ps (lowN c) 0))) := by
  unfold hasZ
  cases hc : capB (c : Int) with
  | true => rw [letter_of ps hps c hc, cap_low c hc]; simp
  | false => simp [hasL, hc]
theorem way_ok (z : Wy) : z.ok = true ↔ (1 ≤ z.k ∧ z.k ≤ 3 ∧ 0 ≤ z.x ∧ z.x ≤ 7 ∧ 0 ≤ z.y ∧ z.y ≤ 7 ∧ ¬ (z.x = 0 ∧ z.y = 0) ∧ ¬ (z.k < 3 ∧ z.y < z.x) ∧ 0 ≤ z.t ∧ z.t ≤ 2) := by
  simp only [Wy.ok, inB, Bool.and_eq_true, Bool.or_eq_true, Bool.not_eq_true', Bool.and_eq_false_iff, decide_eq_true_eq, decide_eq_false_iff_not]
  omega
theorem ltBlk {w : World} {g : Nat} {o : Obj} (h : w.heap[g]? = some o) : g < w.heap.size := by
  rcases Nat.lt_or_ge g w.heap.size with hlt | hge
  · exact hlt
  · rw [Array.getElem?_eq_none hge] at h; cases h
theorem pairU0 (a b : Int) (w : World) : (Instr.index 87 (.agg #[.int .u8 a, .int .u8 b]) (.int .i64 0)).run Tryz.prog w = .ok (.int .u8 a) w := by kernel_rfl
theorem pairU1 (a b : Int) (w : World) : (Instr.index 87 (.agg #[.int .u8 a, .int .u8 b]) (.int .i64 1)).run Tryz.prog w = .ok (.int .u8 b) w := by kernel_rfl

set_option maxHeartbeats 4000000 in
set_option maxRecDepth 100000 in
theorem gRules_any (W H T : Int) (C A B : ByteArray) (ao : Option Addr) (cap : Nat) (ps : List Pc) (dr st : Bool) (lo re : Nat) (li pl : Int) (w : World) (hA : A.size ≤ maxLen) (hB : B.size ≤ maxLen) (hlo : lo < 256) (hre : re < 256) (h : isPcs w ao cap ps) :
    Calls Tryz.prog 9 #[.agg #[.int .i64 W, .int .i64 H, .string C, .int .i64 T, .string A, .string B, .slice ao ps.length cap, .bool dr, .int .u8 (lo : Int), .int .i64 li, .int .u8 (re : Int), .bool st, .int .i64 pl]] w fun e w' => e = .returned (.bool (rulesB W H C.data.toList T A.data.toList B.data.toList ps lo li re pl)) ∧ Below w.heap.size w w' := by
  obtain ⟨R, hR⟩ : ∃ R, R = rulesB W H C.data.toList T A.data.toList B.data.toList ps lo li re pl := ⟨_, rfl⟩
  rw [← hR]
  have hle := h.le
  have hmx := h.mx
  unfold maxLen at hmx
  obtain ⟨n, hn⟩ : ∃ n, n = ps.length := ⟨_, rfl⟩
  rw [← hn] at hle ⊢
  have hbox := isRu.fresh (w := w) (v0 := .int .i64 W) (v1 := .int .i64 H) (v2 := .string C) (v3 := .int .i64 T) (v4 := .string A) (v5 := .string B) (v6 := .slice ao n cap) (v7 := .bool dr) (v8 := .int .u8 (lo : Int)) (v9 := .int .i64 li) (v10 := .int .u8 (re : Int)) (v11 := .bool st) (v12 := .int .i64 pl) (Below.refl _ _)
  have hba : Below w.heap.size w (w.alloc (.cells #[.int .i64 W, .int .i64 H, .string C, .int .i64 T, .string A, .string B, .slice ao n cap, .bool dr, .int .u8 (lo : Int), .int .i64 li, .int .u8 (re : Int), .bool st, .int .i64 pl] 27 (0, 0))) := (Below.refl _ w).alloc (Nat.le_refl _) _
  have HPO := hide (fun u => refPosition_any W H T C A B u hA hB)
  have HN := hide hn
  have HP := hide h
  have HR := hide hR
  clear hn h hR hA hB
  go_enter Tryz.func9, Tryz.ntmps9
  go_wp2_with fail
  refine (unhide HPO _).mono ?_
  rintro e w1 ⟨rfl, hb1⟩
  have hr1 := hbox.below hb1 hbox.lt
  have hw1 : Below w.heap.size w w1 := hba.trans (hb1.mono hba.size)
  have hg1 : w.heap.size < w1.heap.size := hr1.lt
  obtain ⟨d0, d1, d2, d3, d4, d5, d6, d7, d8, d9, d10, d11, d12⟩ := hr1.cells
  clear HPO hbox hba hb1
  cases hpos : posB W H C.data.toList T A.data.toList B.data.toList with
  | false =>
    have hF : R = false := by rw [unhide HR, rulesB, hpos]; simp
    have HF := hide hF
    clear hF hpos
    go_wp2
    go_ret
    exact ⟨ret_bool (unhide HF).symm, hw1⟩
  | true =>
  by_cases hgood : 1 ≤ (n : Int) ∧ (n : Int) ≤ 10 ∧ 1 ≤ pl ∧ pl ≤ 1000 ∧ 0 ≤ li ∧ li ≠ 1 ∧ li ≤ 8
  case neg =>
    have hF : R = false := by
      cases hRt : R with
      | false => rfl
      | true =>
        exfalso
        apply hgood
        have := (unhide HR).symm.trans hRt
        simp only [rulesB, psB, inB, Bool.and_eq_true, Bool.or_eq_true, decide_eq_true_eq] at this
        rw [← unhide HN] at this
        omega
    have HF := hide hF
    have HG := hide hgood
    clear hF hpos hgood
    go_wp2
    all_goals first
      | (go_ret; exact ⟨ret_bool (unhide HF).symm, hw1⟩)
      | (exfalso; apply unhide HG; omega)
  case pos =>
    obtain ⟨g1, g2, g3, g4, g5, g6, g7⟩ := hgood
    have i1 : ¬ (n : Int) < 1 := by omega
    have i2 : ¬ (10 : Int) < (n : Int) := by omega
    have i3 : ¬ pl < 1 := by omega
    have i4 : ¬ 1000 < pl := by omega
    have i5 : ¬ li < 0 := by omega
    have i6 : ¬ li = 1 := g6
    have i6b : (li == 1) = false := by simp [g6]
    have i7 : ¬ 8 < li := by omega
    have HPOS := hide hpos
    have HG : Hid (1 ≤ (n : Int) ∧ (n : Int) ≤ 10 ∧ 1 ≤ pl ∧ pl ≤ 1000 ∧ 0 ≤ li ∧ li ≠ 1 ∧ li ≤ 8) := hide ⟨g1, g2, g3, g4, g5, g6, g7⟩
    clear g1 g2 g3 g4 g5 g6 g7 hpos
    go_wp2
    clear d0 d1 d2 d3 d4 d5 d6 d7 d8 d9 d10 d11 d12 i1 i2 i3 i4 i5 i6 i6b i7
    have HR1 := hide hr1
    have HW1 := hide hw1
    have HG1 := hide hg1
    have hRps : psB ps = false → R = false := fun e => by rw [unhide HR, rulesB, e]; rfl
    have hbad : ∀ (k : Nat) (p : Pc), ps[k]? = some p → (¬ (pcB p.l p.v p.ws = true ∧ idxF ps p.l 0 = (k : Int))) → R = false := fun k p hp hno => by
      apply hRps
      cases hh : okP 0 ps with
      | false => simp [psB, hh]
      | true => exact absurd ((okP_zero ps).1 hh k p hp) hno
    have HBAD := hide hbad
    clear hr1 hw1 hg1 hRps hbad
    go_loopw [3] (fun iv wr => ∃ k : Nat, k ≤ n ∧ iv = .int .i64 (k : Int) ∧ Hid (∀ j p, j < k → ps[j]? = some p → pcB p.l p.v p.ws = true ∧ idxF ps p.l 0 = (j : Int)) ∧ Below w1.heap.size w1 wr) (fun iv _ => n - (intOf iv).toNat)
    case atStart => exact ⟨0, Nat.zero_le _, rfl, hide (fun j p hj => absurd hj (Nat.not_lt_zero _)), Below.refl _ _⟩
    case round =>
      obtain ⟨k, hk, rfl, HK, hbr⟩ := hrel
      obtain ⟨wo, hwo⟩ : ∃ wo, wo = wr := ⟨_, rfl⟩
      subst hwo
      have hro := (unhide HR1).below hbr (unhide HG1)
      have hszo := hbr.size
      have hwo : Below w.heap.size w wo := (unhide HW1).trans (hbr.mono (Nat.le_of_lt (unhide HG1)))
      obtain ⟨d0, d1, d2, d3, d4, d5, d6, d7, d8, d9, d10, d11, d12⟩ := hro.cells
      have hgo : w.heap.size < wo.heap.size := hro.lt
      by_cases hkl : k < n
      · have hki : (k : Int) < (n : Int) := by omega
        have hk0 : (0 : Int) ≤ (k : Int) := by omega
        have hkw : k < ps.length := by rw [← unhide HN]; exact hkl
        obtain ⟨p, hp⟩ : ∃ p, ps[k]? = some p := ⟨ps[k], List.getElem?_eq_getElem hkw⟩
        obtain ⟨g, off, eg, hg, hcc⟩ := (unhide HP).cells (by rintro rfl; simp at hkw)
        subst eg
        obtain ⟨hl, xo, xc, a0, a1, a2, hws⟩ := hcc k p hp
        have a0 := (hwo.cell (p := ⟨g, off + k * 3, none⟩) hg).trans a0
        have a1 := (hwo.cell (p := ⟨g, off + k * 3 + 1, none⟩) hg).trans a1
        have a2 := (hwo.cell (p := ⟨g, off + k * 3 + 2, none⟩) hg).trans a2
        have hwle := hws.le
        have hwmx := hws.mx
        unfold maxLen at hwmx
        have HWS := hide hws
        have HBK := hide (unhide HBAD k p hp)
        have hpo : isPcs wo (some ⟨g, off, none⟩) cap ps := (unhide HP).below hwo (Nat.le_refl _)
        have hza : Below wo.heap.size wo wo := Below.refl _ _
        have e0 := fun o => ((hza.alloc (Nat.le_refl _) o).cell (p := ⟨w.heap.size, 0, none⟩) hgo).trans d0
        have e1 := fun o => ((hza.alloc (Nat.le_refl _) o).cell (p := ⟨w.heap.size, 1, none⟩) hgo).trans d1
        have e2 := fun o => ((hza.alloc (Nat.le_refl _) o).cell (p := ⟨w.heap.size, 2, none⟩) hgo).trans d2
        have e3 := fun o => ((hza.alloc (Nat.le_refl _) o).cell (p := ⟨w.heap.size, 3, none⟩) hgo).trans d3
        have e4 := fun o => ((hza.alloc (Nat.le_refl _) o).cell (p := ⟨w.heap.size, 4, none⟩) hgo).trans d4
        have e5 := fun o => ((hza.alloc (Nat.le_refl _) o).cell (p := ⟨w.heap.size, 5, none⟩) hgo).trans d5
        have e6 := fun o => ((hza.alloc (Nat.le_refl _) o).cell (p := ⟨w.heap.size, 6, none⟩) hgo).trans d6
        have e7 := fun o => ((hza.alloc (Nat.le_refl _) o).cell (p := ⟨w.heap.size, 7, none⟩) hgo).trans d7
        have e8 := fun o => ((hza.alloc (Nat.le_refl _) o).cell (p := ⟨w.heap.size, 8, none⟩) hgo).trans d8
        have e9 := fun o => ((hza.alloc (Nat.le_refl _) o).cell (p := ⟨w.heap.size, 9, none⟩) hgo).trans d9
        have e10 := fun o => ((hza.alloc (Nat.le_refl _) o).cell (p := ⟨w.heap.size, 10, none⟩) hgo).trans d10
        have e11 := fun o => ((hza.alloc (Nat.le_refl _) o).cell (p := ⟨w.heap.size, 11, none⟩) hgo).trans d11
        have e12 := fun o => ((hza.alloc (Nat.le_refl _) o).cell (p := ⟨w.heap.size, 12, none⟩) hgo).trans d12
        have HPO2 := hide (fun o => gPiece_any W H T C A B (some ⟨g, off, none⟩) cap ps dr st lo re li pl p.l (wo.alloc o) hl (hpo.below ((Below.refl _ wo).alloc (Nat.le_refl _) o) (Nat.le_refl _)))
        rw [← unhide HN] at HPO2
        have HCAPL := hide (cap_low p.l)
        have hbA := fun o => hwo.alloc (Nat.le_of_lt hgo) o
        have HP2 := hide hp
        clear hcc hws hpo hza hp
        go_wp2_with fail
        refine (Big_any _ _).mono ?_
        rintro e wx ⟨rfl, rfl⟩
        cases hcap : capB (p.l : Int) with
        | false =>
          have hF : R = false := unhide HBK (fun hh => by have := pcB_cap hh.1; rw [hcap] at this; cases this)
          have HF := hide hF
          clear hF hcap
          go_wp2
          go_ret
          exact ⟨ret_bool (unhide HF).symm, hbA _⟩
        | true =>
          have hlow := unhide HCAPL hcap
          rw [hlow] at HPO2
          clear hlow HCAPL
          go_wp2_with fail
          refine (unhide HPO2 _).mono ?_
          rintro e w2 ⟨rfl, hb2⟩
          have hbo2 : Below wo.heap.size wo w2 := bel_on (Below.refl _ _) (Nat.le_refl _) hb2
          have hpx := heap_alloc_new wo (.cells #[.int .u8 (p.l : Int), .int .i64 p.v, .slice xo p.ws.length xc] 71 (0, 0))
          have hpx2 : w2.heap[wo.heap.size]? = some (.cells #[.int .u8 (p.l : Int), .int .i64 p.v, .slice xo p.ws.length xc] 71 (0, 0)) := by rw [hb2.block _ (by simp)]; exact hpx
          have y1 := cell_of_row _ _ 1 _ _ _ hpx2
          have y2 := cell_of_row _ _ 2 _ _ _ hpx2
          simp at y1 y2
          have hltp := ltBlk hpx2
          have hw2 : Below w.heap.size w w2 := hwo.trans (hbo2.mono (Nat.le_of_lt hgo))
          obtain ⟨I, hI⟩ : ∃ I, I = idxF ps p.l 0 := ⟨_, rfl⟩
          rw [← hI]
          have HI := hide hI
          clear hb2 hpx hpx2 HPO2 hbA e0 e1 e2 e3 e4 e5 e6 e7 e8 e9 e10 e11 e12 d0 d1 d2 d3 d4 d5 d6 d7 d8 d9 d10 d11 d12 a0 a1 a2 hI
          by_cases hIk : I = (k : Int)
          case neg =>
            have hF : R = false := unhide HBK (fun hh => hIk (by rw [unhide HI]; exact hh.2))
            have HF := hide hF
            have hIb : (I == (k : Int)) = false := by simp [hIk]
            clear hF
            go_wp2
            go_ret
            exact ⟨ret_bool (unhide HF).symm, hw2⟩
          case pos =>
            subst hIk
            by_cases hvw : 0 ≤ p.v ∧ p.v ≤ 100 ∧ (p.ws.length : Int) ≤ 8
            case neg =>
              have hF : R = false := unhide HBK (fun hh => by
                have := hh.1
                simp only [pcB, inB, Bool.and_eq_true, decide_eq_true_eq] at this
                omega)
              have HF := hide hF
              have HV := hide hvw
              clear hF hvw
              go_wp2
              all_goals first
                | (go_ret; exact ⟨ret_bool (unhide HF).symm, hw2⟩)
                | (exfalso; apply unhide HV; omega)
            case pos =>
              obtain ⟨v1, v2, v3⟩ := hvw
              have j1 : ¬ p.v < 0 := by omega
              have j2 : ¬ 100 < p.v := by omega
              have j3 : ¬ (8 : Int) < (p.ws.length : Int) := by omega
              have HV : Hid (inB p.v 0 100 = true ∧ p.ws.length ≤ 8) := hide ⟨by simp only [inB, Bool.and_eq_true, decide_eq_true_eq]; omega, by omega⟩
              have HCAP := hide hcap
              have HBO2 := hide hbo2
              have HW2 := hide hw2
              have HLTP := hide hltp
              have HY2 := hide y2
              clear v1 v2 v3 hcap hbo2 hw2 hltp
              go_wp2
              clear y1 y2 j1 j2 j3
              go_loopw [5] (fun jv wr => ∃ j : Nat, j ≤ p.ws.length ∧ jv = .int .i64 (j : Int) ∧ Hid ((p.ws.take j).all Wy.ok = true) ∧ Below w2.heap.size w2 wr) (fun jv _ => p.ws.length - (intOf jv).toNat)
              case atStart => exact ⟨0, Nat.zero_le _, rfl, hide rfl, Below.refl _ _⟩
              case round =>
                obtain ⟨j, hj, rfl, HJ, hbj⟩ := hrel
                have hszj := hbj.size
                have y2 := (hbj.cell (p := ⟨wo.heap.size, 2, none⟩) (unhide HLTP)).trans (unhide HY2)
                have hwj : Below w.heap.size w wr := (unhide HW2).trans (hbj.mono (unhide HW2).size)
                by_cases hjl : j < p.ws.length
                · have hji : (j : Int) < (p.ws.length : Int) := by omega
                  have hj0 : (0 : Int) ≤ (j : Int) := by omega
                  obtain ⟨z, hz⟩ : ∃ z, p.ws[j]? = some z := ⟨p.ws[j], List.getElem?_eq_getElem hjl⟩
                  obtain ⟨gx, ox, ex, hgx, hcx⟩ := (unhide HWS).cells (by intro e; rw [e] at hjl; simp at hjl)
                  obtain ⟨m0, m1, m2, m3⟩ := hcx j z hz
                  have m0 := (hwj.cell (p := ⟨gx, ox + j * 4, none⟩) hgx).trans m0
                  have m1 := (hwj.cell (p := ⟨gx, ox + j * 4 + 1, none⟩) hgx).trans m1
                  have m2 := (hwj.cell (p := ⟨gx, ox + j * 4 + 2, none⟩) hgx).trans m2
                  have m3 := (hwj.cell (p := ⟨gx, ox + j * 4 + 3, none⟩) hgx).trans m3
                  rw [ex] at y2
                  have HTS := hide (take_snocW p.ws j z hz)
                  have HZM : Hid (z ∈ p.ws) := hide (List.mem_of_getElem? hz)
                  have hbja := fun o => hbj.alloc hszj o
                  have hwja := fun o => hwj.alloc hwj.size o
                  clear hcx ex hz
                  cases hzo : z.ok with
                  | true =>
                    have HZ := hide ((way_ok z).1 hzo)
                    have HNEW : Hid ((p.ws.take (j + 1)).all Wy.ok = true) := hide (by rw [unhide HTS, List.all_append, unhide HJ]; simp [hzo])
                    clear hzo
                    go_wp2
                    all_goals (try (exfalso; have hz1 := unhide HZ; first | omega | (simp only [beq_iff_eq] at *; omega)))
                    all_goals go_roundw
                    all_goals first
                      | exact ⟨j + 1, by omega, by go_num, HNEW, hbja _⟩
                      | (refine ⟨j + 1, by omega, ?_, HNEW, hbja _⟩; first | rfl | (simp; done) | (simp; omega))
                      | (simp [intOf]; done)
                      | (simp [intOf]; omega)
                  | false =>
                    have HZ : Hid (¬ (1 ≤ z.k ∧ z.k ≤ 3 ∧ 0 ≤ z.x ∧ z.x ≤ 7 ∧ 0 ≤ z.y ∧ z.y ≤ 7 ∧ ¬ (z.x = 0 ∧ z.y = 0) ∧ ¬ (z.k < 3 ∧ z.y < z.x) ∧ 0 ≤ z.t ∧ z.t ≤ 2)) := hide (fun hh => by rw [(way_ok z).2 hh] at hzo; cases hzo)
                    have hF : R = false := unhide HBK (fun hh => by
                      have h1 := hh.1
                      simp only [pcB, Bool.and_eq_true] at h1
                      have := List.all_eq_true.1 h1.2 z (unhide HZM)
                      rw [hzo] at this; cases this)
                    have HF := hide hF
                    clear hF hzo
                    go_wp2
                    all_goals first
                      | (go_ret; exact ⟨ret_bool (unhide HF).symm, hwja _⟩)
                      | (exfalso; apply unhide HZ; first | omega | (simp only [beq_iff_eq] at *; omega))
                · have hji : ¬ (j : Int) < (p.ws.length : Int) := by omega
                  have HK2 : Hid (∀ i q, i < k + 1 → ps[i]? = some q → pcB q.l q.v q.ws = true ∧ idxF ps q.l 0 = (i : Int)) := by
                    refine hide fun i q hi hq => ?_
                    rcases Nat.lt_or_ge i k with h | h
                    · exact unhide HK i q h hq
                    · obtain rfl : i = k := by omega
                      have e : q = p := Option.some.inj (hq.symm.trans (unhide HP2))
                      subst e
                      have hall := unhide HJ
                      rw [List.take_of_length_le (by omega)] at hall
                      refine ⟨?_, (unhide HI).symm⟩
                      simp only [pcB, unhide HCAP, (unhide HV).1, hall, Bool.true_and, Bool.and_true, decide_eq_true_eq]
                      exact (unhide HV).2
                  have hfin : Below w1.heap.size w1 wr := hbr.trans (((unhide HBO2).trans (hbj.mono (unhide HBO2).size)).mono hszo)
                  clear hjl HJ HK
                  go_wp2
                  go_roundw
                  case rel => exact ⟨k + 1, by omega, by go_num, HK2, hfin⟩
                  case measure => simp [intOf]; omega
      · have hki : ¬ (k : Int) < (n : Int) := by omega
        have hps : psB ps = true := by
          have hok : okP 0 ps = true := (okP_zero ps).2 fun j q hq => unhide HK j q (by
            have := (List.getElem?_eq_some_iff.1 hq).1
            rw [← unhide HN] at this; omega) hq
          have := unhide HG
          simp only [psB, inB, hok, Bool.and_true, Bool.and_eq_true, decide_eq_true_eq]
          rw [← unhide HN]
          omega
        have HPS := hide hps
        have HZF0 : Hid (hasZ (lettersS ps) lo = false → R = false) := hide (fun e => by rw [unhide HR, rulesB, e]; simp)
        have HZF1 : Hid (hasZ (lettersS ps) re = false → R = false) := hide (fun e => by rw [unhide HR, rulesB, e]; simp)
        clear HK hkl hps
        have p0 := pairU0 (lo : Int) (re : Int)
        have p1 := pairU1 (lo : Int) (re : Int)
        go_wp2
        go_loopw [7] (fun iv wr => ∃ i : Nat, i ≤ 2 ∧ iv = .int .i64 (i : Int) ∧ (0 < i → Hid (hasZ (lettersS ps) lo = true)) ∧ (1 < i → Hid (hasZ (lettersS ps) re = true)) ∧ Below w1.heap.size w1 wr) (fun iv _ => 2 - (intOf iv).toNat)
        case atStart => exact ⟨0, by omega, rfl, by omega, by omega, hbr⟩
        case round =>
          obtain ⟨i, hi, rfl, HKA, HKB, hbi⟩ := hrel
          obtain ⟨wi, hwi0⟩ : ∃ wi, wi = wr := ⟨_, rfl⟩
          subst hwi0
          clear d0 d1 d2 d3 d4 d5 d6 d7 d8 d9 d10 d11 d12
          have hri := (unhide HR1).below hbi (unhide HG1)
          obtain ⟨d0, d1, d2, d3, d4, d5, d6, d7, d8, d9, d10, d11, d12⟩ := hri.cells
          have hwi : Below w.heap.size w wi := (unhide HW1).trans (hbi.mono (Nat.le_of_lt (unhide HG1)))
          match i, hi, HKA, HKB with
          | 0, _, HKA, HKB =>
          clear HKA HKB
          rw [show ((0 : Nat) : Int) = 0 from rfl]
          have hzC : hasZ (lettersS ps) lo = (decide (lo = 0) || (capB (lo : Int) && decide (0 ≤ idxF ps (lowN lo) 0))) := zero_of ps (unhide HPS) lo
          by_cases hc0 : lo = 0
          · have HZ1 : Hid (hasZ (lettersS ps) lo = true) := hide (by rw [hzC]; simp [hc0])
            clear hzC
            subst hc0
            have p0' := pairU0 0 (re : Int)
            clear p0 p1
            go_wp2
            go_roundw
            case rel => exact ⟨1, by omega, rfl, fun _ => HZ1, by omega, hbi⟩
            case measure => simp [intOf]
          · have hci : ¬ (lo : Int) = 0 := by omega
            have hcb : ((lo : Int) == 0) = false := by simp; omega
            have HZC := hide hzC
            clear hzC
            go_wp2_with fail
            refine (Big_any _ _).mono ?_
            rintro e wi ⟨rfl, rfl⟩
            cases hcap : capB (lo : Int) with
            | false =>
              have hF : R = false := unhide HZF0 (by rw [unhide HZC, hcap]; simp [hc0])
              have HF := hide hF
              clear hF hcap
              go_wp2
              go_ret
              exact ⟨ret_bool (unhide HF).symm, hwi⟩
            | true =>
              obtain ⟨I, hI⟩ : ∃ I, I = idxF ps (lowN lo) 0 := ⟨_, rfl⟩
              have HPI := hide (gPiece_any W H T C A B ao cap ps dr st lo re li pl lo wi hlo ((unhide HP).below hwi (Nat.le_refl _)))
              rw [← hI, ← unhide HN] at HPI
              go_wp2_with fail
              refine (unhide HPI).mono ?_
              rintro e w3 ⟨rfl, hb3⟩
              have hwi3 : Below w.heap.size w w3 := hwi.trans (hb3.mono hwi.size)
              have hbi3 : Below w1.heap.size w1 w3 := hbi.trans (hb3.mono hbi.size)
              by_cases hI0 : I < 0
              · have hF : R = false := unhide HZF0 (by rw [unhide HZC, ← hI]; simp [hc0]; omega)
                have HF := hide hF
                clear hF hI HPI hb3
                go_wp2
                go_ret
                exact ⟨ret_bool (unhide HF).symm, hwi3⟩
              · have HZ1 : Hid (hasZ (lettersS ps) lo = true) := hide (by rw [unhide HZC, ← hI, hcap]; simp; omega)
                clear hI HPI hb3 hcap hbi hwi
                go_wp2
                go_roundw
                case rel => exact ⟨1, by omega, rfl, fun _ => HZ1, by omega, hbi3⟩
                case measure => simp [intOf]
          | 1, _, HKA, HKB =>
          have HKA0 := hide (HKA (by omega))
          clear HKA HKB
          rw [show ((1 : Nat) : Int) = 1 from rfl]
          have hzC : hasZ (lettersS ps) re = (decide (re = 0) || (capB (re : Int) && decide (0 ≤ idxF ps (lowN re) 0))) := zero_of ps (unhide HPS) re
          by_cases hc0 : re = 0
          · have HZ1 : Hid (hasZ (lettersS ps) re = true) := hide (by rw [hzC]; simp [hc0])
            clear hzC
            subst hc0
            have p1' := pairU1 (lo : Int) 0
            clear p0 p1
            go_wp2
            go_roundw
            case rel => exact ⟨2, by omega, rfl, fun _ => unhide HKA0, fun _ => HZ1, hbi⟩
            case measure => simp [intOf]
          · have hci : ¬ (re : Int) = 0 := by omega
            have hcb : ((re : Int) == 0) = false := by simp; omega
            have HZC := hide hzC
            clear hzC
            go_wp2_with fail
            refine (Big_any _ _).mono ?_
            rintro e wi ⟨rfl, rfl⟩
            cases hcap : capB (re : Int) with
            | false =>
              have hF : R = false := unhide HZF1 (by rw [unhide HZC, hcap]; simp [hc0])
              have HF := hide hF
              clear hF hcap
              go_wp2
              go_ret
              exact ⟨ret_bool (unhide HF).symm, hwi⟩
            | true =>
              obtain ⟨I, hI⟩ : ∃ I, I = idxF ps (lowN re) 0 := ⟨_, rfl⟩
              have HPI := hide (gPiece_any W H T C A B ao cap ps dr st lo re li pl re wi hre ((unhide HP).below hwi (Nat.le_refl _)))
              rw [← hI, ← unhide HN] at HPI
              go_wp2_with fail
              refine (unhide HPI).mono ?_
              rintro e w3 ⟨rfl, hb3⟩
              have hwi3 : Below w.heap.size w w3 := hwi.trans (hb3.mono hwi.size)
              have hbi3 : Below w1.heap.size w1 w3 := hbi.trans (hb3.mono hbi.size)
              by_cases hI0 : I < 0
              · have hF : R = false := unhide HZF1 (by rw [unhide HZC, ← hI]; simp [hc0]; omega)
                have HF := hide hF
                clear hF hI HPI hb3
                go_wp2
                go_ret
                exact ⟨ret_bool (unhide HF).symm, hwi3⟩
              · have HZ1 : Hid (hasZ (lettersS ps) re = true) := hide (by rw [unhide HZC, ← hI, hcap]; simp; omega)
                clear hI HPI hb3 hcap hbi hwi
                go_wp2
                go_roundw
                case rel => exact ⟨2, by omega, rfl, fun _ => unhide HKA0, fun _ => HZ1, hbi3⟩
                case measure => simp [intOf]
          | 2, _, HKA, HKB =>
          have hposx := unhide HPOS
          obtain ⟨W', H', -, -, q⟩ := isPos_of hposx
          have z1 := q.c64
          have z2 := q.as
          have z3 := q.bs
          obtain ⟨S1, h1⟩ : ∃ S1, C ++ A = S1 := ⟨_, rfl⟩
          obtain ⟨S2, h2⟩ : ∃ S2, S1 ++ B = S2 := ⟨_, rfl⟩
          have zs1 : S1.size ≤ 72 := by rw [← h1, ByteArray.size_append]; omega
          have zs2 : S2.size ≤ 80 := by rw [← h2, ByteArray.size_append]; omega
          have q1 : C.size + A.size ≤ 9223372036854775807 := by omega
          have q2 : S1.size + B.size ≤ 9223372036854775807 := by omega
          have hfinal : R = S2.data.toList.all (hasP ps) := by
            have hg := unhide HG
            have hli : (decide (li = 0) || inB li 2 8) = true := by simp only [inB, Bool.or_eq_true, Bool.and_eq_true, decide_eq_true_eq]; omega
            have hpl : inB pl 1 1000 = true := by simp only [inB, Bool.and_eq_true, decide_eq_true_eq]; omega
            rw [unhide HR, rulesB, unhide HPS, hposx, unhide (HKA (by omega)), unhide (HKB (by omega)), hli, hpl, letters_all ps (unhide HPS) W H _ T _ _ hposx, ← h2, ← h1]
            simp [ByteArray.data_append]
          have HLT := hide (gLetters_any W H T C A B ao cap ps dr st lo re li pl S2 wi (by omega) ((unhide HP).below hwi (Nat.le_refl _)))
          obtain ⟨LL, hLL⟩ : ∃ LL, LL = S2.data.toList.all (hasP ps) := ⟨_, rfl⟩
          rw [← unhide HN, ← hLL] at HLT
          rw [← hLL] at hfinal
          have HFIN := hide hfinal
          clear hfinal hposx HKA HKB q zs1 zs2 hLL
          rw [show ((2 : Nat) : Int) = 2 from rfl]
          go_wp2_with fail
          refine (unhide HLT).mono ?_
          rintro e w5 ⟨rfl, hb5⟩
          have hw5 : Below w.heap.size w w5 := hwi.trans (hb5.mono hwi.size)
          clear hb5 HLT
          go_wp2
          go_ret
          exact ⟨ret_bool (unhide HFIN).symm, hw5⟩
end Go.Proofs.YtihojhfpepbjhaaGreatDoor
