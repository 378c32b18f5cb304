/-
  package house, walked: take.
  package house, walked: Take, Save.
-/
import Derived.Test.YtihojhfpepbjhaaGreatDoorHo6
import Derived.Test.YtihojhfpepbjhaaGreatDoorJ0
namespace Go.Proofs.YtihojhfpepbjhaaGreatDoor
open Go.RowKit
attribute [local go_sem ↓] Go.wp_at_zero Go.wp_at_succ

/-- What is known of moves and board, where a house's rules lie. -/
structure Hc (G : Gm) (ok : Po → Prop) (TX : Po → ByteArray) (S : Nat) (w00 : World) (v0 v1 v2 v3 v4 v5 v6 v7 v8 v9 v10 v11 : Value) : Prop where
  O : ∀ p, ok p → ∀ u, Below S w00 u → Calls Tryz.prog 60 #[.agg #[v0, v1, v2, v3, v4, v5, v6, v7, v8, v9, v10, v11, .int .i64 G.pl], .agg #[.int .i64 p.W, .int .i64 p.H, .string p.C, .int .i64 p.T, .string p.A, .string p.B]] u fun e u' => e = .returned (.tuple #[.int .i64 (G.O p), .int .i64 0]) ∧ Below u.heap.size u u'
  R0 : ∀ p, ok p → ∀ s, G.find p s = none → ∀ u, Below S w00 u → Calls Tryz.prog 104 #[.agg #[v0, v1, v2, v3, v4, v5, v6, v7, v8, v9, v10, v11, .int .i64 G.pl], .agg #[.int .i64 p.W, .int .i64 p.H, .string p.C, .int .i64 p.T, .string p.A, .string p.B], .string s] u fun e u' => e = .returned (.tuple #[.agg #[.int .i64 0, .int .i64 0, .int .u8 0], .int .i64 5]) ∧ Below u.heap.size u u'
  R1 : ∀ p, ok p → ∀ s m, G.find p s = some m → ∀ u, Below S w00 u → Calls Tryz.prog 104 #[.agg #[v0, v1, v2, v3, v4, v5, v6, v7, v8, v9, v10, v11, .int .i64 G.pl], .agg #[.int .i64 p.W, .int .i64 p.H, .string p.C, .int .i64 p.T, .string p.A, .string p.B], .string s] u fun e u' => e = .returned (.tuple #[.agg #[.int .i64 m.f, .int .i64 (m.t : Int), .int .u8 (m.c : Int)], .int .i64 0]) ∧ Below u.heap.size u u'
  A : ∀ p, ok p → ∀ m ∈ G.L p, ∀ u, Below S w00 u → Calls Tryz.prog 105 #[.agg #[v0, v1, v2, v3, v4, v5, v6, v7, v8, v9, v10, v11, .int .i64 G.pl], .agg #[.int .i64 p.W, .int .i64 p.H, .string p.C, .int .i64 p.T, .string p.A, .string p.B], .agg #[.int .i64 m.f, .int .i64 (m.t : Int), .int .u8 (m.c : Int)]] u fun e u' => e = .returned (.tuple #[.agg #[.int .i64 (G.beh p m).W, .int .i64 (G.beh p m).H, .string (G.beh p m).C, .int .i64 (G.beh p m).T, .string (G.beh p m).A, .string (G.beh p m).B], .int .i64 0]) ∧ Below u.heap.size u u'
  W : ∀ p, ok p → ∀ u, Calls Tryz.prog 37 #[.agg #[.int .i64 p.W, .int .i64 p.H, .string p.C, .int .i64 p.T, .string p.A, .string p.B]] u fun e u' => e = .returned (.tuple #[.string (TX p), .int .i64 0]) ∧ Below u.heap.size u u'
  tab : ∀ u, Below S w00 u → isTab u
theorem entGoOn : ∀ args (u : World), (callFunc 65 args).run Tryz.prog u = .ok (.enter 65 args) u := enters_of Tryz.func65 (by kernel_rfl) rfl
theorem ended_said {G : Gm} (x : Ho) (h : x.flag = 0) : G.ended x = G.said x.p x.ply := by
  unfold Gm.ended Gm.said
  rw [h, if_neg (by omega)]
theorem ended_over {G : Gm} (x : Ho) (h : 0 < x.flag) : G.ended x = x.flag := by unfold Gm.ended; rw [if_pos h]
theorem ended_go {G : Gm} (x : Ho) (a : Int) : G.ended (x.go a) = G.ended x := by unfold Gm.ended; rw [Ho.go_p, Ho.go_flag, Ho.go_ply]
set_option maxHeartbeats 8000000 in
set_option maxRecDepth 100000 in
theorem hTk_any (G : Gm) (ok : Po → Prop) (hG : G.Ok ok) (TX : Po → ByteArray) (b S : Nat) (v0 v1 v2 v3 v4 v5 v6 v7 v8 v9 v10 v11 : Value) (w00 w : World) (hc : Hc G ok TX S w00 v0 v1 v2 v3 v4 v5 v6 v7 v8 v9 v10 v11) (x : Ho) (m : Ms) (hx : HoI G ok x) (hma : m.at_ < 9223372036854775808) (h : isHo w b v0 v1 v2 v3 v4 v5 v6 v7 v8 v9 v10 v11 (.int .i64 G.pl) x (G.ended x)) (hS : S ≤ b) (h00 : Below S w00 w) :
    Calls Tryz.prog 36 #[.pointer (some ⟨b, 0, none⟩), .agg #[.int .i64 m.seat, .int .i64 m.ply, .string m.mv, .int .i64 m.at_]] w fun e w' => e = .returned (.int .i64 (G.step x m).2) ∧ isHo w' b v0 v1 v2 v3 v4 v5 v6 v7 v8 v9 v10 v11 (.int .i64 G.pl) (G.step x m).1 (G.ended (G.step x m).1) ∧ Ex b w.heap.size w w' := by
  obtain ⟨R, hR⟩ : ∃ R, R = G.step x m := ⟨_, rfl⟩
  rw [← hR]
  have HR := hide hR
  have hbl := isH.lt h
  obtain ⟨w1, hw1⟩ : ∃ w1, w1 = w.alloc (.cells #[.int .i64 m.seat, .int .i64 m.ply, .string m.mv, .int .i64 m.at_] 43 (0, 0)) := ⟨_, rfl⟩
  have hb1 : Below w.heap.size w w1 := by rw [hw1]; exact (Below.refl _ _).alloc (Nat.le_refl _) _
  have h1 : isHo w1 b v0 v1 v2 v3 v4 v5 v6 v7 v8 v9 v10 v11 (.int .i64 G.pl) x (G.ended x) := isH.below h hb1 hbl
  have hg1 : isG w1 w.heap.size m := by rw [hw1]; exact isG.new w m
  have HC := hide hc
  have HGG := hide hG
  have HX := hide hx
  have H1 := hide h1
  have HG1 := hide hg1
  have HB1 := hide hb1
  have HBL := hide hbl
  have HSS := hide hS
  have HW1 := hide hw1
  have H01 : Hid (Below S w00 w1) := hide (h00.trans (hb1.mono (by omega)))
  clear hR hc hG hx h1 hg1 hb1 hbl hS hw1 h00 h
  obtain ⟨o, hoe⟩ : ∃ o, o = G.ended x := ⟨_, rfl⟩
  rw [← hoe] at H1
  have HOE := hide hoe
  clear hoe
  go_enter Tryz.func36, Tryz.ntmps36
  go_upto_region 1 with fail
  rw [← unhide HW1]
  clear HW1
  go_wp2_with fail
  refine (isOver_any b v0 v1 v2 v3 v4 v5 v6 v7 v8 v9 v10 v11 _ x o w1 (unhide H1)).mono ?_
  rintro e u ⟨rfl, hu⟩
  rw [hu]
  clear hu
  by_cases hov : o = 0
  case neg =>
    rw [show (!(o == 0)) = true by simp [hov]]
    have hRR : R = (x, 5) := by
      rw [unhide HR]
      unfold Gm.step
      rw [if_pos (by rw [← unhide HOE]; exact hov)]
    go_wp2
    go_ret
    rw [hRR]
    rw [unhide HOE] at H1
    exact ⟨rfl, unhide H1, Ex.of (unhide HB1)⟩
  case pos =>
    rw [show (!(o == 0)) = false by simp [hov]]
    have hen : G.ended x = 0 := by rw [← unhide HOE]; exact hov
    have hfl := ended_flag hen (unhide HX).flag.1
    have hlive := (unhide HX).live hfl
    have hT := (unhide HGG).t _ (unhide HX).p
    have hmore := ended_more (unhide HX) hen
    have HGO := hide (goOn_any b v0 v1 v2 v3 v4 v5 v6 v7 v8 v9 v10 v11 (.int .i64 G.pl) x o m.at_)
    have HEN := hide hen
    have HFL := hide hfl
    have HT := hide hT
    have HMO := hide hmore
    have HLV := hide hlive
    have hMA := hide hma
    have p3 := (isH.cells (unhide H1)).2.2.1.2.2.2.1
    clear hen hfl hlive hT hmore HOE hma
    have HOV := hide hov
    clear hov
    go_upto_region 4 with fail
    clear p3
    refine wp_region_v [6] (fun u => u.cell? ⟨w.heap.size, 3, none⟩ = some (.int .i64 m.at_)) (by kernel_rfl) ?_
    have hHeld : (fun u => u.cell? ⟨w.heap.size, 3, none⟩ = some (.int .i64 m.at_)) w1.drew := (unhide HG1).cells.2.2.2
    obtain ⟨wd, hwd⟩ : ∃ wd, wd = w1.drew := ⟨_, rfl⟩
    have hbd : Below w1.heap.size w1 wd := by rw [hwd]; exact (Below.refl _ _).drew
    rw [← hwd] at hHeld ⊢
    clear hwd
    refine wpAnyV_tk (i := 0) (oi := _) (v := ?_) rfl (by kernel_rfl) (by kernel_rfl) (by kernel_rfl) (by kernel_rfl) (fun _ _ _ h => h) (Or.inl ⟨by rfl, ?_⟩) (by assumption) ?_
    rotate_left 1
    · (intro u hSu; (try dsimp only at hSu); go_simp; first | done | with_reducible rfl | rfl)
    simp only [Act.put, List.getElem_toArray, List.getElem_cons_zero, List.setIfInBounds_toArray, List.set_cons_zero, List.set_cons_succ]
    refine wpAnyV_tk (i := 1) (oi := _) (v := ?_) rfl (by kernel_rfl) (by kernel_rfl) (by kernel_rfl) (by kernel_rfl) (fun _ _ _ h => h) (Or.inl ⟨by rfl, ?_⟩) (by assumption) ?_
    rotate_left 1
    · (intro u hSu; (try dsimp only at hSu); go_simp; first | done | with_reducible rfl | rfl)
    simp only [Act.put, List.getElem_toArray, List.getElem_cons_zero, List.getElem_cons_succ, List.setIfInBounds_toArray, List.set_cons_zero, List.set_cons_succ]
    refine wpAnyV_tk (i := 2) (oi := _) (v := ?_) rfl (by kernel_rfl) (by kernel_rfl) (by kernel_rfl) (by kernel_rfl) (fun _ _ _ h => h) (Or.inl ⟨by rfl, ?_⟩) (by assumption) ?_
    rotate_left 1
    · (intro u hSu; (try dsimp only at hSu); go_simp; first | done | with_reducible rfl | rfl)
    simp only [Act.put, List.getElem_toArray, List.getElem_cons_zero, List.getElem_cons_succ, List.setIfInBounds_toArray, List.set_cons_zero, List.set_cons_succ]
    refine wpAnyV_tk (i := 3) (oi := _) (v := ?_) rfl (by kernel_rfl) (by kernel_rfl) (by kernel_rfl) (by kernel_rfl) (fun _ _ _ h => h) (Or.inl ⟨by rfl, ?_⟩) (by assumption) ?_
    rotate_left 1
    · (intro u hSu; (try dsimp only at hSu); go_simp; first | done | with_reducible rfl | rfl)
    simp only [Act.put, List.getElem_toArray, List.getElem_cons_zero, List.getElem_cons_succ, List.setIfInBounds_toArray, List.set_cons_zero, List.set_cons_succ]
    refine wpAnyV_tk (i := 4) (oi := _) (v := ?_) rfl (by kernel_rfl) (by kernel_rfl) (by kernel_rfl) (by kernel_rfl) (fun _ _ _ h => h) (Or.inl ⟨by rfl, ?_⟩) (by assumption) ?_
    rotate_left 1
    · (intro u hSu; (try dsimp only at hSu); go_simp; first | done | with_reducible rfl | rfl)
    simp only [Act.put, List.getElem_toArray, List.getElem_cons_zero, List.getElem_cons_succ, List.setIfInBounds_toArray, List.set_cons_zero, List.set_cons_succ]
    refine wpAnyV_tk (i := 5) (oi := _) (v := ?_) rfl (by kernel_rfl) (by kernel_rfl) (by kernel_rfl) (by kernel_rfl) (fun _ _ _ h => h) (Or.inl ⟨by rfl, ?_⟩) (by assumption) ?_
    rotate_left 1
    · (intro u hSu; (try dsimp only at hSu); go_simp; first | done | with_reducible rfl | rfl)
    simp only [Act.put, List.getElem_toArray, List.getElem_cons_zero, List.getElem_cons_succ, List.setIfInBounds_toArray, List.set_cons_zero, List.set_cons_succ]
    clear hHeld
    refine wpAnyV_ready (rs := [6]) (by kernel_rfl) (by simp) ?_
    refine ReadyV.cons (o := _) rfl (fun K hK => ?_) ReadyV.nil
    refine step_callH (by rfl) 65 _ _ rfl #[.pointer (some ⟨b, 0, none⟩), .int .i64 x.p.T, .int .i64 m.at_] (by simp [Act.eval]) entGoOn (unhide HGO _ (isH.below (unhide H1) hbd (isH.lt (unhide H1))) (unhide HT) (unhide HX).now (unhide hMA) ⟨(unhide HLV).1, (unhide HX).l0.2⟩ ⟨(unhide HLV).2, (unhide HX).l1.2⟩) ?_
    rintro e w2 ⟨rfl, h2, hx2⟩
    refine ⟨_, rfl, ?_⟩
    refine hK.out _ _ (fun h => absurd h (by decide)) ?_
    clear hK K
    try simp only [Act.put, List.getElem_toArray, List.getElem_cons_zero, List.getElem_cons_succ, List.setIfInBounds_toArray, List.set_cons_zero, List.set_cons_succ]
    refine wpAnyV_done (by kernel_rfl) ?_ _
    obtain ⟨X, hX⟩ : ∃ X, X = x.go m.at_ := ⟨_, rfl⟩
    rw [← hX] at h2
    have hXp : X.p = x.p := by rw [hX, Ho.go_p]
    have hXy : X.ply = x.ply := by rw [hX, Ho.go_ply]
    have hXf : X.flag = 0 := by rw [hX, Ho.go_flag]; exact unhide HFL
    have hXe : G.ended X = 0 := by rw [hX, ended_go]; exact unhide HEN
    have hstep : R = (if X.left < 0 then ({ X with flag := 2 - X.p.T }, 5) else if m.ply ≠ X.ply then (X, 2) else if m.seat ≠ X.p.T then (X, 3) else match G.find X.p m.mv with
        | none => (X, 4)
        | some mv => ({ X with p := G.beh X.p mv, ply := X.ply + 1, tx := X.tx ++ lineX X.ply X.now m.mv }, 1) : Ho × Int) := by
      rw [unhide HR]
      unfold Gm.step
      have e1 : X.tx = x.tx := by rw [hX, Ho.go_tx]
      rw [if_neg (by rw [unhide HEN]; simp), ← hX, ← hXp, ← hXy, ← e1]
      rfl
    have hXI : 0 ≤ X.left → HoI G ok X := by rw [hX]; exact ((unhide HX).go (unhide HFL) (unhide hMA)).2
    have hx02 : Ex b w.heap.size w w2 := (Ex.of (unhide HB1)).trans (((Ex.of hbd).trans (hx2.mono hbd.size)).mono (unhide HB1).size)
    have hg2 : isG w2 w.heap.size m := ((unhide HG1).below hbd (unhide HG1).lt).ex hx2 (by have := (unhide HG1).lt; have := hbd.size; omega) (by have := unhide HBL; omega)
    have h02 : Below S w00 w2 := ((unhide H01).trans (hbd.mono (by have := unhide HSS; have := isH.lt (unhide H1); omega))).trans (hx2.fresh (unhide HSS) (by have := unhide HSS; have := isH.lt (unhide H1); have := hbd.size; omega))
    have hTX : X.p.T = 0 ∨ X.p.T = 1 := by rw [hXp]; exact unhide HT
    rw [← hXp]
    have hply : X.ply < G.pl ∧ G.O X.p = 0 := by rw [hXp, hXy]; exact unhide HMO
    have hokX : ok X.p := by rw [hXp]; exact (unhide HX).p
    have H2 := hide h2
    have HST := hide hstep
    have HXI := hide hXI
    have HX02 := hide hx02
    have HG2 := hide hg2
    have H02 := hide h02
    have HTX := hide hTX
    have HPL := hide hply
    have HOK := hide hokX
    have HXF := hide hXf
    have HXE := hide hXe
    clear h2 hstep hXI hx02 hg2 h02 hTX hply hokX hXf hXe hbd hx2 HGO HR H1 HG1 H01 HB1 HT HEN HFL HLV HMO HX hX hXp hXy
    go_wp2_with fail
    refine (ranOut_any b v0 v1 v2 v3 v4 v5 v6 v7 v8 v9 v10 v11 _ X o w2 (unhide H2) (unhide HTX)).mono ?_
    rintro e u ⟨rfl, hu⟩
    rw [hu]
    clear hu
    by_cases hl : X.left < 0
    · rw [decide_eq_true hl]
      have hRR : Hid (R = ({ X with flag := 2 - X.p.T }, 5)) := hide (by rw [unhide HST, if_pos hl])
      have hw : IntKind.i64.wrap (1 - X.p.T) = 1 - X.p.T := IntWalk.i64_in _ (by have := unhide HTX; omega)
      clear hl HST HXI
      go_wp2_with fail
      refine (hWon_any (1 - X.p.T) w2).mono ?_
      rintro e u ⟨rfl, hu⟩
      rw [hu]
      clear hu
      have hwon : (if 1 - X.p.T = 0 then (1 : Int) else 2) = 2 - X.p.T := by
        rcases unhide HTX with e | e <;> rw [e] <;> rfl
      rw [hwon]
      clear hwon hw
      obtain ⟨fl, hfl⟩ : ∃ fl, fl = 2 - X.p.T := ⟨_, rfl⟩
      rw [← hfl] at hRR ⊢
      have c23 := (isH.cells (unhide H2)).2.2.2.2.1
      have f23 := isH.frozen (unhide H2) 23
      have HF := hide hfl
      clear hfl
      go_wp2
      go_ret
      rw [unhide hRR]
      have hend : G.ended { X with flag := fl } = fl := ended_over _ (by show 0 < fl; rw [unhide HF]; have := unhide HTX; omega)
      show _ ∧ isHo _ b v0 v1 v2 v3 v4 v5 v6 v7 v8 v9 v10 v11 _ { X with flag := fl } (G.ended { X with flag := fl }) ∧ _
      rw [hend]
      exact ⟨rfl, isH.set23 (unhide H2) fl, (unhide HX02).set _ _⟩
    · rw [decide_eq_false hl]
      have hI := unhide HXI (by omega)
      have HI := hide hI
      have hST2 := unhide HST
      rw [if_neg hl] at hST2
      have HST2 := hide hST2
      clear hl HST HXI hI hST2
      have c22 := (isH.cells (unhide H2)).2.2.2.1
      obtain ⟨g0, g1, g2, g3⟩ := (unhide HG2).cells
      have HZ2 : Hid (isHo w2 b v0 v1 v2 v3 v4 v5 v6 v7 v8 v9 v10 v11 (.int .i64 G.pl) X 0) := hide (by rw [← unhide HOV]; exact unhide H2)
      by_cases hp : m.ply = X.ply
      case neg =>
        have hRR : Hid (R = (X, 2)) := hide (by rw [unhide HST2, if_pos hp])
        have e1 : (m.ply == X.ply) = false := by simp [hp]
        have e1n : (m.ply != X.ply) = true := by simp [hp]
        clear HST2
        go_wp2
        go_region
        go_wp2
        go_ret
        rw [unhide hRR, unhide HXE]
        exact ⟨rfl, unhide HZ2, (unhide HX02).drew⟩
      case pos =>
        have e1 : (m.ply == X.ply) = true := by simp [hp]
        have e1n : (m.ply != X.ply) = false := by simp [hp]
        have hST2 := unhide HST2
        rw [if_neg (by simpa using hp)] at hST2
        have HST3 := hide hST2
        clear HST2 hST2 hp
        by_cases hs : m.seat = X.p.T
        case neg =>
          have hRR : Hid (R = (X, 3)) := hide (by rw [unhide HST3, if_pos hs])
          have e2 : (m.seat == X.p.T) = false := by simp [hs]
          have e2n : (m.seat != X.p.T) = true := by simp [hs]
          clear HST3
          go_wp2
          go_region
          go_wp2
          go_ret
          rw [unhide hRR, unhide HXE]
          exact ⟨rfl, unhide HZ2, (unhide HX02).drew⟩
        case pos =>
          have e2 : (m.seat == X.p.T) = true := by simp [hs]
          have e2n : (m.seat != X.p.T) = false := by simp [hs]
          have hST2 := unhide HST3
          rw [if_neg (by simpa using hs)] at hST2
          have HST4 := hide hST2
          clear HST3 hST2 hs
          have HD : Hid (isHo w2.drew b v0 v1 v2 v3 v4 v5 v6 v7 v8 v9 v10 v11 (.int .i64 G.pl) X 0) := hide (unhide HZ2)
          have HXD : Hid (Ex b w.heap.size w w2.drew) := hide (unhide HX02).drew
          have H0D : Hid (Below S w00 w2.drew) := hide (unhide H02).drew
          have HGD : Hid (isG w2.drew w.heap.size m) := hide (unhide HG2)
          go_wp2_with fail
          go_region
          generalize w2.drew = w3 at HD HXD H0D HGD ⊢
          clear c22 g0 g1 g2 g3 HX02 H02 HG2 H2 HZ2 e1
          obtain ⟨g0, g1, g2, g3⟩ := (unhide HGD).cells
          go_wp2_with fail
          cases hf : G.find X.p m.mv with
          | none =>
            rw [hf] at HST4
            have hc := unhide HC
            refine (move_read G b S v0 v1 v2 v3 v4 v5 v6 v7 v8 v9 v10 v11 X 0 m.mv ⟨0, 0, 0⟩ 5 w00 w3 (unhide HD) (unhide HSS) (unhide H0D) (fun u hu => hc.R0 _ (unhide HOK) _ hf u hu) rfl).mono ?_
            rintro e w4 ⟨rfl, hb4⟩
            have HD4 := hide (isH.below (unhide HD) hb4 (isH.lt (unhide HD)))
            have HX4 := hide ((unhide HXD).more hb4 (unhide HXD).size)
            clear hb4 hc HD HXD g0 g1 g2 g3
            go_wp2
            go_ret
            rw [unhide HST4, unhide HXE]
            exact ⟨rfl, unhide HD4, unhide HX4⟩
          | some mv =>
            rw [hf] at HST4
            have hc := unhide HC
            obtain ⟨hm1, hm2⟩ := Gm.find_mem hf
            have hI := unhide HI
            have hg := unhide HGG
            have hsz := hg.tx _ (unhide HOK) _ hm1
            rw [hm2, len_data] at hsz
            have hgpl := hg.pl
            have hgst := (hg.st _ (unhide HOK) _ hm1).1
            refine (move_yes G b S v0 v1 v2 v3 v4 v5 v6 v7 v8 v9 v10 v11 X 0 m.mv mv (G.beh X.p mv) w00 w3 (unhide HD) (unhide HSS) (unhide H0D) (fun u hu => hc.R1 _ (unhide HOK) _ _ hf u hu)
              (fun u hu => hc.A _ (unhide HOK) _ hm1 u hu) (fun u hu => hc.O _ hgst u hu) hc.tab ⟨hI.ply.1, by have := hI.ply.2; omega⟩ hI.now hsz hI.tx).mono ?_
            rintro e w4 ⟨rfl, hd4, hx4⟩
            have HD4 := hide hd4
            have HX4 := hide ((unhide HXD).trans (hx4.mono (unhide HXD).size))
            clear hd4 hx4 hc hm1 hm2 hI hg hsz hgpl hgst HD HXD g0 g1 g2 g3
            go_wp2
            go_ret
            rw [unhide HST4]
            refine ⟨rfl, ?_, unhide HX4⟩
            rw [ended_said _ (by exact unhide HXF)]
            exact unhide HD4
end Go.Proofs.YtihojhfpepbjhaaGreatDoor

namespace Go.Proofs.YtihojhfpepbjhaaGreatDoor
open Go.RowKit
attribute [local go_sem ↓] Go.wp_at_zero Go.wp_at_succ

theorem block_ltH {w : World} {b : Nat} {o : Obj} (h : w.heap[b]? = some o) : b < w.heap.size := (Array.getElem?_eq_some_iff.1 h).1
/-- What Take answers. -/
def Gm.reply (G : Gm) (TX : Po → ByteArray) (r : Ho × Int) : Value := .agg #[.int .i64 r.2, .int .i64 r.1.ply, .int .i64 (G.ended r.1), .string (TX r.1.p)]
set_option maxHeartbeats 4000000 in
set_option maxRecDepth 100000 in
theorem hTake_any (G : Gm) (ok : Po → Prop) (hG : G.Ok ok) (TX : Po → ByteArray) (b S : Nat) (v0 v1 v2 v3 v4 v5 v6 v7 v8 v9 v10 v11 : Value) (w00 w : World) (hc : Hc G ok TX S w00 v0 v1 v2 v3 v4 v5 v6 v7 v8 v9 v10 v11) (x : Ho) (m : Ms) (hx : HoI G ok x) (hma : m.at_ < 9223372036854775808) (h : isHo w b v0 v1 v2 v3 v4 v5 v6 v7 v8 v9 v10 v11 (.int .i64 G.pl) x (G.ended x)) (hS : S ≤ b) (h00 : Below S w00 w) :
    Calls Tryz.prog 11 #[.pointer (some ⟨b, 0, none⟩), .agg #[.int .i64 m.seat, .int .i64 m.ply, .string m.mv, .int .i64 m.at_]] w fun e w' => e = .returned (G.reply TX (G.step x m)) ∧ isHo w' b v0 v1 v2 v3 v4 v5 v6 v7 v8 v9 v10 v11 (.int .i64 G.pl) (G.step x m).1 (G.ended (G.step x m).1) ∧ Ex b w.heap.size w w' := by
  have hbl := isH.lt h
  obtain ⟨w1, hw1⟩ : ∃ w1, w1 = w.alloc (.cells #[.int .i64 m.seat, .int .i64 m.ply, .string m.mv, .int .i64 m.at_] 43 (0, 0)) := ⟨_, rfl⟩
  obtain ⟨w2, hw2⟩ : ∃ w2, w2 = w1.alloc (.cells #[.int .i64 0, .int .i64 0, .int .i64 0, .string ⟨#[]⟩] 40 (0, 0)) := ⟨_, rfl⟩
  have hb1 : Below w.heap.size w w1 := by rw [hw1]; exact (Below.refl _ _).alloc (Nat.le_refl _) _
  have hb2 : Below w1.heap.size w1 w2 := by rw [hw2]; exact (Below.refl _ _).alloc (Nat.le_refl _) _
  have s1 : w1.heap.size = w.heap.size + 1 := by rw [hw1]; simp
  have h2 : isHo w2 b v0 v1 v2 v3 v4 v5 v6 v7 v8 v9 v10 v11 (.int .i64 G.pl) x (G.ended x) := isH.below (isH.below h hb1 hbl) hb2 (by omega)
  have hg2 : isG w2 w.heap.size m := isG.below (by rw [hw1]; exact isG.new w m) hb2 (by omega)
  have hb02 : Below w.heap.size w w2 := hb1.trans (hb2.mono (by omega))
  have hr2 : w2.heap[w.heap.size + 1]? = some (.cells #[.int .i64 0, .int .i64 0, .int .i64 0, .string ⟨#[]⟩] 40 (0, 0)) := by rw [hw2, ← s1]; exact heap_alloc_new w1 _
  have h02 : Below S w00 w2 := h00.trans (hb02.mono (by omega))
  have hpl := hG.pl.1
  have hTk := hTk_any G ok hG TX b S v0 v1 v2 v3 v4 v5 v6 v7 v8 v9 v10 v11 w00 w2 hc x m hx hma h2 hS h02
  have hstI := hx.step hG hma
  have hWr := hc.W _ hstI.p
  obtain ⟨R, hR⟩ : ∃ R, R = G.step x m := ⟨_, rfl⟩
  rw [← hR] at hTk hstI hWr ⊢
  have HTK := hide hTk
  have HWR := hide hWr
  have H2 := hide h2
  have HB02 := hide hb02
  have HR2 := hide hr2
  have HW := hide (And.intro hw1 hw2)
  have HPL := hide hpl
  have HBL := hide hbl
  obtain ⟨g0, g1, g2, g3⟩ := hg2.cells
  clear hTk hWr hR h2 hg2 hb02 hr2 hw1 hw2 hb1 hb2 s1 h02 hc hG h00 h hx hstI hpl
  go_enter Tryz.func11, Tryz.ntmps11
  go_upto_region 1 with fail
  rw [← (unhide HW).1, ← (unhide HW).2]
  clear HW
  go_wp2_with fail
  refine (hasGame_any b v0 v1 v2 v3 v4 v5 v6 v7 v8 v9 v10 v11 G.pl x _ w2 (unhide H2) (by have := unhide HPL; omega)).mono ?_
  rintro e u ⟨rfl, hu⟩
  rw [hu]
  clear hu
  go_wp2_with fail
  refine (unhide HTK).mono ?_
  rintro e w3 ⟨rfl, h3, hx3⟩
  have hr3 : w3.heap[w.heap.size + 1]? = _ := (hx3.block (w.heap.size + 1) (block_ltH (unhide HR2)) (by have := unhide HBL; omega)).trans (unhide HR2)
  have hx03 : Ex b w.heap.size w w3 := (Ex.of (unhide HB02)).trans (hx3.mono (unhide HB02).size)
  have H3 := hide h3
  have HR3 := hide hr3
  have HX03 := hide hx03
  have q := (isH.cells h3).2.2.1
  obtain ⟨p0, p1, p2, p3, p4, p5⟩ := q
  clear h3 hx3 hr3 hx03 H2 HR2 HB02 HTK g0 g1 g2 g3
  go_wp2_with fail
  refine (unhide HWR w3).mono ?_
  rintro e w4 ⟨rfl, hb4⟩
  have h4 := isH.below (unhide H3) hb4 (isH.lt (unhide H3))
  have hr4 := (hb4.block _ (block_ltH (unhide HR3))).trans (unhide HR3)
  have HX04 := hide ((unhide HX03).more hb4 (unhide HX03).size)
  have H4 := hide h4
  have HR4 := hide hr4
  obtain ⟨-, -, -, hy, ho, -⟩ := isH.cells h4
  have z0 := frozen_of_row w4 (w.heap.size + 1) 0 _ _ hr4
  have z1 := frozen_of_row w4 (w.heap.size + 1) 1 _ _ hr4
  have z2 := frozen_of_row w4 (w.heap.size + 1) 2 _ _ hr4
  have z3 := frozen_of_row w4 (w.heap.size + 1) 3 _ _ hr4
  have c0 : w4.cell? ⟨w.heap.size + 1, 0, none⟩ = some (.int .i64 0) := by unfold World.cell?; rw [hr4]; rfl
  have c1 : w4.cell? ⟨w.heap.size + 1, 1, none⟩ = some (.int .i64 0) := by unfold World.cell?; rw [hr4]; rfl
  have c2 : w4.cell? ⟨w.heap.size + 1, 2, none⟩ = some (.int .i64 0) := by unfold World.cell?; rw [hr4]; rfl
  have c3 : w4.cell? ⟨w.heap.size + 1, 3, none⟩ = some (.string ⟨#[]⟩) := by unfold World.cell?; rw [hr4]; rfl
  clear h4 hr4 hb4 H3 HR3 HX03 HWR p0 p1 p2 p3 p4 p5
  go_wp2_with fail
  go_region
  have hfin : ∀ (a b' c : Int) (t : ByteArray), ∃ w5, w5 = ((((w4.setCell ⟨w.heap.size + 1, 0, none⟩ (.int .i64 a)).setCell ⟨w.heap.size + 1, 1, none⟩ (.int .i64 b')).setCell ⟨w.heap.size + 1, 2, none⟩ (.int .i64 c)).setCell ⟨w.heap.size + 1, 3, none⟩ (.string t)).drew ∧
      isHo w5 b v0 v1 v2 v3 v4 v5 v6 v7 v8 v9 v10 v11 (.int .i64 G.pl) R.1 (G.ended R.1) ∧ Ex b w.heap.size w w5 ∧ w5.cell? ⟨w.heap.size + 1, 0, none⟩ = some (.int .i64 a) ∧ w5.cell? ⟨w.heap.size + 1, 1, none⟩ = some (.int .i64 b') ∧ w5.cell? ⟨w.heap.size + 1, 2, none⟩ = some (.int .i64 c) ∧ w5.cell? ⟨w.heap.size + 1, 3, none⟩ = some (.string t) := fun a b' c t => by
    have h4 := unhide H4
    have hr4 := unhide HR4
    have hx4 := unhide HX04
    refine ⟨_, rfl, ?_, ?_, ?_⟩
    · refine isH.of_block h4 ?_
      have := unhide HBL
      exact ((((Ex.refl (w.heap.size + 1) (b + 1) w4).set 0 (.int .i64 a)).set 1 (.int .i64 b')).set 2 (.int .i64 c)).set 3 (.string t) |>.block b (by omega) (by omega)
    · exact ((((hx4.far _ 0 _ (by omega)).far _ 1 _ (by omega)).far _ 2 _ (by omega)).far _ 3 _ (by omega)).drew
    · simp [World.cell?, World.setCell, World.drew, Array.getElem?_modify, hr4]
  obtain ⟨w5, hw5, h5, hx5, k0, k1, k2, k3⟩ := hfin R.2 R.1.ply (G.ended R.1) (TX R.1.p)
  rw [← hw5]
  have H5 := hide h5
  have HX5 := hide hx5
  clear hfin hw5 h5 hx5 H4 HR4 HX04 z0 z1 z2 z3 c0 c1 c2 c3 hy ho
  go_wp2
  exact bodyPost_ret (v := .agg #[.int .i64 R.2, .int .i64 R.1.ply, .int .i64 (G.ended R.1), .string (TX R.1.p)]) (by simp [results, Tryz.results11, go_sem, k0, k1, k2, k3]) rfl ⟨rfl, unhide H5, unhide HX5⟩
set_option maxHeartbeats 4000000 in
set_option maxRecDepth 100000 in
theorem hSave_any (G : Gm) (b : Nat) (v0 v1 v2 v3 v4 v5 v6 v7 v8 v9 v10 v11 : Value) (w : World) (x : Ho) (o : Int) (h : isHo w b v0 v1 v2 v3 v4 v5 v6 v7 v8 v9 v10 v11 (.int .i64 G.pl) x o) (hpl : 0 < G.pl) (ht : x.tx.size ≤ 100000) :
    Calls Tryz.prog 10 #[.pointer (some ⟨b, 0, none⟩)] w fun e w' => e = .returned (.string x.tx) ∧ Below w.heap.size w w' := by
  have HCL := hide (Clone_any x.tx w (by unfold maxLen; omega) (by omega))
  have hT := (isH.cells h).2.2.2.2.2
  have H := hide h
  clear h
  go_enter Tryz.func10, Tryz.ntmps10
  go_wp2_with fail
  refine (hasGame_any b v0 v1 v2 v3 v4 v5 v6 v7 v8 v9 v10 v11 G.pl x _ w (unhide H) hpl).mono ?_
  rintro e u ⟨rfl, hu⟩
  rw [hu]
  clear hu
  go_wp2_with fail
  refine (unhide HCL).mono ?_
  rintro e w2 ⟨rfl, hb⟩
  have HB := hide hb
  clear hb hT H
  go_wp2
  go_ret
  exact ⟨rfl, unhide HB⟩
end Go.Proofs.YtihojhfpepbjhaaGreatDoor
