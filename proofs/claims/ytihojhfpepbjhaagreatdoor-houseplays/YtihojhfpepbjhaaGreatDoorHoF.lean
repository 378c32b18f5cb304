/-
  gameref's house, walked: kind.
-/
import Derived.Test.YtihojhfpepbjhaaGreatDoorHoE
import Derived.Test.YtihojhfpepbjhaaGreatDoorJ33
import Derived.Test.YtihojhfpepbjhaaGreatDoorHo9
import Derived.Deep.CutRange
namespace Go.Proofs.YtihojhfpepbjhaaGreatDoor
open Go.RowKit
attribute [local go_sem ↓] Go.wp_at_zero Go.wp_at_succ

theorem isR.left {w : World} {b : Nat} {v0 v1 v2 v3 v4 v5 v6 v7 v8 v9 v10 v11 v12 : Value} {x : Ho} (h : isRo w b v0 v1 v2 v3 v4 v5 v6 v7 v8 v9 v10 v11 v12 x) {T : Nat} (hT : x.p.T = T) (h1 : T ≤ 1) : w.cell? ⟨b, 20 + T, none⟩ = some (.int .i64 x.left) := by
  obtain ⟨-, -, -, c0, c1, -⟩ := isR.cells h
  unfold Ho.left
  rcases (by omega : T = 0 ∨ T = 1) with rfl | rfl
  · rw [if_pos (by simpa using hT)]; exact c0
  · rw [if_neg (by rw [hT]; decide)]; exact c1
theorem isR.setL {w : World} {b : Nat} {v0 v1 v2 v3 v4 v5 v6 v7 v8 v9 v10 v11 v12 : Value} {x : Ho} (h : isRo w b v0 v1 v2 v3 v4 v5 v6 v7 v8 v9 v10 v11 v12 x) {T : Nat} (hT : x.p.T = T) (h1 : T ≤ 1) {a : Int} (ha : x.now < a) : isRo ((w.setCell ⟨b, 20 + T, none⟩ (.int .i64 (x.left - (a - x.now)))).setCell ⟨b, 22, none⟩ (.int .i64 a)) b v0 v1 v2 v3 v4 v5 v6 v7 v8 v9 v10 v11 v12 (x.go a) := by
  unfold Ho.left Ho.go
  rw [if_pos ha]
  rcases (by omega : T = 0 ∨ T = 1) with rfl | rfl
  · have e : x.p.T = 0 := by simpa using hT
    rw [if_pos e, if_pos e]
    exact isR.set22 (isR.set20 h _) _
  · have e : ¬ x.p.T = 0 := by rw [hT]; decide
    rw [if_neg e, if_neg e]
    exact isR.set22 (isR.set21 h _) _
theorem find_drop {α : Type} {f : α → Prop} [DecidablePred f] {L : List α} {k : Nat} {q : α} (h : L[k]? = some q) : ((L.drop k).find? fun x => decide (f x)) = if f q then some q else (L.drop (k + 1)).find? fun x => decide (f x) := by
  obtain ⟨hk, rfl⟩ := List.getElem?_eq_some_iff.1 h
  rw [List.drop_eq_getElem_cons hk, List.find?_cons]
  by_cases hf : f L[k]
  · simp [hf]
  · simp [hf]
theorem entMoves : ∀ args (u : World), (callFunc 73 args).run Tryz.prog u = .ok (.enter 73 args) u := enters_of Tryz.func73 (by kernel_rfl) rfl
theorem entMT : ∀ args (u : World), (callFunc 74 args).run Tryz.prog u = .ok (.enter 74 args) u := enters_of Tryz.func74 (by kernel_rfl) rfl
theorem entItoa : ∀ args (u : World), (callFunc 75 args).run Tryz.prog u = .ok (.enter 75 args) u := enters_of Tryz.func75 (by kernel_rfl) rfl
theorem entMade : ∀ args (u : World), (callFunc 76 args).run Tryz.prog u = .ok (.enter 76 args) u := enters_of Tryz.func76 (by kernel_rfl) rfl
set_option maxHeartbeats 8000000 in
set_option maxRecDepth 100000 in
theorem rKind_any (G : Gm) (ok : Po → Prop) (hG : G.Ok ok) (TX : Po → ByteArray) (b S : Nat) (v0 v1 v2 v3 v4 v5 v6 v7 v8 v9 v10 v11 : Value) (w00 w : World) (hc : Rc G ok TX S w00 v0 v1 v2 v3 v4 v5 v6 v7 v8 v9 v10 v11) (x : Ho) (m : Ms) (hx : HoI G ok x) (hma : m.at_ < 9223372036854775808) (h : isRo w b v0 v1 v2 v3 v4 v5 v6 v7 v8 v9 v10 v11 (.int .i64 G.pl) x) (hS : S ≤ b) (h00 : Below S w00 w) :
    Calls Tryz.prog 38 #[.pointer (some ⟨b, 0, none⟩), .agg #[.int .i64 m.seat, .int .i64 m.ply, .string m.mv, .int .i64 m.at_]] w fun e w' => e = .returned (.int .i64 (G.step x m).2) ∧ isRo w' b v0 v1 v2 v3 v4 v5 v6 v7 v8 v9 v10 v11 (.int .i64 G.pl) (G.step x m).1 ∧ Ex b w.heap.size w w' := by
  obtain ⟨R, hR⟩ : ∃ R, R = G.step x m := ⟨_, rfl⟩
  rw [← hR]
  have HR := hide hR
  have hbl := isR.lt h
  obtain ⟨w1, hw1⟩ : ∃ w1, w1 = w.alloc (.cells #[.int .i64 m.seat, .int .i64 m.ply, .string m.mv, .int .i64 m.at_] 43 (0, 0)) := ⟨_, rfl⟩
  have hb1 : Below w.heap.size w w1 := by rw [hw1]; exact (Below.refl _ _).alloc (Nat.le_refl _) _
  have h1 : isRo w1 b v0 v1 v2 v3 v4 v5 v6 v7 v8 v9 v10 v11 (.int .i64 G.pl) x := isR.below h hb1 hbl
  have hg1 : isG w1 w.heap.size m := by rw [hw1]; exact isG.new w m
  have h01 : Below S w00 w1 := h00.trans (hb1.mono (by omega))
  have hEnd := rEnded_any G ok TX b S v0 v1 v2 v3 v4 v5 v6 v7 v8 v9 v10 v11 w00 w1 hc x hx.p h1 h01
  obtain ⟨T, hT⟩ : ∃ T : Nat, x.p.T = T := ⟨x.p.T.toNat, by have := hG.t _ hx.p; omega⟩
  have hT1 : T ≤ 1 := by have := hG.t _ hx.p; omega
  have HT := hide hT
  have HC := hide hc
  have HGG := hide hG
  have HX := hide hx
  have H1 := hide h1
  have HG1 := hide hg1
  have HB1 := hide hb1
  have HBL := hide hbl
  have HSS := hide hS
  have HW1 := hide hw1
  have H01 := hide h01
  have hMA := hide hma
  clear hR hc hG hx h1 hg1 hb1 hbl hS hw1 h00 h h01 hT hma
  obtain ⟨o, hoe⟩ : ∃ o, o = G.ended x := ⟨_, rfl⟩
  rw [← hoe] at hEnd
  have HEND := hide hEnd
  have HOE := hide hoe
  clear hoe hEnd
  go_enter Tryz.func38, Tryz.ntmps38
  go_upto_region 1 with fail
  rw [← unhide HW1]
  clear HW1
  go_wp2_with fail
  refine (unhide HEND).mono ?_
  rintro e w2 ⟨rfl, hb2⟩
  have h2 := isR.below (unhide H1) hb2 (isR.lt (unhide H1))
  have hg2 := (unhide HG1).below hb2 (unhide HG1).lt
  have hb02 := (unhide HB1).trans (hb2.mono (unhide HB1).size)
  have h02 : Below S w00 w2 := (unhide H01).trans (hb2.mono (by have := unhide HSS; have := isR.lt (unhide H1); omega))
  have H2 := hide h2
  have HG2 := hide hg2
  have HB02 := hide hb02
  have H02 := hide h02
  clear h2 hg2 hb02 h02 hb2 H1 HG1 HB1 H01 HEND
  by_cases hov : o = 0
  case neg =>
    have hRR : R = (x, 5) := by
      rw [unhide HR]
      unfold Gm.step
      rw [if_pos (by rw [← unhide HOE]; exact hov)]
    have ho1 : (o != 0) = true := by simp [hov]
    have ho2 : (o == 0) = false := by simp [hov]
    go_wp2
    go_ret
    rw [hRR]
    exact ⟨rfl, unhide H2, Ex.of (unhide HB02)⟩
  case pos =>
    have ho1 : (o != 0) = false := by simp [hov]
    have ho2 : (o == 0) = true := by simp [hov]
    have hen : G.ended x = 0 := by rw [← unhide HOE]; exact hov
    have hfl := ended_flag hen (unhide HX).flag.1
    have hlive := (unhide HX).live hfl
    have hmore := ended_more (unhide HX) hen
    have HEN := hide hen
    have HFL := hide hfl
    have HMO := hide hmore
    have HLV := hide hlive
    have p3 := (isR.cells (unhide H2)).2.1.2.2.2.1
    rw [unhide HT] at p3
    clear hen hfl hlive hmore HOE hov
    go_upto_region 4 with fail
    clear p3
    obtain ⟨X, hX⟩ : ∃ X, X = x.go m.at_ := ⟨_, rfl⟩
    have hl : w2.cell? ⟨b, 20 + T, none⟩ = some (.int .i64 x.left) := isR.left (unhide H2) (unhide HT) hT1
    have hfz := isR.frozen (unhide H2) (20 + T)
    have hf22 := isR.frozen (unhide H2) 22
    obtain ⟨-, -, -, -, -, hnw, -, -⟩ := isR.cells (unhide H2)
    obtain ⟨-, -, -, g3⟩ := (unhide HG2).cells
    go_wp2_with fail
    go_region
    have HD : Hid (isRo w2.drew b v0 v1 v2 v3 v4 v5 v6 v7 v8 v9 v10 v11 (.int .i64 G.pl) x) := hide (unhide H2)
    have HGD : Hid (isG w2.drew w.heap.size m) := hide (unhide HG2)
    have HBD : Hid (Below w.heap.size w w2.drew) := hide (unhide HB02).drew
    have H0D : Hid (Below S w00 w2.drew) := hide (unhide H02).drew
    generalize w2.drew = w3 at HD HGD HBD H0D ⊢
    clear hl hfz hf22 hnw g3 H2 HG2 HB02 H02 w2
    go_upto_if 22 with fail
    go_cut [] from 23 to 44 (fun wz => isRo wz b v0 v1 v2 v3 v4 v5 v6 v7 v8 v9 v10 v11 (.int .i64 G.pl) X ∧ Ex b w3.heap.size w3 wz)
    case first =>
      have hl : w3.cell? ⟨b, 20 + T, none⟩ = some (.int .i64 x.left) := isR.left (unhide HD) (unhide HT) hT1
      have hfz := isR.frozen (unhide HD) (20 + T)
      have hf22 := isR.frozen (unhide HD) 22
      obtain ⟨-, -, -, -, -, hnw, -, -⟩ := isR.cells (unhide HD)
      obtain ⟨-, -, -, g3⟩ := (unhide HGD).cells
      by_cases hg : x.now < m.at_
      · have hT0 : (0 : Int) ≤ (T : Int) := by omega
        have hT2 : (T : Int) < 2 := by omega
        have hi := unhide HX
        have hlr : 0 ≤ x.left ∧ x.left ≤ 1000000 := by
          have a0 := unhide HLV
          have a1 := hi.l0
          have a2 := hi.l1
          unfold Ho.left
          split <;> omega
        have hnr := hi.now
        have hma := unhide hMA
        have e1 : x.left + (x.now - m.at_) = x.left - (m.at_ - x.now) := by omega
        have w1 : IntKind.i64.wrap (x.now - m.at_) = x.now - m.at_ := IntWalk.i64_in _ (by omega)
        have w2 : IntKind.i64.wrap (x.left + (x.now - m.at_)) = x.left - (m.at_ - x.now) := by rw [IntWalk.i64_in _ (by omega), e1]
        have HE1 := hide e1
        have hfin := isR.setL (unhide HD) (unhide HT) hT1 hg
        have hex : Ex b w3.heap.size w3 ((w3.setCell ⟨b, 20 + T, none⟩ (.int .i64 (x.left - (m.at_ - x.now)))).setCell ⟨b, 22, none⟩ (.int .i64 m.at_)) := ((Ex.refl _ _ _).set _ _).set _ _
        have hXe : X = x.go m.at_ := hX
        have HXE := hide hXe
        have HFIN := hide hfin
        have HEX := hide hex
        clear e1 hfin hex hXe hi hlr
        clear hX
        go_upto_region 5 with fail
        go_region
        go_wp2_with fail
        go_meet
        case rel =>
          rw [unhide HXE]
          exact ⟨unhide HFIN, (unhide HEX).drew⟩
      · go_wp2_with fail
        go_meet
        case rel =>
          have hXe : X = x := by rw [hX]; unfold Ho.go; rw [if_neg (by omega)]
          rw [hXe]
          exact ⟨unhide HD, Ex.refl _ _ _⟩
    case rest =>
      obtain ⟨hcut1, hcut2⟩ := hcut
      have hXp : X.p = x.p := by rw [hX, Ho.go_p]
      have hXy : X.ply = x.ply := by rw [hX, Ho.go_ply]
      have hXI : 0 ≤ X.left → HoI G ok X := by rw [hX]; exact ((unhide HX).go (unhide HFL) (unhide hMA)).2
      have hstep : R = (if X.left < 0 then ({ X with flag := 2 - X.p.T }, 5) else if m.ply ≠ X.ply then (X, 2) else if m.seat ≠ X.p.T then (X, 3) else match G.find X.p m.mv with
          | none => (X, 4)
          | some mv => ({ X with p := G.beh X.p mv, ply := X.ply + 1, tx := X.tx ++ lineX X.ply X.now m.mv }, 1) : Ho × Int) := by
        rw [unhide HR]
        unfold Gm.step
        have e1 : X.tx = x.tx := by rw [hX, Ho.go_tx]
        rw [if_neg (by rw [unhide HEN]; simp), ← hX, ← hXp, ← hXy, ← e1]
        rfl
      have hx04 : Ex b w.heap.size w wc := (Ex.of (unhide HBD)).trans (hcut2.mono (unhide HBD).size)
      have hg4 : isG wc w.heap.size m := (unhide HGD).ex hcut2 (unhide HGD).lt (by have := unhide HBL; omega)
      have h04 : Below S w00 wc := (unhide H0D).trans (hcut2.fresh (unhide HSS) (by have := isR.lt (unhide HD); have := unhide HSS; omega))
      have hTX : X.p.T = T := by rw [hXp]; exact unhide HT
      have hply : X.ply < G.pl := by rw [hXy]; exact (unhide HMO).1
      have hokX : ok X.p := by rw [hXp]; exact (unhide HX).p
      have H4 := hide hcut1
      have HST := hide hstep
      have HXI := hide hXI
      have HX4 := hide hx04
      have HG4 := hide hg4
      have H04 := hide h04
      have HTX := hide hTX
      have HPL := hide hply
      have HOK := hide hokX
      clear hcut1 hcut2 hstep hXI hx04 hg4 h04 hTX hply hokX HD HGD HBD H0D HT HEN HFL HMO HLV HX hX hXp hXy HR
      have hl : wc.cell? ⟨b, 20 + T, none⟩ = some (.int .i64 X.left) := isR.left (unhide H4) (unhide HTX) hT1
      have hT0 : (0 : Int) ≤ (T : Int) := by omega
      have hT2 : (T : Int) < 2 := by omega
      by_cases hlf : X.left < 0
      · have hRR : Hid (R = ({ X with flag := 2 - (T : Int) }, 5)) := hide (by rw [unhide HST, if_pos hlf, unhide HTX])
        have hw : IntKind.i64.wrap (2 - (T : Int)) = 2 - (T : Int) := IntWalk.i64_in _ (by omega)
        have c23 := (isR.cells (unhide H4)).2.2.2.2.2.2.1
        have f23 := isR.frozen (unhide H4) 23
        clear HST HXI
        go_wp2
        go_ret
        rw [unhide hRR]
        exact ⟨rfl, isR.set23 (unhide H4) _, (unhide HX4).set _ _⟩
      · have hI := unhide HXI (by omega)
        have HI := hide hI
        have hST2 := unhide HST
        rw [if_neg hlf] at hST2
        have HST2 := hide hST2
        clear HST HXI hI hST2
        obtain ⟨-, -, c19, -⟩ := isR.cells (unhide H4)
        obtain ⟨g0, g1, g2, g3⟩ := (unhide HG4).cells
        by_cases hp : m.ply = X.ply
        case neg =>
          have hRR : Hid (R = (X, 2)) := hide (by rw [unhide HST2, if_pos hp])
          have e1 : (m.ply == X.ply) = false := by simp [hp]
          have e1n : (m.ply != X.ply) = true := by simp [hp]
          clear HST2
          go_wp2
          go_region
          go_wp2
          go_ret
          rw [unhide hRR]
          exact ⟨rfl, unhide H4, (unhide HX4).drew⟩
        case pos =>
          have e1 : (m.ply == X.ply) = true := by simp [hp]
          have e1n : (m.ply != X.ply) = false := by simp [hp]
          have hST2 := unhide HST2
          rw [if_neg (by simpa using hp), unhide HTX] at hST2
          have HST3 := hide hST2
          clear HST2 hST2 hp
          by_cases hs : m.seat = (T : Int)
          case neg =>
            have hRR : Hid (R = (X, 3)) := hide (by rw [unhide HST3, if_pos hs])
            have e2 : (m.seat == (T : Int)) = false := by simp [hs]
            have e2n : (m.seat != (T : Int)) = true := by simp [hs]
            clear HST3
            go_wp2
            go_region
            go_wp2
            go_ret
            rw [unhide hRR]
            exact ⟨rfl, unhide H4, (unhide HX4).drew⟩
          case pos =>
            have e2 : (m.seat == (T : Int)) = true := by simp [hs]
            have e2n : (m.seat != (T : Int)) = false := by simp [hs]
            have hST2 := unhide HST3
            rw [if_neg (by simpa using hs)] at hST2
            have HST4 := hide hST2
            clear HST3 hST2
            have hset := hs
            have HD : Hid (isRo wc.drew b v0 v1 v2 v3 v4 v5 v6 v7 v8 v9 v10 v11 (.int .i64 G.pl) X) := hide (unhide H4)
            have HXD : Hid (Ex b w.heap.size w wc.drew) := hide (unhide HX4).drew
            have H0D : Hid (Below S w00 wc.drew) := hide (unhide H04).drew
            have HGD : Hid (isG wc.drew w.heap.size m) := hide (unhide HG4)
            go_wp2_with fail
            go_region
            generalize wc.drew = w5 at HD HXD H0D HGD ⊢
            clear c19 g0 g1 g2 g3 HX4 H04 HG4 H4 e1 e1n hl hs hset
            obtain ⟨g0, g1, g2, g3⟩ := (unhide HGD).cells
            go_upto_region 14 with fail
            have hs5 : ∀ u, Below w5.heap.size w5 u → (fun u => (u.cell? ⟨b, 0, none⟩ = some v0 ∧ u.cell? ⟨b, 1, none⟩ = some v1 ∧ u.cell? ⟨b, 2, none⟩ = some v2 ∧ u.cell? ⟨b, 3, none⟩ = some v3 ∧ u.cell? ⟨b, 4, none⟩ = some v4 ∧ u.cell? ⟨b, 5, none⟩ = some v5 ∧ u.cell? ⟨b, 6, none⟩ = some v6 ∧ u.cell? ⟨b, 7, none⟩ = some v7 ∧ u.cell? ⟨b, 8, none⟩ = some v8 ∧ u.cell? ⟨b, 9, none⟩ = some v9 ∧ u.cell? ⟨b, 10, none⟩ = some v10 ∧ u.cell? ⟨b, 11, none⟩ = some v11 ∧ u.cell? ⟨b, 12, none⟩ = some (.int .i64 G.pl)) ∧ u.cell? ⟨b, 13, none⟩ = some (.int .i64 X.p.W) ∧ u.cell? ⟨b, 14, none⟩ = some (.int .i64 X.p.H) ∧ u.cell? ⟨b, 15, none⟩ = some (.string X.p.C) ∧ u.cell? ⟨b, 16, none⟩ = some (.int .i64 X.p.T) ∧ u.cell? ⟨b, 17, none⟩ = some (.string X.p.A) ∧ u.cell? ⟨b, 18, none⟩ = some (.string X.p.B)) u := fun u hu => by
              have c := isR.cells (isR.below (unhide HD) hu (isR.lt (unhide HD)))
              exact ⟨c.1, c.2.1⟩
            obtain ⟨wd, hwd⟩ : ∃ wd, wd = w5.drew := ⟨_, rfl⟩
            have hbd : Below w5.heap.size w5 wd := by rw [hwd]; exact (Below.refl _ _).drew
            have hMv := (unhide HC).M _ (unhide HOK) wd ((unhide H0D).trans (hbd.mono (by have := unhide HSS; have := isR.lt (unhide HD); omega)))
            have hll := (unhide HC).len _ (unhide HOK)
            have HS5 := hide hs5
            have HMV := hide hMv
            refine wp_region_v [8] (fun u => (u.cell? ⟨b, 0, none⟩ = some v0 ∧ u.cell? ⟨b, 1, none⟩ = some v1 ∧ u.cell? ⟨b, 2, none⟩ = some v2 ∧ u.cell? ⟨b, 3, none⟩ = some v3 ∧ u.cell? ⟨b, 4, none⟩ = some v4 ∧ u.cell? ⟨b, 5, none⟩ = some v5 ∧ u.cell? ⟨b, 6, none⟩ = some v6 ∧ u.cell? ⟨b, 7, none⟩ = some v7 ∧ u.cell? ⟨b, 8, none⟩ = some v8 ∧ u.cell? ⟨b, 9, none⟩ = some v9 ∧ u.cell? ⟨b, 10, none⟩ = some v10 ∧ u.cell? ⟨b, 11, none⟩ = some v11 ∧ u.cell? ⟨b, 12, none⟩ = some (.int .i64 G.pl)) ∧ u.cell? ⟨b, 13, none⟩ = some (.int .i64 X.p.W) ∧ u.cell? ⟨b, 14, none⟩ = some (.int .i64 X.p.H) ∧ u.cell? ⟨b, 15, none⟩ = some (.string X.p.C) ∧ u.cell? ⟨b, 16, none⟩ = some (.int .i64 X.p.T) ∧ u.cell? ⟨b, 17, none⟩ = some (.string X.p.A) ∧ u.cell? ⟨b, 18, none⟩ = some (.string X.p.B)) (by kernel_rfl) ?_
            rw [← hwd]
            clear hwd hs5 hMv g0 g1 g2 g3
            have hHeld := unhide HS5 wd hbd
            refine wpAnyV_tk (i := 0) (oi := _) (v := ?_) rfl (by kernel_rfl) (by kernel_rfl) (by kernel_rfl) (by kernel_rfl) (fun _ _ _ h => h) (Or.inl ⟨by rfl, ?_⟩) (by assumption) ?_
            rotate_left 1
            · (intro u hSu; (try dsimp only at hSu); go_simp; first | done | with_reducible rfl | rfl)
            simp only [Act.put, List.getElem_toArray, List.getElem_cons_zero, List.setIfInBounds_toArray, List.set_cons_zero, List.set_cons_succ]
            refine wpAnyV_tk (i := 1) (oi := _) (v := ?_) rfl (by kernel_rfl) (by kernel_rfl) (by kernel_rfl) (by kernel_rfl) (fun _ _ _ h => h) (Or.inl ⟨by rfl, ?_⟩) (by assumption) ?_
            rotate_left 1
            · (intro u hSu; (try dsimp only at hSu); go_simp; first | done | with_reducible rfl | rfl)
            simp only [Act.put, List.getElem_toArray, List.getElem_cons_zero, List.getElem_cons_succ, List.setIfInBounds_toArray, List.set_cons_zero, List.set_cons_succ]
            refine wpAnyV_tk (i := 2) (oi := _) (v := ?_) rfl (by kernel_rfl) (by kernel_rfl) (by kernel_rfl) (by kernel_rfl) (fun _ _ _ h => h) (Or.inl ⟨by rfl, ?_⟩) (by assumption) ?_
            rotate_left 1
            · (intro u hSu; (try dsimp only at hSu); go_simp; first | done | with_reducible rfl | rfl)
            simp only [Act.put, List.getElem_toArray, List.getElem_cons_zero, List.getElem_cons_succ, List.setIfInBounds_toArray, List.set_cons_zero, List.set_cons_succ]
            refine wpAnyV_tk (i := 3) (oi := _) (v := ?_) rfl (by kernel_rfl) (by kernel_rfl) (by kernel_rfl) (by kernel_rfl) (fun _ _ _ h => h) (Or.inl ⟨by rfl, ?_⟩) (by assumption) ?_
            rotate_left 1
            · (intro u hSu; (try dsimp only at hSu); go_simp; first | done | with_reducible rfl | rfl)
            simp only [Act.put, List.getElem_toArray, List.getElem_cons_zero, List.getElem_cons_succ, List.setIfInBounds_toArray, List.set_cons_zero, List.set_cons_succ]
            refine wpAnyV_tk (i := 4) (oi := _) (v := ?_) rfl (by kernel_rfl) (by kernel_rfl) (by kernel_rfl) (by kernel_rfl) (fun _ _ _ h => h) (Or.inl ⟨by rfl, ?_⟩) (by assumption) ?_
            rotate_left 1
            · (intro u hSu; (try dsimp only at hSu); go_simp; first | done | with_reducible rfl | rfl)
            simp only [Act.put, List.getElem_toArray, List.getElem_cons_zero, List.getElem_cons_succ, List.setIfInBounds_toArray, List.set_cons_zero, List.set_cons_succ]
            refine wpAnyV_tk (i := 5) (oi := _) (v := ?_) rfl (by kernel_rfl) (by kernel_rfl) (by kernel_rfl) (by kernel_rfl) (fun _ _ _ h => h) (Or.inl ⟨by rfl, ?_⟩) (by assumption) ?_
            rotate_left 1
            · (intro u hSu; (try dsimp only at hSu); go_simp; first | done | with_reducible rfl | rfl)
            simp only [Act.put, List.getElem_toArray, List.getElem_cons_zero, List.getElem_cons_succ, List.setIfInBounds_toArray, List.set_cons_zero, List.set_cons_succ]
            refine wpAnyV_tk (i := 6) (oi := _) (v := ?_) rfl (by kernel_rfl) (by kernel_rfl) (by kernel_rfl) (by kernel_rfl) (fun _ _ _ h => h) (Or.inl ⟨by rfl, ?_⟩) (by assumption) ?_
            rotate_left 1
            · (intro u hSu; (try dsimp only at hSu); go_simp; first | done | with_reducible rfl | rfl)
            simp only [Act.put, List.getElem_toArray, List.getElem_cons_zero, List.getElem_cons_succ, List.setIfInBounds_toArray, List.set_cons_zero, List.set_cons_succ]
            refine wpAnyV_tk (i := 7) (oi := _) (v := ?_) rfl (by kernel_rfl) (by kernel_rfl) (by kernel_rfl) (by kernel_rfl) (fun _ _ _ h => h) (Or.inl ⟨by rfl, ?_⟩) (by assumption) ?_
            rotate_left 1
            · (intro u hSu; (try dsimp only at hSu); go_simp; first | done | with_reducible rfl | rfl)
            simp only [Act.put, List.getElem_toArray, List.getElem_cons_zero, List.getElem_cons_succ, List.setIfInBounds_toArray, List.set_cons_zero, List.set_cons_succ]
            clear hHeld
            refine wpAnyV_ready (rs := [8]) (by kernel_rfl) (by simp) ?_
            refine ReadyV.cons (o := _) rfl (fun K hK => ?_) ReadyV.nil
            refine step_callH (by rfl) 73 _ _ rfl #[.agg #[v0, v1, v2, v3, v4, v5, v6, v7, v8, v9, v10, v11, .int .i64 G.pl], .agg #[.int .i64 X.p.W, .int .i64 X.p.H, .string X.p.C, .int .i64 X.p.T, .string X.p.A, .string X.p.B]] (by simp [Act.eval]) entMoves (unhide HMV) ?_
            rintro e w6 ⟨v, rfl, hown, hb6⟩
            refine ⟨_, rfl, ?_⟩
            refine hK.out _ _ (fun h => absurd h (by decide)) ?_
            clear hK K
            try simp only [Act.put, List.getElem_toArray, List.getElem_cons_zero, List.getElem_cons_succ, List.setIfInBounds_toArray, List.set_cons_zero, List.set_cons_succ]
            refine wpAnyV_pure (i := 9) (oi := _) (v := ?_) rfl (by kernel_rfl) (by kernel_rfl) (by kernel_rfl) (by kernel_rfl) (fun _ _ _ h => h) (Or.inl ⟨by rfl, ?_⟩) (by first | exact fun _ => hHeld | (intro h; exact absurd h (by decide))) ?_
            rotate_left 1
            · (intro u _; go_simp; first | done | with_reducible rfl | rfl)
            simp only [Act.put, List.getElem_toArray, List.getElem_cons_zero, List.getElem_cons_succ, List.setIfInBounds_toArray, List.set_cons_zero, List.set_cons_succ]
            refine wpAnyV_done (by kernel_rfl) ?_ _
            obtain ⟨L, hL⟩ : ∃ L, L = G.L X.p := ⟨_, rfl⟩
            rw [← hL] at hown hll
            obtain ⟨lo, lc, rfl⟩ := row_len hown
            obtain ⟨n, hn⟩ : ∃ n, n = L.length := ⟨_, rfl⟩
            have hl6 : isMvs w6 (.slice lo n lc) L := isMvs.of (by rw [hn]; exact hown)
            rw [← hn] at hll ⊢
            have hb56 : Below w5.heap.size w5 w6 := hbd.trans (hb6.mono hbd.size)
            have h6 := isR.below (unhide HD) hb56 (isR.lt (unhide HD))
            have hg6 := (unhide HGD).below hb56 (unhide HGD).lt
            have hx6 := (unhide HXD).more hb56 (unhide HXD).size
            have h06 : Below S w00 w6 := (unhide H0D).trans (hb56.mono (by have := unhide HSS; have := isR.lt (unhide HD); omega))
            have hfd : G.find X.p m.mv = L.find? fun q => decide (G.tx X.p q = m.mv.data.toList) := by rw [hL]; rfl
            rw [hfd] at HST4
            have HL := hide hL
            have HN := hide hn
            have HL6 := hide hl6
            have H6 := hide h6
            have HG6 := hide hg6
            have HX6 := hide hx6
            have H06 := hide h06
            have hb6l := isR.lt h6
            have HLO : Hid (∀ g off, lo = some ⟨g, off, none⟩ → g ≠ b) := hide fun g off e => by
              have h1 := (own_gt hown (k := g) (by rw [e]; rfl)).1
              have h2 := isR.lt (unhide HD)
              have h3 := hbd.size
              omega
            clear hown hL hn hl6 hb56 h6 hg6 hx6 h06 hfd hb6 hbd HD HGD HXD H0D HS5 HMV
            obtain ⟨FR, hFR⟩ : ∃ FR, FR = L.find? fun q => decide (G.tx X.p q = m.mv.data.toList) := ⟨_, rfl⟩
            rw [← hFR] at HST4
            have HFR := hide hFR
            clear hFR
            go_wp2_with fail
            go_loopw [7] (fun iv wr => ∃ k : Nat, iv = .int .i64 (k : Int) ∧ k ≤ n ∧ Hid (((L.drop k).find? fun q => decide (G.tx X.p q = m.mv.data.toList)) = FR) ∧ Hid (Below w6.heap.size w6 wr)) (fun iv _ => n - (intOf iv).toNat)
            case atStart => exact ⟨0, rfl, Nat.zero_le _, hide (unhide HFR).symm, hide (Below.refl _ _)⟩
            case round =>
              obtain ⟨k, rfl, hk, HFK, HBR⟩ := hrel
              by_cases hlt : k < n
              · have hlti : (k : Int) < (n : Int) := by omega
                have hi0 : (0 : Int) ≤ (k : Int) := by omega
                have hkl : k < L.length := by rw [← unhide HN]; exact hlt
                obtain ⟨q, hq⟩ : ∃ q, L[k]? = some q := ⟨L[k], List.getElem?_eq_getElem hkl⟩
                have hqm : q ∈ G.L X.p := by rw [← unhide HL]; exact List.mem_of_getElem? hq
                have hfk := unhide HFK
                rw [find_drop hq] at hfk
                obtain ⟨ao, cap, e1, hle, hmx, hcs⟩ := (unhide HL6).below (unhide HBR)
                obtain ⟨g, off, eg, hgk, c0, c1, c2⟩ := hcs k q hq
                simp only [Value.slice.injEq] at e1
                obtain ⟨e1, e2, e3⟩ := e1
                subst eg
                subst e1
                subst e3
                unfold maxLen at hmx
                rw [← unhide HN] at hle
                have hnx : n ≤ 9223372036854775807 := by omega
                obtain ⟨Y, hY⟩ : ∃ Y : ByteArray, Y = ⟨(G.tx X.p q).toArray⟩ := ⟨_, rfl⟩
                have hYs : (Y = m.mv) ↔ G.tx X.p q = m.mv.data.toList := by
                  rw [hY]
                  constructor
                  · intro h; rw [← h]
                  · intro h; rw [h]
                have hMT : ∀ u, Calls Tryz.prog 74 #[.agg #[.int .i64 X.p.W, .int .i64 X.p.H, .string X.p.C, .int .i64 X.p.T, .string X.p.A, .string X.p.B], .agg #[.int .i64 q.f, .int .i64 (q.t : Int), .int .u8 (q.c : Int)]] u fun e u' => e = .returned (.string Y) ∧ Below u.heap.size u u' := fun u => by rw [hY]; exact (unhide HC).X _ (unhide HOK) q hqm u
                have hMD := (unhide HC).D _ (unhide HOK) q hqm
                have hwr := isR.below (unhide H6) (unhide HBR) (isR.lt (unhide H6))
                have hgr := (unhide HG6).below (unhide HBR) (unhide HG6).lt
                have hS18 : ∀ u, Below wr.heap.size wr u → (fun u => (u.cell? ⟨b, 13, none⟩ = some (.int .i64 X.p.W) ∧ u.cell? ⟨b, 14, none⟩ = some (.int .i64 X.p.H) ∧ u.cell? ⟨b, 15, none⟩ = some (.string X.p.C) ∧ u.cell? ⟨b, 16, none⟩ = some (.int .i64 X.p.T) ∧ u.cell? ⟨b, 17, none⟩ = some (.string X.p.A) ∧ u.cell? ⟨b, 18, none⟩ = some (.string X.p.B)) ∧ (u.cell? ⟨g, off + k * 3, none⟩ = some (.int .i64 q.f) ∧ u.cell? ⟨g, off + k * 3 + 1, none⟩ = some (.int .i64 (q.t : Int)) ∧ u.cell? ⟨g, off + k * 3 + 2, none⟩ = some (.int .u8 (q.c : Int))) ∧ u.cell? ⟨w.heap.size, 2, none⟩ = some (.string m.mv)) u := fun u hu => by
                  have c := isR.cells (isR.below hwr hu (isR.lt hwr))
                  exact ⟨c.2.1, ⟨(hu.cell (p := ⟨g, off + k * 3, none⟩) hgk).trans c0, (hu.cell (p := ⟨g, off + k * 3 + 1, none⟩) hgk).trans c1, (hu.cell (p := ⟨g, off + k * 3 + 2, none⟩) hgk).trans c2⟩, ((hgr.below hu hgr.lt).cells).2.2.1⟩
                have hS20 : ∀ u, Ex b wr.heap.size wr u → g ≠ b → u.cell? ⟨g, off + k * 3, none⟩ = some (.int .i64 q.f) ∧ u.cell? ⟨g, off + k * 3 + 1, none⟩ = some (.int .i64 (q.t : Int)) ∧ u.cell? ⟨g, off + k * 3 + 2, none⟩ = some (.int .u8 (q.c : Int)) := fun u hu hne => by
                  have hb := hu.block g hgk hne
                  have hcc : ∀ j, u.cell? ⟨g, j, none⟩ = wr.cell? ⟨g, j, none⟩ := fun j => by simp only [World.cell?]; rw [hb]
                  exact ⟨(hcc _).trans c0, (hcc _).trans c1, (hcc _).trans c2⟩
                have hgb : g ≠ b := unhide HLO g off rfl
                have HS18 := hide hS18
                have HS20 := hide hS20
                have HMT := hide hMT
                have HMD := hide hMD
                have HWR := hide hwr
                have HGR := hide hgr
                have HYS := hide hYs
                have HFQ := hide hfk
                have HQM := hide hqm
                clear hq hqm hfk hcs hY hYs hMT hMD hwr hgr hS18 hS20 c0 c1 c2 hgk e2 HFK
                go_upto_region 18 with fail
                obtain ⟨wd, hwd⟩ : ∃ wd, wd = wr.drew := ⟨_, rfl⟩
                have hbd : Below wr.heap.size wr wd := by rw [hwd]; exact (Below.refl _ _).drew
                refine wp_region_v [11] (fun u => (u.cell? ⟨b, 13, none⟩ = some (.int .i64 X.p.W) ∧ u.cell? ⟨b, 14, none⟩ = some (.int .i64 X.p.H) ∧ u.cell? ⟨b, 15, none⟩ = some (.string X.p.C) ∧ u.cell? ⟨b, 16, none⟩ = some (.int .i64 X.p.T) ∧ u.cell? ⟨b, 17, none⟩ = some (.string X.p.A) ∧ u.cell? ⟨b, 18, none⟩ = some (.string X.p.B)) ∧ (u.cell? ⟨g, off + k * 3, none⟩ = some (.int .i64 q.f) ∧ u.cell? ⟨g, off + k * 3 + 1, none⟩ = some (.int .i64 (q.t : Int)) ∧ u.cell? ⟨g, off + k * 3 + 2, none⟩ = some (.int .u8 (q.c : Int))) ∧ u.cell? ⟨w.heap.size, 2, none⟩ = some (.string m.mv)) (by kernel_rfl) ?_
                rw [← hwd]
                clear hwd
                have hHeld := unhide HS18 wd hbd
                refine wpAnyV_tk (i := 0) (oi := _) (v := ?_) rfl (by kernel_rfl) (by kernel_rfl) (by kernel_rfl) (by kernel_rfl) (fun _ _ _ h => h) (Or.inl ⟨by rfl, ?_⟩) (by assumption) ?_
                rotate_left 1
                · (intro u hSu; (try dsimp only at hSu); go_simp; first | done | with_reducible rfl | rfl)
                simp only [Act.put, List.getElem_toArray, List.getElem_cons_zero, List.setIfInBounds_toArray, List.set_cons_zero, List.set_cons_succ]
                refine wpAnyV_tk (i := 1) (oi := _) (v := ?_) rfl (by kernel_rfl) (by kernel_rfl) (by kernel_rfl) (by kernel_rfl) (fun _ _ _ h => h) (Or.inl ⟨by rfl, ?_⟩) (by assumption) ?_
                rotate_left 1
                · (intro u hSu; (try dsimp only at hSu); go_simp; first | done | with_reducible rfl | rfl)
                simp only [Act.put, List.getElem_toArray, List.getElem_cons_zero, List.getElem_cons_succ, List.setIfInBounds_toArray, List.set_cons_zero, List.set_cons_succ]
                refine wpAnyV_tk (i := 2) (oi := _) (v := ?_) rfl (by kernel_rfl) (by kernel_rfl) (by kernel_rfl) (by kernel_rfl) (fun _ _ _ h => h) (Or.inl ⟨by rfl, ?_⟩) (by assumption) ?_
                rotate_left 1
                · (intro u hSu; (try dsimp only at hSu); go_simp; first | done | with_reducible rfl | rfl)
                simp only [Act.put, List.getElem_toArray, List.getElem_cons_zero, List.getElem_cons_succ, List.setIfInBounds_toArray, List.set_cons_zero, List.set_cons_succ]
                refine wpAnyV_tk (i := 3) (oi := _) (v := ?_) rfl (by kernel_rfl) (by kernel_rfl) (by kernel_rfl) (by kernel_rfl) (fun _ _ _ h => h) (Or.inl ⟨by rfl, ?_⟩) (by assumption) ?_
                rotate_left 1
                · (intro u hSu; (try dsimp only at hSu); go_simp; first | done | with_reducible rfl | rfl)
                simp only [Act.put, List.getElem_toArray, List.getElem_cons_zero, List.getElem_cons_succ, List.setIfInBounds_toArray, List.set_cons_zero, List.set_cons_succ]
                refine wpAnyV_tk (i := 4) (oi := _) (v := ?_) rfl (by kernel_rfl) (by kernel_rfl) (by kernel_rfl) (by kernel_rfl) (fun _ _ _ h => h) (Or.inl ⟨by rfl, ?_⟩) (by assumption) ?_
                rotate_left 1
                · (intro u hSu; (try dsimp only at hSu); go_simp; first | done | with_reducible rfl | rfl)
                simp only [Act.put, List.getElem_toArray, List.getElem_cons_zero, List.getElem_cons_succ, List.setIfInBounds_toArray, List.set_cons_zero, List.set_cons_succ]
                refine wpAnyV_tk (i := 5) (oi := _) (v := ?_) rfl (by kernel_rfl) (by kernel_rfl) (by kernel_rfl) (by kernel_rfl) (fun _ _ _ h => h) (Or.inl ⟨by rfl, ?_⟩) (by assumption) ?_
                rotate_left 1
                · (intro u hSu; (try dsimp only at hSu); go_simp; first | done | with_reducible rfl | rfl)
                simp only [Act.put, List.getElem_toArray, List.getElem_cons_zero, List.getElem_cons_succ, List.setIfInBounds_toArray, List.set_cons_zero, List.set_cons_succ]
                refine wpAnyV_tk (i := 6) (oi := _) (v := ?_) rfl (by kernel_rfl) (by kernel_rfl) (by kernel_rfl) (by kernel_rfl) (fun _ _ _ h => h) (Or.inl ⟨by rfl, ?_⟩) (by assumption) ?_
                rotate_left 1
                · (intro u hSu; (try dsimp only at hSu); go_simp; first | done | with_reducible rfl | rfl)
                simp only [Act.put, List.getElem_toArray, List.getElem_cons_zero, List.getElem_cons_succ, List.setIfInBounds_toArray, List.set_cons_zero, List.set_cons_succ]
                refine wpAnyV_tk (i := 7) (oi := _) (v := ?_) rfl (by kernel_rfl) (by kernel_rfl) (by kernel_rfl) (by kernel_rfl) (fun _ _ _ h => h) (Or.inl ⟨by rfl, ?_⟩) (by assumption) ?_
                rotate_left 1
                · (intro u hSu; (try dsimp only at hSu); go_simp; first | done | with_reducible rfl | rfl)
                simp only [Act.put, List.getElem_toArray, List.getElem_cons_zero, List.getElem_cons_succ, List.setIfInBounds_toArray, List.set_cons_zero, List.set_cons_succ]
                refine wpAnyV_tk (i := 9) (oi := _) (v := ?_) rfl (by kernel_rfl) (by kernel_rfl) (by kernel_rfl) (by kernel_rfl) (fun _ _ _ h => h) (Or.inl ⟨by rfl, ?_⟩) (by assumption) ?_
                rotate_left 1
                · (intro u hSu; (try dsimp only at hSu); go_simp; first | done | with_reducible rfl | rfl)
                simp only [Act.put, List.getElem_toArray, List.getElem_cons_zero, List.getElem_cons_succ, List.setIfInBounds_toArray, List.set_cons_zero, List.set_cons_succ]
                refine wpAnyV_tk (i := 10) (oi := _) (v := ?_) rfl (by kernel_rfl) (by kernel_rfl) (by kernel_rfl) (by kernel_rfl) (fun _ _ _ h => h) (Or.inl ⟨by rfl, ?_⟩) (by assumption) ?_
                rotate_left 1
                · (intro u hSu; (try dsimp only at hSu); go_simp; first | done | with_reducible rfl | rfl)
                simp only [Act.put, List.getElem_toArray, List.getElem_cons_zero, List.getElem_cons_succ, List.setIfInBounds_toArray, List.set_cons_zero, List.set_cons_succ]
                clear hHeld
                refine wpAnyV_ready (rs := [8]) (by kernel_rfl) (by simp) ?_
                refine ReadyV.cons (o := _) rfl (fun K hK => ?_) ReadyV.nil
                refine step_callH (by rfl) 74 _ _ rfl #[.agg #[.int .i64 X.p.W, .int .i64 X.p.H, .string X.p.C, .int .i64 X.p.T, .string X.p.A, .string X.p.B], .agg #[.int .i64 q.f, .int .i64 (q.t : Int), .int .u8 (q.c : Int)]] (by simp [Act.eval]) entMT (unhide HMT wd) ?_
                rintro e wt ⟨rfl, hbt⟩
                refine ⟨_, rfl, ?_⟩
                have hrt : Below wr.heap.size wr wt := hbd.trans (hbt.mono hbd.size)
                have hHeld := unhide HS18 wt hrt
                refine hK.out _ _ (fun _ => hHeld) ?_
                clear hK K
                try simp only [Act.put, List.getElem_toArray, List.getElem_cons_zero, List.getElem_cons_succ, List.setIfInBounds_toArray, List.set_cons_zero, List.set_cons_succ]
                clear hHeld
                have HRT := hide hrt
                clear hbd hbt hrt HS18 HMT
                by_cases heq : Y = m.mv
                · have hq1 : (Y.toList == m.mv.toList) = true := by rw [heq]; simp
                  refine wpAnyV_ready (rs := [11]) (by kernel_rfl) (by simp) ?_
                  refine ReadyV.cons (o := _) rfl (fun K hK => ?_) ReadyV.nil
                  go_simp
                  refine hK.out _ _ (fun h => absurd h (by decide)) ?_
                  clear hK K
                  try simp only [Act.put, List.getElem_toArray, List.getElem_cons_zero, List.getElem_cons_succ, List.setIfInBounds_toArray, List.set_cons_zero, List.set_cons_succ]
                  refine wpAnyV_done (by kernel_rfl) ?_ _
                  have hFRq : FR = some q := by
                    have h1 := unhide HFQ
                    rw [if_pos ((unhide HYS).1 heq)] at h1
                    exact h1.symm
                  have hsz : m.mv.size ≤ 10 := by
                    have h1 := (unhide HGG).tx _ (unhide HOK) _ (unhide HQM)
                    rw [(unhide HYS).1 heq, len_data] at h1
                    exact h1
                  have hpo := (unhide HGG).pl
                  have hPL := unhide HPL
                  have hI := unhide HI
                  have hyb : 0 ≤ X.ply ∧ X.ply ≤ 1000 := ⟨hI.ply.1, by omega⟩
                  have hlx := lineX_len (ply := X.ply) (now := X.now) (mv := m.mv) ⟨hyb.1, by omega⟩ hI.now hsz
                  obtain ⟨AY, hAY⟩ : ∃ AY, AY = itoaB X.ply := ⟨_, rfl⟩
                  obtain ⟨AN, hAN⟩ : ∃ AN, AN = itoaB X.now := ⟨_, rfl⟩
                  obtain ⟨Q1, hQ1⟩ : ∃ Q1, Q1 = AY ++ (⟨#[32]⟩ : ByteArray) := ⟨_, rfl⟩
                  obtain ⟨Q2, hQ2⟩ : ∃ Q2, Q2 = Q1 ++ AN := ⟨_, rfl⟩
                  obtain ⟨Q3, hQ3⟩ : ∃ Q3, Q3 = Q2 ++ (⟨#[32]⟩ : ByteArray) := ⟨_, rfl⟩
                  obtain ⟨Q4, hQ4⟩ : ∃ Q4, Q4 = Q3 ++ m.mv := ⟨_, rfl⟩
                  obtain ⟨Q5, hQ5⟩ : ∃ Q5, Q5 = Q4 ++ (⟨#[10]⟩ : ByteArray) := ⟨_, rfl⟩
                  obtain ⟨Q6, hQ6⟩ : ∃ Q6, Q6 = X.tx ++ Q5 := ⟨_, rfl⟩
                  have hline : X.tx ++ lineX X.ply X.now m.mv = Q6 := by rw [hQ6, hQ5, hQ4, hQ3, hQ2, hQ1, hAY, hAN]; rfl
                  have sAY : AY.size ≤ 21 := by rw [hAY]; exact itoa_len _ ⟨hyb.1, by omega⟩
                  have sAN : AN.size ≤ 21 := by rw [hAN]; exact itoa_len _ hI.now
                  have s1 : Q1.size = AY.size + 1 := by rw [hQ1, ByteArray.size_append]; rfl
                  have s2 : Q2.size = Q1.size + AN.size := by rw [hQ2, ByteArray.size_append]
                  have s3 : Q3.size = Q2.size + 1 := by rw [hQ3, ByteArray.size_append]; rfl
                  have s4 : Q4.size = Q3.size + m.mv.size := by rw [hQ4, ByteArray.size_append]
                  have s5 : Q5.size = Q4.size + 1 := by rw [hQ5, ByteArray.size_append]; rfl
                  have hxt := hI.tx
                  have b1 : ¬ 9223372036854775807 < AY.size + 1 := by omega
                  have b1' : AY.size + 1 ≤ 9223372036854775807 := by omega
                  have b2 : ¬ 9223372036854775807 < Q1.size + AN.size := by omega
                  have b3 : ¬ 9223372036854775807 < Q2.size + 1 := by omega
                  have b3' : Q2.size + 1 ≤ 9223372036854775807 := by omega
                  have b4 : ¬ 9223372036854775807 < Q3.size + m.mv.size := by omega
                  have b5 : ¬ 9223372036854775807 < Q4.size + 1 := by omega
                  have b5' : Q4.size + 1 ≤ 9223372036854775807 := by omega
                  have b6 : ¬ 9223372036854775807 < X.tx.size + Q5.size := by omega
                  have hRR : Hid (R = ({ X with p := G.beh X.p q, ply := X.ply + 1, tx := Q6 }, 1)) := hide (by rw [unhide HST4, hFRq]; show (_, _) = _; rw [← hline])
                  have HIY := hide (fun u (hu : isTab u) => itoaB_any X.ply u ⟨hyb.1, by omega⟩ hu)
                  have HIN := hide (fun u (hu : isTab u) => itoaB_any X.now u hI.now hu)
                  rw [← hAY] at HIY
                  rw [← hAN] at HIN
                  have hbrt : Below w6.heap.size w6 wt := (unhide HBR).trans ((unhide HRT).mono (unhide HBR).size)
                  have ht := isR.below (unhide H6) hbrt (isR.lt (unhide H6))
                  have hgt := (unhide HG6).below hbrt (unhide HG6).lt
                  have hxwt := (unhide HX6).more hbrt (unhide HX6).size
                  have h0t : Below S w00 wt := (unhide H06).trans (hbrt.mono (by have := unhide HSS; have := isR.lt (unhide H6); omega))
                  have hS19 : ∀ u, Below wt.heap.size wt u → (fun u => u.cell? ⟨b, 24, none⟩ = some (.string X.tx) ∧ u.cell? ⟨b, 19, none⟩ = some (.int .i64 X.ply) ∧ u.cell? ⟨b, 22, none⟩ = some (.int .i64 X.now) ∧ u.cell? ⟨w.heap.size, 2, none⟩ = some (.string m.mv)) u := fun u hu => by
                    have c := isR.cells (isR.below ht hu (isR.lt ht))
                    exact ⟨c.2.2.2.2.2.2.2, c.2.2.1, c.2.2.2.2.2.1, ((hgt.below hu hgt.lt).cells).2.2.1⟩
                  have htab : ∀ u, Below wt.heap.size wt u → isTab u := fun u hu => (unhide HC).tab u (h0t.trans (hu.mono (by have := unhide HSS; have := isR.lt ht; omega)))
                  have hwy : IntKind.i64.wrap (X.ply + 1) = X.ply + 1 := IntWalk.i64_in _ (by omega)
                  have HS19 := hide hS19
                  have HTAB := hide htab
                  have HTT := hide ht
                  have HXWT := hide hxwt
                  have HQ := hide (And.intro hQ1 (And.intro hQ2 (And.intro hQ3 (And.intro hQ4 (And.intro hQ5 hQ6)))))
                  have HWY := hide hwy
                  clear HFQ HYS heq hFRq hsz hpo hI hyb hlx hAY hAN hQ1 hQ2 hQ3 hQ4 hQ5 hQ6 hline sAY sAN s1 s2 s3 s4 s5 hxt hS19 htab ht hgt hxwt h0t hbrt hPL hwy HST4
                  go_upto_region 19 with fail
                  obtain ⟨wd, hwd⟩ : ∃ wd, wd = wt.drew := ⟨_, rfl⟩
                  have hbd : Below wt.heap.size wt wd := by rw [hwd]; exact (Below.refl _ _).drew
                  refine wp_region_v [24] (fun u => u.cell? ⟨b, 24, none⟩ = some (.string X.tx) ∧ u.cell? ⟨b, 19, none⟩ = some (.int .i64 X.ply) ∧ u.cell? ⟨b, 22, none⟩ = some (.int .i64 X.now) ∧ u.cell? ⟨w.heap.size, 2, none⟩ = some (.string m.mv)) (by kernel_rfl) ?_
                  rw [← hwd]
                  clear hwd
                  have hHeld := unhide HS19 wd hbd
                  refine wpAnyV_tk (i := 0) (oi := _) (v := ?_) rfl (by kernel_rfl) (by kernel_rfl) (by kernel_rfl) (by kernel_rfl) (fun _ _ _ h => h) (Or.inl ⟨by rfl, ?_⟩) (by assumption) ?_
                  rotate_left 1
                  · (intro u hSu; (try dsimp only at hSu); go_simp; first | done | with_reducible rfl | rfl)
                  simp only [Act.put, List.getElem_toArray, List.getElem_cons_zero, List.setIfInBounds_toArray, List.set_cons_zero, List.set_cons_succ]
                  refine wpAnyV_tk (i := 1) (oi := _) (v := ?_) rfl (by kernel_rfl) (by kernel_rfl) (by kernel_rfl) (by kernel_rfl) (fun _ _ _ h => h) (Or.inl ⟨by rfl, ?_⟩) (by assumption) ?_
                  rotate_left 1
                  · (intro u hSu; (try dsimp only at hSu); go_simp; first | done | with_reducible rfl | rfl)
                  simp only [Act.put, List.getElem_toArray, List.getElem_cons_zero, List.getElem_cons_succ, List.setIfInBounds_toArray, List.set_cons_zero, List.set_cons_succ]
                  refine wpAnyV_tk (i := 2) (oi := _) (v := ?_) rfl (by kernel_rfl) (by kernel_rfl) (by kernel_rfl) (by kernel_rfl) (fun _ _ _ h => h) (Or.inl ⟨by rfl, ?_⟩) (by assumption) ?_
                  rotate_left 1
                  · (intro u hSu; (try dsimp only at hSu); go_simp; first | done | with_reducible rfl | rfl)
                  simp only [Act.put, List.getElem_toArray, List.getElem_cons_zero, List.getElem_cons_succ, List.setIfInBounds_toArray, List.set_cons_zero, List.set_cons_succ]
                  refine wpAnyV_tk (i := 3) (oi := _) (v := ?_) rfl (by kernel_rfl) (by kernel_rfl) (by kernel_rfl) (by kernel_rfl) (fun _ _ _ h => h) (Or.inl ⟨by rfl, ?_⟩) (by assumption) ?_
                  rotate_left 1
                  · (intro u hSu; (try dsimp only at hSu); go_simp; first | done | with_reducible rfl | rfl)
                  simp only [Act.put, List.getElem_toArray, List.getElem_cons_zero, List.getElem_cons_succ, List.setIfInBounds_toArray, List.set_cons_zero, List.set_cons_succ]
                  refine wpAnyV_tk (i := 4) (oi := _) (v := ?_) rfl (by kernel_rfl) (by kernel_rfl) (by kernel_rfl) (by kernel_rfl) (fun _ _ _ h => h) (Or.inl ⟨by rfl, ?_⟩) (by assumption) ?_
                  rotate_left 1
                  · (intro u hSu; (try dsimp only at hSu); go_simp; first | done | with_reducible rfl | rfl)
                  simp only [Act.put, List.getElem_toArray, List.getElem_cons_zero, List.getElem_cons_succ, List.setIfInBounds_toArray, List.set_cons_zero, List.set_cons_succ]
                  refine wpAnyV_tk (i := 5) (oi := _) (v := ?_) rfl (by kernel_rfl) (by kernel_rfl) (by kernel_rfl) (by kernel_rfl) (fun _ _ _ h => h) (Or.inl ⟨by rfl, ?_⟩) (by assumption) ?_
                  rotate_left 1
                  · (intro u hSu; (try dsimp only at hSu); go_simp; first | done | with_reducible rfl | rfl)
                  simp only [Act.put, List.getElem_toArray, List.getElem_cons_zero, List.getElem_cons_succ, List.setIfInBounds_toArray, List.set_cons_zero, List.set_cons_succ]
                  refine wpAnyV_tk (i := 6) (oi := _) (v := ?_) rfl (by kernel_rfl) (by kernel_rfl) (by kernel_rfl) (by kernel_rfl) (fun _ _ _ h => h) (Or.inl ⟨by rfl, ?_⟩) (by assumption) ?_
                  rotate_left 1
                  · (intro u hSu; (try dsimp only at hSu); go_simp; first | done | with_reducible rfl | rfl)
                  simp only [Act.put, List.getElem_toArray, List.getElem_cons_zero, List.getElem_cons_succ, List.setIfInBounds_toArray, List.set_cons_zero, List.set_cons_succ]
                  refine wpAnyV_tk (i := 7) (oi := _) (v := ?_) rfl (by kernel_rfl) (by kernel_rfl) (by kernel_rfl) (by kernel_rfl) (fun _ _ _ h => h) (Or.inl ⟨by rfl, ?_⟩) (by assumption) ?_
                  rotate_left 1
                  · (intro u hSu; (try dsimp only at hSu); go_simp; first | done | with_reducible rfl | rfl)
                  simp only [Act.put, List.getElem_toArray, List.getElem_cons_zero, List.getElem_cons_succ, List.setIfInBounds_toArray, List.set_cons_zero, List.set_cons_succ]
                  refine wpAnyV_tk (i := 10) (oi := _) (v := ?_) rfl (by kernel_rfl) (by kernel_rfl) (by kernel_rfl) (by kernel_rfl) (fun _ _ _ h => h) (Or.inl ⟨by rfl, ?_⟩) (by assumption) ?_
                  rotate_left 1
                  · (intro u hSu; (try dsimp only at hSu); go_simp; first | done | with_reducible rfl | rfl)
                  simp only [Act.put, List.getElem_toArray, List.getElem_cons_zero, List.getElem_cons_succ, List.setIfInBounds_toArray, List.set_cons_zero, List.set_cons_succ]
                  refine wpAnyV_tk (i := 11) (oi := _) (v := ?_) rfl (by kernel_rfl) (by kernel_rfl) (by kernel_rfl) (by kernel_rfl) (fun _ _ _ h => h) (Or.inl ⟨by rfl, ?_⟩) (by assumption) ?_
                  rotate_left 1
                  · (intro u hSu; (try dsimp only at hSu); go_simp; first | done | with_reducible rfl | rfl)
                  simp only [Act.put, List.getElem_toArray, List.getElem_cons_zero, List.getElem_cons_succ, List.setIfInBounds_toArray, List.set_cons_zero, List.set_cons_succ]
                  refine wpAnyV_tk (i := 12) (oi := _) (v := ?_) rfl (by kernel_rfl) (by kernel_rfl) (by kernel_rfl) (by kernel_rfl) (fun _ _ _ h => h) (Or.inl ⟨by rfl, ?_⟩) (by assumption) ?_
                  rotate_left 1
                  · (intro u hSu; (try dsimp only at hSu); go_simp; first | done | with_reducible rfl | rfl)
                  simp only [Act.put, List.getElem_toArray, List.getElem_cons_zero, List.getElem_cons_succ, List.setIfInBounds_toArray, List.set_cons_zero, List.set_cons_succ]
                  refine wpAnyV_tk (i := 13) (oi := _) (v := ?_) rfl (by kernel_rfl) (by kernel_rfl) (by kernel_rfl) (by kernel_rfl) (fun _ _ _ h => h) (Or.inl ⟨by rfl, ?_⟩) (by assumption) ?_
                  rotate_left 1
                  · (intro u hSu; (try dsimp only at hSu); go_simp; first | done | with_reducible rfl | rfl)
                  simp only [Act.put, List.getElem_toArray, List.getElem_cons_zero, List.getElem_cons_succ, List.setIfInBounds_toArray, List.set_cons_zero, List.set_cons_succ]
                  refine wpAnyV_tk (i := 17) (oi := _) (v := ?_) rfl (by kernel_rfl) (by kernel_rfl) (by kernel_rfl) (by kernel_rfl) (fun _ _ _ h => h) (Or.inl ⟨by rfl, ?_⟩) (by assumption) ?_
                  rotate_left 1
                  · (intro u hSu; (try dsimp only at hSu); go_simp; first | done | with_reducible rfl | rfl)
                  simp only [Act.put, List.getElem_toArray, List.getElem_cons_zero, List.getElem_cons_succ, List.setIfInBounds_toArray, List.set_cons_zero, List.set_cons_succ]
                  refine wpAnyV_tk (i := 18) (oi := _) (v := ?_) rfl (by kernel_rfl) (by kernel_rfl) (by kernel_rfl) (by kernel_rfl) (fun _ _ _ h => h) (Or.inl ⟨by rfl, ?_⟩) (by assumption) ?_
                  rotate_left 1
                  · (intro u hSu; (try dsimp only at hSu); go_simp; first | done | with_reducible rfl | rfl)
                  simp only [Act.put, List.getElem_toArray, List.getElem_cons_zero, List.getElem_cons_succ, List.setIfInBounds_toArray, List.set_cons_zero, List.set_cons_succ]
                  clear hHeld
                  refine wpAnyV_ready (rs := [8]) (by kernel_rfl) (by simp) ?_
                  refine ReadyV.cons (o := _) rfl (fun K hK => ?_) ReadyV.nil
                  refine step_callH (by rfl) 75 _ _ rfl #[.int .i64 X.ply] (by simp [Act.eval]) entItoa (unhide HIY wd (unhide HTAB wd hbd)) ?_
                  rintro e y1 ⟨rfl, hb1⟩
                  refine ⟨_, rfl, ?_⟩
                  have hr1 : Below wt.heap.size wt y1 := hbd.trans (hb1.mono hbd.size)
                  have hHeld := unhide HS19 y1 hr1
                  refine hK.out _ _ (fun _ => hHeld) ?_
                  clear hK K hb1
                  try simp only [Act.put, List.getElem_toArray, List.getElem_cons_zero, List.getElem_cons_succ, List.setIfInBounds_toArray, List.set_cons_zero, List.set_cons_succ]
                  refine wpAnyV_pure (i := 9) (oi := _) (v := ?_) rfl (by kernel_rfl) (by kernel_rfl) (by kernel_rfl) (by kernel_rfl) (fun _ _ _ h => h) (Or.inl ⟨by rfl, ?_⟩) (by first | exact fun _ => hHeld | (intro h; exact absurd h (by decide))) ?_
                  rotate_left 1
                  · (intro u _; go_simp; first | done | with_reducible rfl | rfl)
                  simp only [Act.put, List.getElem_toArray, List.getElem_cons_zero, List.getElem_cons_succ, List.setIfInBounds_toArray, List.set_cons_zero, List.set_cons_succ]
                  rw [← (unhide HQ).1]
                  clear hHeld
                  refine wpAnyV_ready (rs := [14]) (by kernel_rfl) (by simp) ?_
                  refine ReadyV.cons (o := _) rfl (fun K hK => ?_) ReadyV.nil
                  refine step_callH (by rfl) 75 _ _ rfl #[.int .i64 X.now] (by simp [Act.eval]) entItoa (unhide HIN y1 (unhide HTAB y1 hr1)) ?_
                  rintro e y2 ⟨rfl, hb2⟩
                  refine ⟨_, rfl, ?_⟩
                  have hr2 : Below wt.heap.size wt y2 := hr1.trans (hb2.mono hr1.size)
                  have hHeld := unhide HS19 y2 hr2
                  refine hK.out _ _ (fun _ => hHeld) ?_
                  clear hK K hb2
                  try simp only [Act.put, List.getElem_toArray, List.getElem_cons_zero, List.getElem_cons_succ, List.setIfInBounds_toArray, List.set_cons_zero, List.set_cons_succ]
                  refine wpAnyV_pure (i := 15) (oi := _) (v := ?_) rfl (by kernel_rfl) (by kernel_rfl) (by kernel_rfl) (by kernel_rfl) (fun _ _ _ h => h) (Or.inl ⟨by rfl, ?_⟩) (by first | exact fun _ => hHeld | (intro h; exact absurd h (by decide))) ?_
                  rotate_left 1
                  · (intro u _; go_simp; first | done | with_reducible rfl | rfl)
                  simp only [Act.put, List.getElem_toArray, List.getElem_cons_zero, List.getElem_cons_succ, List.setIfInBounds_toArray, List.set_cons_zero, List.set_cons_succ]
                  rw [← (unhide HQ).2.1]
                  refine wpAnyV_pure (i := 16) (oi := _) (v := ?_) rfl (by kernel_rfl) (by kernel_rfl) (by kernel_rfl) (by kernel_rfl) (fun _ _ _ h => h) (Or.inl ⟨by rfl, ?_⟩) (by first | exact fun _ => hHeld | (intro h; exact absurd h (by decide))) ?_
                  rotate_left 1
                  · (intro u _; go_simp; first | done | with_reducible rfl | rfl)
                  simp only [Act.put, List.getElem_toArray, List.getElem_cons_zero, List.getElem_cons_succ, List.setIfInBounds_toArray, List.set_cons_zero, List.set_cons_succ]
                  rw [← (unhide HQ).2.2.1]
                  refine wpAnyV_pure (i := 19) (oi := _) (v := ?_) rfl (by kernel_rfl) (by kernel_rfl) (by kernel_rfl) (by kernel_rfl) (fun _ _ _ h => h) (Or.inl ⟨by rfl, ?_⟩) (by first | exact fun _ => hHeld | (intro h; exact absurd h (by decide))) ?_
                  rotate_left 1
                  · (intro u _; go_simp; first | done | with_reducible rfl | rfl)
                  simp only [Act.put, List.getElem_toArray, List.getElem_cons_zero, List.getElem_cons_succ, List.setIfInBounds_toArray, List.set_cons_zero, List.set_cons_succ]
                  rw [← (unhide HQ).2.2.2.1]
                  refine wpAnyV_pure (i := 20) (oi := _) (v := ?_) rfl (by kernel_rfl) (by kernel_rfl) (by kernel_rfl) (by kernel_rfl) (fun _ _ _ h => h) (Or.inl ⟨by rfl, ?_⟩) (by first | exact fun _ => hHeld | (intro h; exact absurd h (by decide))) ?_
                  rotate_left 1
                  · (intro u _; go_simp; first | done | with_reducible rfl | rfl)
                  simp only [Act.put, List.getElem_toArray, List.getElem_cons_zero, List.getElem_cons_succ, List.setIfInBounds_toArray, List.set_cons_zero, List.set_cons_succ]
                  rw [← (unhide HQ).2.2.2.2.1]
                  refine wpAnyV_pure (i := 21) (oi := _) (v := ?_) rfl (by kernel_rfl) (by kernel_rfl) (by kernel_rfl) (by kernel_rfl) (fun _ _ _ h => h) (Or.inl ⟨by rfl, ?_⟩) (by first | exact fun _ => hHeld | (intro h; exact absurd h (by decide))) ?_
                  rotate_left 1
                  · (intro u _; go_simp; first | done | with_reducible rfl | rfl)
                  simp only [Act.put, List.getElem_toArray, List.getElem_cons_zero, List.getElem_cons_succ, List.setIfInBounds_toArray, List.set_cons_zero, List.set_cons_succ]
                  rw [← (unhide HQ).2.2.2.2.2]
                  refine wpAnyV_pure (i := 22) (oi := _) (v := ?_) rfl (by kernel_rfl) (by kernel_rfl) (by kernel_rfl) (by kernel_rfl) (fun _ _ _ h => h) (Or.inl ⟨by rfl, ?_⟩) (by first | exact fun _ => hHeld | (intro h; exact absurd h (by decide))) ?_
                  rotate_left 1
                  · (intro u _; go_simp; first | done | with_reducible rfl | rfl)
                  simp only [Act.put, List.getElem_toArray, List.getElem_cons_zero, List.getElem_cons_succ, List.setIfInBounds_toArray, List.set_cons_zero, List.set_cons_succ]
                  refine wpAnyV_pure (i := 23) (oi := _) (v := ?_) rfl (by kernel_rfl) (by kernel_rfl) (by kernel_rfl) (by kernel_rfl) (fun _ _ _ h => h) (Or.inl ⟨by rfl, ?_⟩) (by first | exact fun _ => hHeld | (intro h; exact absurd h (by decide))) ?_
                  rotate_left 1
                  · (intro u _; go_simp; first | done | with_reducible rfl | rfl)
                  simp only [Act.put, List.getElem_toArray, List.getElem_cons_zero, List.getElem_cons_succ, List.setIfInBounds_toArray, List.set_cons_zero, List.set_cons_succ]
                  clear hHeld
                  have hy2 := isR.below (unhide HTT) hr2 (isR.lt (unhide HTT))
                  have c24 := (isR.cells hy2).2.2.2.2.2.2.2
                  have f24 := isR.frozen hy2 24
                  refine wpAnyV_ready (rs := [24]) (by kernel_rfl) (by simp) ?_
                  refine ReadyV.cons (o := _) rfl (fun K hK => ?_) ReadyV.nil
                  go_simp
                  refine hK.out _ _ (fun h => absurd h (by decide)) ?_
                  clear hK K c24 f24
                  try simp only [Act.put, List.getElem_toArray, List.getElem_cons_zero, List.getElem_cons_succ, List.setIfInBounds_toArray, List.set_cons_zero, List.set_cons_succ]
                  refine wpAnyV_done (by kernel_rfl) ?_ _
                  have hz := isR.set24 hy2 Q6
                  have hxz : Ex b w.heap.size w (y2.setCell ⟨b, 24, none⟩ (.string Q6)) := ((unhide HXWT).more hr2 (unhide HXWT).size).set 24 _
                  have hxr : Ex b wr.heap.size wr (y2.setCell ⟨b, 24, none⟩ (.string Q6)) := ((Ex.of (unhide HRT)).more hr2 (unhide HRT).size).set 24 _
                  generalize y2.setCell ⟨b, 24, none⟩ (.string Q6) = z at hz hxz hxr ⊢
                  have hS20 : ∀ u, Below z.heap.size z u → (fun u => (u.cell? ⟨b, 0, none⟩ = some v0 ∧ u.cell? ⟨b, 1, none⟩ = some v1 ∧ u.cell? ⟨b, 2, none⟩ = some v2 ∧ u.cell? ⟨b, 3, none⟩ = some v3 ∧ u.cell? ⟨b, 4, none⟩ = some v4 ∧ u.cell? ⟨b, 5, none⟩ = some v5 ∧ u.cell? ⟨b, 6, none⟩ = some v6 ∧ u.cell? ⟨b, 7, none⟩ = some v7 ∧ u.cell? ⟨b, 8, none⟩ = some v8 ∧ u.cell? ⟨b, 9, none⟩ = some v9 ∧ u.cell? ⟨b, 10, none⟩ = some v10 ∧ u.cell? ⟨b, 11, none⟩ = some v11 ∧ u.cell? ⟨b, 12, none⟩ = some (.int .i64 G.pl)) ∧ (u.cell? ⟨b, 13, none⟩ = some (.int .i64 X.p.W) ∧ u.cell? ⟨b, 14, none⟩ = some (.int .i64 X.p.H) ∧ u.cell? ⟨b, 15, none⟩ = some (.string X.p.C) ∧ u.cell? ⟨b, 16, none⟩ = some (.int .i64 X.p.T) ∧ u.cell? ⟨b, 17, none⟩ = some (.string X.p.A) ∧ u.cell? ⟨b, 18, none⟩ = some (.string X.p.B)) ∧ (u.cell? ⟨g, off + k * 3, none⟩ = some (.int .i64 q.f) ∧ u.cell? ⟨g, off + k * 3 + 1, none⟩ = some (.int .i64 (q.t : Int)) ∧ u.cell? ⟨g, off + k * 3 + 2, none⟩ = some (.int .u8 (q.c : Int)))) u := fun u hu => by
                    have c := isR.cells (isR.below hz hu (isR.lt hz))
                    exact ⟨c.1, c.2.1, unhide HS20 u (hxr.more hu hxr.size) hgb⟩
                  have HS := hide hS20
                  have HZ := hide hz
                  have HXZ := hide hxz
                  clear hz hxz hxr hS20 hy2 hr1 hr2 hbd HS19 HTAB HTT HXWT HQ HIY HIN b1 b1' b2 b3 b3' b4 b5 b5' b6 hq1 HS20 HRT HWR HGR
                  go_upto_region 20 with fail
                  obtain ⟨zd, hzd⟩ : ∃ zd, zd = z.drew := ⟨_, rfl⟩
                  have hbz : Below z.heap.size z zd := by rw [hzd]; exact (Below.refl _ _).drew
                  refine wp_region_v [16] (fun u => (u.cell? ⟨b, 0, none⟩ = some v0 ∧ u.cell? ⟨b, 1, none⟩ = some v1 ∧ u.cell? ⟨b, 2, none⟩ = some v2 ∧ u.cell? ⟨b, 3, none⟩ = some v3 ∧ u.cell? ⟨b, 4, none⟩ = some v4 ∧ u.cell? ⟨b, 5, none⟩ = some v5 ∧ u.cell? ⟨b, 6, none⟩ = some v6 ∧ u.cell? ⟨b, 7, none⟩ = some v7 ∧ u.cell? ⟨b, 8, none⟩ = some v8 ∧ u.cell? ⟨b, 9, none⟩ = some v9 ∧ u.cell? ⟨b, 10, none⟩ = some v10 ∧ u.cell? ⟨b, 11, none⟩ = some v11 ∧ u.cell? ⟨b, 12, none⟩ = some (.int .i64 G.pl)) ∧ (u.cell? ⟨b, 13, none⟩ = some (.int .i64 X.p.W) ∧ u.cell? ⟨b, 14, none⟩ = some (.int .i64 X.p.H) ∧ u.cell? ⟨b, 15, none⟩ = some (.string X.p.C) ∧ u.cell? ⟨b, 16, none⟩ = some (.int .i64 X.p.T) ∧ u.cell? ⟨b, 17, none⟩ = some (.string X.p.A) ∧ u.cell? ⟨b, 18, none⟩ = some (.string X.p.B)) ∧ (u.cell? ⟨g, off + k * 3, none⟩ = some (.int .i64 q.f) ∧ u.cell? ⟨g, off + k * 3 + 1, none⟩ = some (.int .i64 (q.t : Int)) ∧ u.cell? ⟨g, off + k * 3 + 2, none⟩ = some (.int .u8 (q.c : Int)))) (by kernel_rfl) ?_
                  rw [← hzd]
                  clear hzd
                  have hHeld := unhide HS zd hbz
                  refine wpAnyV_tk (i := 0) (oi := _) (v := ?_) rfl (by kernel_rfl) (by kernel_rfl) (by kernel_rfl) (by kernel_rfl) (fun _ _ _ h => h) (Or.inl ⟨by rfl, ?_⟩) (by assumption) ?_
                  rotate_left 1
                  · (intro u hSu; (try dsimp only at hSu); go_simp; first | done | with_reducible rfl | rfl)
                  simp only [Act.put, List.getElem_toArray, List.getElem_cons_zero, List.setIfInBounds_toArray, List.set_cons_zero, List.set_cons_succ]
                  refine wpAnyV_tk (i := 1) (oi := _) (v := ?_) rfl (by kernel_rfl) (by kernel_rfl) (by kernel_rfl) (by kernel_rfl) (fun _ _ _ h => h) (Or.inl ⟨by rfl, ?_⟩) (by assumption) ?_
                  rotate_left 1
                  · (intro u hSu; (try dsimp only at hSu); go_simp; first | done | with_reducible rfl | rfl)
                  simp only [Act.put, List.getElem_toArray, List.getElem_cons_zero, List.getElem_cons_succ, List.setIfInBounds_toArray, List.set_cons_zero, List.set_cons_succ]
                  refine wpAnyV_tk (i := 2) (oi := _) (v := ?_) rfl (by kernel_rfl) (by kernel_rfl) (by kernel_rfl) (by kernel_rfl) (fun _ _ _ h => h) (Or.inl ⟨by rfl, ?_⟩) (by assumption) ?_
                  rotate_left 1
                  · (intro u hSu; (try dsimp only at hSu); go_simp; first | done | with_reducible rfl | rfl)
                  simp only [Act.put, List.getElem_toArray, List.getElem_cons_zero, List.getElem_cons_succ, List.setIfInBounds_toArray, List.set_cons_zero, List.set_cons_succ]
                  refine wpAnyV_tk (i := 3) (oi := _) (v := ?_) rfl (by kernel_rfl) (by kernel_rfl) (by kernel_rfl) (by kernel_rfl) (fun _ _ _ h => h) (Or.inl ⟨by rfl, ?_⟩) (by assumption) ?_
                  rotate_left 1
                  · (intro u hSu; (try dsimp only at hSu); go_simp; first | done | with_reducible rfl | rfl)
                  simp only [Act.put, List.getElem_toArray, List.getElem_cons_zero, List.getElem_cons_succ, List.setIfInBounds_toArray, List.set_cons_zero, List.set_cons_succ]
                  refine wpAnyV_tk (i := 4) (oi := _) (v := ?_) rfl (by kernel_rfl) (by kernel_rfl) (by kernel_rfl) (by kernel_rfl) (fun _ _ _ h => h) (Or.inl ⟨by rfl, ?_⟩) (by assumption) ?_
                  rotate_left 1
                  · (intro u hSu; (try dsimp only at hSu); go_simp; first | done | with_reducible rfl | rfl)
                  simp only [Act.put, List.getElem_toArray, List.getElem_cons_zero, List.getElem_cons_succ, List.setIfInBounds_toArray, List.set_cons_zero, List.set_cons_succ]
                  refine wpAnyV_tk (i := 5) (oi := _) (v := ?_) rfl (by kernel_rfl) (by kernel_rfl) (by kernel_rfl) (by kernel_rfl) (fun _ _ _ h => h) (Or.inl ⟨by rfl, ?_⟩) (by assumption) ?_
                  rotate_left 1
                  · (intro u hSu; (try dsimp only at hSu); go_simp; first | done | with_reducible rfl | rfl)
                  simp only [Act.put, List.getElem_toArray, List.getElem_cons_zero, List.getElem_cons_succ, List.setIfInBounds_toArray, List.set_cons_zero, List.set_cons_succ]
                  refine wpAnyV_tk (i := 6) (oi := _) (v := ?_) rfl (by kernel_rfl) (by kernel_rfl) (by kernel_rfl) (by kernel_rfl) (fun _ _ _ h => h) (Or.inl ⟨by rfl, ?_⟩) (by assumption) ?_
                  rotate_left 1
                  · (intro u hSu; (try dsimp only at hSu); go_simp; first | done | with_reducible rfl | rfl)
                  simp only [Act.put, List.getElem_toArray, List.getElem_cons_zero, List.getElem_cons_succ, List.setIfInBounds_toArray, List.set_cons_zero, List.set_cons_succ]
                  refine wpAnyV_tk (i := 7) (oi := _) (v := ?_) rfl (by kernel_rfl) (by kernel_rfl) (by kernel_rfl) (by kernel_rfl) (fun _ _ _ h => h) (Or.inl ⟨by rfl, ?_⟩) (by assumption) ?_
                  rotate_left 1
                  · (intro u hSu; (try dsimp only at hSu); go_simp; first | done | with_reducible rfl | rfl)
                  simp only [Act.put, List.getElem_toArray, List.getElem_cons_zero, List.getElem_cons_succ, List.setIfInBounds_toArray, List.set_cons_zero, List.set_cons_succ]
                  refine wpAnyV_tk (i := 8) (oi := _) (v := ?_) rfl (by kernel_rfl) (by kernel_rfl) (by kernel_rfl) (by kernel_rfl) (fun _ _ _ h => h) (Or.inl ⟨by rfl, ?_⟩) (by assumption) ?_
                  rotate_left 1
                  · (intro u hSu; (try dsimp only at hSu); go_simp; first | done | with_reducible rfl | rfl)
                  simp only [Act.put, List.getElem_toArray, List.getElem_cons_zero, List.getElem_cons_succ, List.setIfInBounds_toArray, List.set_cons_zero, List.set_cons_succ]
                  refine wpAnyV_tk (i := 9) (oi := _) (v := ?_) rfl (by kernel_rfl) (by kernel_rfl) (by kernel_rfl) (by kernel_rfl) (fun _ _ _ h => h) (Or.inl ⟨by rfl, ?_⟩) (by assumption) ?_
                  rotate_left 1
                  · (intro u hSu; (try dsimp only at hSu); go_simp; first | done | with_reducible rfl | rfl)
                  simp only [Act.put, List.getElem_toArray, List.getElem_cons_zero, List.getElem_cons_succ, List.setIfInBounds_toArray, List.set_cons_zero, List.set_cons_succ]
                  refine wpAnyV_tk (i := 10) (oi := _) (v := ?_) rfl (by kernel_rfl) (by kernel_rfl) (by kernel_rfl) (by kernel_rfl) (fun _ _ _ h => h) (Or.inl ⟨by rfl, ?_⟩) (by assumption) ?_
                  rotate_left 1
                  · (intro u hSu; (try dsimp only at hSu); go_simp; first | done | with_reducible rfl | rfl)
                  simp only [Act.put, List.getElem_toArray, List.getElem_cons_zero, List.getElem_cons_succ, List.setIfInBounds_toArray, List.set_cons_zero, List.set_cons_succ]
                  refine wpAnyV_tk (i := 11) (oi := _) (v := ?_) rfl (by kernel_rfl) (by kernel_rfl) (by kernel_rfl) (by kernel_rfl) (fun _ _ _ h => h) (Or.inl ⟨by rfl, ?_⟩) (by assumption) ?_
                  rotate_left 1
                  · (intro u hSu; (try dsimp only at hSu); go_simp; first | done | with_reducible rfl | rfl)
                  simp only [Act.put, List.getElem_toArray, List.getElem_cons_zero, List.getElem_cons_succ, List.setIfInBounds_toArray, List.set_cons_zero, List.set_cons_succ]
                  refine wpAnyV_tk (i := 12) (oi := _) (v := ?_) rfl (by kernel_rfl) (by kernel_rfl) (by kernel_rfl) (by kernel_rfl) (fun _ _ _ h => h) (Or.inl ⟨by rfl, ?_⟩) (by assumption) ?_
                  rotate_left 1
                  · (intro u hSu; (try dsimp only at hSu); go_simp; first | done | with_reducible rfl | rfl)
                  simp only [Act.put, List.getElem_toArray, List.getElem_cons_zero, List.getElem_cons_succ, List.setIfInBounds_toArray, List.set_cons_zero, List.set_cons_succ]
                  clear hHeld
                  refine wpAnyV_ready (rs := [13]) (by kernel_rfl) (by simp) ?_
                  refine ReadyV.cons (o := _) rfl (fun K hK => ?_) ReadyV.nil
                  refine step_callH (by rfl) 76 _ _ rfl #[.agg #[v0, v1, v2, v3, v4, v5, v6, v7, v8, v9, v10, v11, .int .i64 G.pl], .agg #[.int .i64 X.p.W, .int .i64 X.p.H, .string X.p.C, .int .i64 X.p.T, .string X.p.A, .string X.p.B], .agg #[.int .i64 q.f, .int .i64 (q.t : Int), .int .u8 (q.c : Int)]] (by simp [Act.eval]) entMade (unhide HMD zd) ?_
                  obtain ⟨p, hp⟩ : ∃ p, p = G.beh X.p q := ⟨_, rfl⟩
                  rw [← hp] at hRR ⊢
                  rintro e y3 ⟨rfl, hb3⟩
                  refine ⟨_, rfl, ?_⟩
                  have hr3 : Below z.heap.size z y3 := hbz.trans (hb3.mono hbz.size)
                  have hHeld := unhide HS y3 hr3
                  refine hK.out _ _ (fun _ => hHeld) ?_
                  clear hK K hb3 hp
                  try simp only [Act.put, List.getElem_toArray, List.getElem_cons_zero, List.getElem_cons_succ, List.setIfInBounds_toArray, List.set_cons_zero, List.set_cons_succ]
                  refine wpAnyV_pure (i := 14) (oi := _) (v := ?_) rfl (by kernel_rfl) (by kernel_rfl) (by kernel_rfl) (by kernel_rfl) (fun _ _ _ h => h) (Or.inl ⟨by rfl, ?_⟩) (by first | exact fun _ => hHeld | (intro h; exact absurd h (by decide))) ?_
                  rotate_left 1
                  · (intro u _; go_simp; first | done | with_reducible rfl | rfl)
                  simp only [Act.put, List.getElem_toArray, List.getElem_cons_zero, List.getElem_cons_succ, List.setIfInBounds_toArray, List.set_cons_zero, List.set_cons_succ]
                  refine wpAnyV_pure (i := 15) (oi := _) (v := ?_) rfl (by kernel_rfl) (by kernel_rfl) (by kernel_rfl) (by kernel_rfl) (fun _ _ _ h => h) (Or.inl ⟨by rfl, ?_⟩) (by first | exact fun _ => hHeld | (intro h; exact absurd h (by decide))) ?_
                  rotate_left 1
                  · (intro u _; go_simp; first | done | with_reducible rfl | rfl)
                  simp only [Act.put, List.getElem_toArray, List.getElem_cons_zero, List.getElem_cons_succ, List.setIfInBounds_toArray, List.set_cons_zero, List.set_cons_succ]
                  clear hHeld
                  have hy3 := isR.below (unhide HZ) hr3 (isR.lt (unhide HZ))
                  have hx3 := (unhide HXZ).more hr3 (unhide HXZ).size
                  obtain ⟨k0, k1, k2, k3, k4, k5⟩ := (isR.cells hy3).2.1
                  have f0 := isR.frozen hy3 13
                  have f1 := isR.frozen hy3 14
                  have f2 := isR.frozen hy3 15
                  have f3 := isR.frozen hy3 16
                  have f4 := isR.frozen hy3 17
                  have f5 := isR.frozen hy3 18
                  refine wpAnyV_ready (rs := [16]) (by kernel_rfl) (by simp) ?_
                  refine ReadyV.cons (o := _) rfl (fun K hK => ?_) ReadyV.nil
                  go_simp
                  refine hK.out _ _ (fun h => absurd h (by decide)) ?_
                  clear hK K k0 k1 k2 k3 k4 k5 f0 f1 f2 f3 f4 f5
                  try simp only [Act.put, List.getElem_toArray, List.getElem_cons_zero, List.getElem_cons_succ, List.setIfInBounds_toArray, List.set_cons_zero, List.set_cons_succ]
                  refine wpAnyV_done (by kernel_rfl) ?_ _
                  have hz4 := isR.setP hy3 p.W p.H p.C p.T p.A p.B
                  have hx4 : Ex b w.heap.size w ((((((y3.setCell ⟨b, 13, none⟩ (.int .i64 p.W)).setCell ⟨b, 14, none⟩ (.int .i64 p.H)).setCell ⟨b, 15, none⟩ (.string p.C)).setCell ⟨b, 16, none⟩ (.int .i64 p.T)).setCell ⟨b, 17, none⟩ (.string p.A)).setCell ⟨b, 18, none⟩ (.string p.B)) := (((((hx3.set _ _).set _ _).set _ _).set _ _).set _ _).set _ _
                  generalize (((((y3.setCell ⟨b, 13, none⟩ (.int .i64 p.W)).setCell ⟨b, 14, none⟩ (.int .i64 p.H)).setCell ⟨b, 15, none⟩ (.string p.C)).setCell ⟨b, 16, none⟩ (.int .i64 p.T)).setCell ⟨b, 17, none⟩ (.string p.A)).setCell ⟨b, 18, none⟩ (.string p.B) = z4 at hz4 hx4 ⊢
                  have hfin := isR.set19 hz4 (X.ply + 1)
                  have hxf := hx4.set 19 (.int .i64 (X.ply + 1))
                  have HF := hide (And.intro hfin hxf)
                  have c19 := (isR.cells hz4).2.2.1
                  have f19 := isR.frozen hz4 19
                  have hwy := unhide HWY
                  clear hfin hxf hz4 hx4 hy3 hx3 hr3 hbz HS HZ HXZ HMD
                  go_wp2
                  go_ret
                  rw [unhide hRR]
                  exact ⟨rfl, (unhide HF).1, (unhide HF).2⟩
                · have hq1 : (Y.toList == m.mv.toList) = false := by
                    rw [beq_eq_false_iff_ne]
                    intro h
                    rw [Lib.toList_data, Lib.toList_data] at h
                    exact heq (ByteArray.ext (Array.ext' h))
                  refine wpAnyV_ready (rs := [11]) (by kernel_rfl) (by simp) ?_
                  refine ReadyV.cons (o := _) rfl (fun K hK => ?_) ReadyV.nil
                  go_simp
                  refine hK.out _ _ (fun h => absurd h (by decide)) ?_
                  clear hK K
                  try simp only [Act.put, List.getElem_toArray, List.getElem_cons_zero, List.getElem_cons_succ, List.setIfInBounds_toArray, List.set_cons_zero, List.set_cons_succ]
                  refine wpAnyV_done (by kernel_rfl) ?_ _
                  have hfn : Hid (((L.drop (k + 1)).find? fun q => decide (G.tx X.p q = m.mv.data.toList)) = FR) := hide (by
                    have h1 := unhide HFQ
                    rw [if_neg (fun h => heq ((unhide HYS).2 h))] at h1
                    exact h1)
                  have HBN := hide ((unhide HBR).trans ((unhide HRT).mono (unhide HBR).size))
                  clear HFQ HYS heq HS20 HMD HWR HGR HRT
                  go_wp2
                  go_roundw
                  case rel => exact ⟨k + 1, by go_num, by omega, hfn, HBN⟩
                  case measure => simp only [intOf]; omega
              · obtain rfl : k = n := by omega
                have hlti : ¬ (k : Int) < (k : Int) := by omega
                have hnone : FR = none := by
                  rw [← unhide HFK, List.drop_of_length_le (by rw [← unhide HN]; exact Nat.le_refl _)]
                  rfl
                have hRR : Hid (R = (X, 4)) := hide (by rw [unhide HST4, hnone])
                have hfin := isR.below (unhide H6) (unhide HBR) (isR.lt (unhide H6))
                have hxf := (unhide HX6).more (unhide HBR) (unhide HX6).size
                have HF := hide (And.intro hfin hxf)
                clear hfin hxf hnone
                go_wp2
                go_ret
                rw [unhide hRR]
                exact ⟨rfl, (unhide HF).1, (unhide HF).2⟩
end Go.Proofs.YtihojhfpepbjhaaGreatDoor
