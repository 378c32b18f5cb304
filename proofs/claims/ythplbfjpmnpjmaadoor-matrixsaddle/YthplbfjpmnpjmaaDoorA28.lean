/-
  gamelaw.MatrixSaddle, walked: where there is a matrix.
-/
import Derived.Test.YthplbfjpmnpjmaaDoorA27
namespace Go.Proofs.YthplbfjpmnpjmaaDoor
open Go.RowKit Lp
attribute [local go_sem ↓] Go.wp_at_zero Go.wp_at_succ

set_option maxRecDepth 100000 in
set_option maxHeartbeats 8000000 in
theorem saddle_yes (ao : Option Addr) (cap : Nat) (G : List (List Int)) (w : World) (hd : isDb w) (htab : isTab w) (h : isMx w w.heap.size ao cap G) (hb : mxB G = true) :
    Calls Tryd.prog 3 #[.slice ao G.length cap] w fun e w' => e = .returned (.bool true) ∧ Below w.heap.size w w' := by
  obtain ⟨N, hm1, hm6, hN1, hN6, hrw, -⟩ := mxB_rows hb
  have hrow : ∀ r ∈ G, r.length = N := fun r hr => (hrw r hr).1
  obtain ⟨m, hm⟩ : ∃ m, m = G.length := ⟨_, rfl⟩
  rw [← hm] at hm1 hm6
  have hSa := Saddle_any w.heap.size ao cap N G w h hb hrow hN6
  have hSv := Solve_any G ao cap m N w hd htab h hb hm.symm hm1 hm6 hN1 hN6 hrow (nb_nab hb)
  have HR : Hid (∀ u, Below w.heap.size w u → Calls Tryd.prog 7 #[.slice ao m cap] u fun e w' => e = .returned (.bool true) ∧ Below u.heap.size u w') := hide (fun u hu => by
    have h1 := h.below hu (Nat.le_refl _)
    have h2 : isMx u u.heap.size ao cap G := ⟨h1.le, h1.most, h1.nil, fun hl => by
      obtain ⟨g, off, e, hg, hc⟩ := h1.cells hl
      exact ⟨g, off, e, Nat.lt_of_lt_of_le hg hu.size, fun i r hr => by
        obtain ⟨ro, rc, a1, a2⟩ := hc i r hr
        exact ⟨ro, rc, a1, ⟨a2.le, a2.most, a2.nil, a2.fit, fun hl2 => by
          obtain ⟨g2, off2, e2, hg2, hc2⟩ := a2.cells hl2
          exact ⟨g2, off2, e2, Nat.lt_of_lt_of_le hg2 hu.size, hc2⟩⟩⟩⟩⟩
    have := rMatrix_any ao cap G u h2
    rw [hb, ← hm] at this
    exact this)
  have HC : Hid (∀ u, Below w.heap.size w u → Calls Tryd.prog 8 #[.slice ao m cap] u fun e w' => e = .returned (.int .i64 0) ∧ w' = u) := hide (fun u hu => by
    have := mCheck_any w.heap.size ao cap G u (h.below hu (Nat.le_refl _))
    rw [hb, ← hm] at this
    simpa using this)
  have hle := h.le
  have hmo := h.most
  unfold maxLen at hmo
  rw [← hm] at hSa hle ⊢
  obtain ⟨g, off, rfl, hg, hcs⟩ := mx_row h (fun e => by rw [e] at hm; simp at hm; omega) hN1 hrow
  rw [← hm] at hcs
  have HCS := hide hcs
  have HOK : Hid (∀ r c, r < m → c < N → okS G m N r c = saB G r c) := hide (fun r c hr hc => okS_is hm.symm hrow hr hc)
  have HSA := hide hSa
  have HSV := hide hSv
  clear hSa hSv hcs h hb hm hrw hrow hd htab
  go_enter Tryd.func3, Tryd.ntmps3
  go_wp2_with fail
  refine (unhide HSA).mono ?_
  rintro e w0 ⟨hout, hw0⟩
  replace hw0 := hw0.symm
  subst hw0
  obtain ⟨si, sk, sb, rfl, hsr⟩ : ∃ si sk sb, e = .returned (.tuple #[.int .i64 si, .int .i64 sk, .bool sb, .int .i64 0]) ∧ SadR G m N si sk sb := by
    rcases hout with ⟨h1, h2⟩ | ⟨i, j, h1, h2, h3, h4, h5⟩
    · exact ⟨0, 0, false, h2, .inl ⟨rfl, rfl, rfl, h1⟩⟩
    · exact ⟨_, _, true, h5, .inr ⟨rfl, i, j, rfl, rfl, h1, h2, h3, h4⟩⟩
  have HSR := hide hsr
  clear hsr hout HSA
  go_wp2_with fail
  refine (unhide HSV).mono ?_
  rintro e w1 ⟨hb1, z, t, g1, g2, -, -, -, -, rfl, -, -⟩
  have HR1 := hide (unhide HR w1 hb1)
  have HB1 := hide hb1
  clear hb1 HR HSV
  generalize frS z.v t = FV
  go_wp2_with fail
  refine (unhide HR1).mono ?_
  rintro e w2 ⟨rfl, hb2⟩
  have hb2' := (unhide HB1).trans (hb2.mono (unhide HB1).size)
  have HC2 := hide (unhide HC w2 hb2')
  have HB2 := hide hb2'
  clear hb2 hb2' HB1 HR1 HC
  go_wp2_with fail
  refine (unhide HC2).mono ?_
  rintro e w' ⟨rfl, hw'⟩
  replace hw' := hw'.symm
  subst hw'
  clear HC2
  go_wp2
  go_loopw [85] (fun rv wr => ∃ r : Nat, r ≤ m ∧ rv = .int .i64 (r : Int) ∧ Hid (noneB G N r 0) ∧ Hid (Below w.heap.size w wr)) (fun rv _ => m - (intOf rv).toNat)
  case atStart => exact ⟨0, Nat.zero_le _, rfl, hide (fun a b hab => by rcases hab with ⟨h1, -⟩ | ⟨-, h1⟩ <;> omega), HB2⟩
  case round =>
    obtain ⟨r, hr, rfl, HNO, HBW⟩ := hrel
    rename World => wr
    clear HB2
    by_cases hrm : r < m
    · have hrmi : (r : Int) < (m : Int) := by omega
      have hr0 : (0 : Int) ≤ (r : Int) := by omega
      obtain ⟨rg, roff, rci, hrg, hn1, hn2, hcr, hca⟩ := unhide HCS r hrm
      unfold maxLen at hn2
      have HCR := hide hcr
      have HCA := hide hca
      have cr := ((unhide HBW).cell (p := ⟨g, off + r, none⟩) hg).trans hcr
      clear hcr hca
      go_wp2
      clear cr
      go_loopw [93] (fun cv wq => ∃ c : Nat, c ≤ N ∧ cv = .int .i64 (c : Int) ∧ Hid (noneB G N r c) ∧ Hid (Below w.heap.size w wq)) (fun cv _ => N - (intOf cv).toNat)
      case atStart => exact ⟨0, Nat.zero_le _, rfl, HNO, HBW⟩
      case round =>
        obtain ⟨c, hc, rfl, HNC, HBC⟩ := hrel
        rename World => wc1
        clear HNO HBW
        by_cases hcN : c < N
        · have hcNi : (c : Int) < (N : Int) := by omega
          have hc0 : (0 : Int) ≤ (c : Int) := by omega
          obtain ⟨p, hp⟩ : ∃ p, p = atG G r c := ⟨_, rfl⟩
          have HCP : Hid (w.cell? ⟨rg, roff + c, none⟩ = some (.int .i64 p)) := hide (by rw [hp]; exact unhide HCA c hcN)
          have HP := hide hp
          clear hp
          have cr := ((unhide HBC).cell (p := ⟨g, off + r, none⟩) hg).trans (unhide HCR)
          go_wp2
          clear cr
          go_loopw [13, 101] (fun bv jv wj => ∃ j : Nat, j ≤ N ∧ jv = .int .i64 (j : Int) ∧ bv = .bool ((List.range j).all (fun q => decide (p ≤ atG G r q))) ∧ Hid (Below w.heap.size w wj)) (fun _ jv _ => N - (intOf jv).toNat)
          case atStart => exact ⟨0, Nat.zero_le _, rfl, by simp, HBC⟩
          case round =>
            obtain ⟨j, hj, rfl, rfl, HBJ⟩ := hrel
            rename World => wj
            clear HBC
            by_cases hjN : j < N
            · have hjNi : (j : Int) < (N : Int) := by omega
              have hj0 : (0 : Int) ≤ (j : Int) := by omega
              obtain ⟨q, hq⟩ : ∃ q, q = atG G r j := ⟨_, rfl⟩
              have cr := ((unhide HBJ).cell (p := ⟨g, off + r, none⟩) hg).trans (unhide HCR)
              have cq := ((unhide HBJ).cell (p := ⟨rg, roff + j, none⟩) hrg).trans (unhide HCA j hjN)
              have cp := ((unhide HBJ).cell (p := ⟨rg, roff + c, none⟩) hrg).trans (unhide HCP)
              rw [← hq] at cq
              obtain ⟨X, hX⟩ : ∃ X, X = (List.range j).all (fun q => decide (p ≤ atG G r q)) := ⟨_, rfl⟩
              obtain ⟨D, hD⟩ : ∃ D, D = decide (p ≤ q) := ⟨_, rfl⟩
              have hD2 : decide (p ≤ q) = D := hD.symm
              have HST : Hid ((List.range (j + 1)).all (fun q => decide (p ≤ atG G r q)) = (X && D)) := hide (by rw [all_range, ← hX, hD, hq])
              rw [← hX]
              clear hX hq hD
              have HBQ : Hid (∀ n, Below w.heap.size w (wj.drewN n)) := hide (fun n => below_drewN (unhide HBJ) n)
              cases X
              · clear cq cp hD2
                go_wp2_with fail
                go_quiet (fail)
                go_wp2
                go_roundw
                case rel => exact ⟨j + 1, by omega, by go_num, by rw [unhide HST]; rfl, hide (unhide HBQ _)⟩
                case measure => simp only [intOf]; omega
              · go_wp2_with fail
                go_quiet (fail)
                go_wp2
                go_roundw
                case rel => exact ⟨j + 1, by omega, by go_num, by rw [unhide HST]; rfl, hide (unhide HBQ _)⟩
                case measure => simp only [intOf]; omega
            · have hjNi : ¬ (j : Int) < (N : Int) := by omega
              obtain rfl : j = N := by omega
              obtain ⟨X1, hX1⟩ : ∃ X1, X1 = (List.range j).all (fun q => decide (p ≤ atG G r q)) := ⟨_, rfl⟩
              rw [← hX1]
              have HX1 := hide hX1
              clear hX1
              go_wp2
              go_loopw [13, 125] (fun bv kv wk => ∃ k : Nat, k ≤ m ∧ kv = .int .i64 (k : Int) ∧ bv = .bool (X1 && (List.range k).all (fun q => decide (atG G q c ≤ p))) ∧ Hid (Below w.heap.size w wk)) (fun _ kv _ => m - (intOf kv).toNat)
              case atStart => exact ⟨0, Nat.zero_le _, rfl, by simp, HBJ⟩
              case round =>
                obtain ⟨k, hk, rfl, rfl, HBK⟩ := hrel
                rename World => wk
                clear HBJ
                by_cases hkm : k < m
                · have hkmi : (k : Int) < (m : Int) := by omega
                  have hk0 : (0 : Int) ≤ (k : Int) := by omega
                  obtain ⟨kg, koff, kci, hkg, hk1, hk2, hkr, hka⟩ := unhide HCS k hkm
                  unfold maxLen at hk2
                  obtain ⟨q, hq⟩ : ∃ q, q = atG G k c := ⟨_, rfl⟩
                  have cr := ((unhide HBK).cell (p := ⟨g, off + r, none⟩) hg).trans (unhide HCR)
                  have ck := ((unhide HBK).cell (p := ⟨g, off + k, none⟩) hg).trans hkr
                  have cq := ((unhide HBK).cell (p := ⟨kg, koff + c, none⟩) hkg).trans (hka c hcN)
                  have cp := ((unhide HBK).cell (p := ⟨rg, roff + c, none⟩) hrg).trans (unhide HCP)
                  rw [← hq] at cq
                  obtain ⟨X, hX⟩ : ∃ X, X = (X1 && (List.range k).all (fun q => decide (atG G q c ≤ p))) := ⟨_, rfl⟩
                  obtain ⟨D, hD⟩ : ∃ D, D = decide (q ≤ p) := ⟨_, rfl⟩
                  have hD2 : decide (q ≤ p) = D := hD.symm
                  have HST : Hid ((X1 && (List.range (k + 1)).all (fun q => decide (atG G q c ≤ p))) = (X && D)) := hide (by rw [all_range, hX, hD, hq, Bool.and_assoc])
                  rw [← hX]
                  clear hX hq hD hkr hka
                  have HBQ : Hid (∀ n, Below w.heap.size w (wk.drewN n)) := hide (fun n => below_drewN (unhide HBK) n)
                  cases X
                  · clear cq cp hD2 cr ck
                    go_wp2_with fail
                    go_quiet (fail)
                    go_wp2
                    go_roundw
                    case rel => exact ⟨k + 1, by omega, by go_num, by rw [unhide HST]; rfl, hide (unhide HBQ _)⟩
                    case measure => simp only [intOf]; omega
                  · go_wp2_with fail
                    go_quiet (fail)
                    go_wp2
                    go_roundw
                    case rel => exact ⟨k + 1, by omega, by go_num, by rw [unhide HST]; rfl, hide (unhide HBQ _)⟩
                    case measure => simp only [intOf]; omega
                · have hkmi : ¬ (k : Int) < (m : Int) := by omega
                  obtain rfl : k = m := by omega
                  obtain ⟨X, hX⟩ : ∃ X, X = (X1 && (List.range k).all (fun q => decide (atG G q c ≤ p))) := ⟨_, rfl⟩
                  have HXS : Hid (X = saB G r c) := hide (by rw [← unhide HOK r c hrm hcN, hX, unhide HX1, unhide HP]; rfl)
                  rw [← hX]
                  clear hX
                  cases X
                  · have HNN := hide ((unhide HNC).next (unhide HXS).symm)
                    go_wp2
                    go_roundw
                    case rel => exact ⟨c + 1, by omega, by go_num, HNN, HBK⟩
                    case measure => simp only [intOf]; omega
                  · obtain ⟨a1, a2, a3⟩ := (unhide HSR).here hrm hcN (unhide HNC) (unhide HXS).symm
                    subst a1 a2 a3
                    have he1 : ((r : Int) == (r : Int)) = true := by simp
                    have he2 : ((c : Int) == (c : Int)) = true := by simp
                    go_wp2
                    go_ret
                    exact ⟨rfl, unhide HBK⟩
        · have hcNi : ¬ (c : Int) < (N : Int) := by omega
          obtain rfl : c = N := by omega
          have HNN := hide (unhide HNC).row
          go_wp2
          go_roundw
          case rel => exact ⟨r + 1, by omega, by go_num, HNN, HBC⟩
          case measure => simp only [intOf]; omega
    · have hrmi : ¬ (r : Int) < (m : Int) := by omega
      obtain rfl : r = m := by omega
      obtain ⟨a1, a2, a3⟩ := (unhide HSR).none (unhide HNO)
      subst a1 a2 a3
      go_wp2
      go_ret
      exact ⟨rfl, unhide HBW⟩
end Go.Proofs.YthplbfjpmnpjmaaDoor
