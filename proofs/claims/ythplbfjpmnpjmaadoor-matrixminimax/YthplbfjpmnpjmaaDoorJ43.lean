/-
  gamelaw.MatrixSaddle, walked: where there is a matrix.
  gamekeep.MatrixMinimax: the mathematics of its sums; fractions that are made in any order among calls.
-/
import Derived.Test.YthplbfjpmnpjmaaDoorJ42
import Derived.Test.YthplbfjpmnpjmaaDoorX7
namespace Go.Proofs.YthplbfjpmnpjmaaDoor
open Go.RowKit Lp
attribute [local go_sem ↓] Go.wp_at_zero Go.wp_at_succ

set_option maxRecDepth 100000 in
set_option maxHeartbeats 8000000 in
theorem saddle_yes (ao : Option Addr) (cap : Nat) (G : List (List Int)) (w : World) (hd : isDb w) (htab : isTab w) (h : isMx w w.heap.size ao cap G) (hb : mxB G = true) :
    Calls Tryd.prog 3 #[.slice ao G.length cap] w fun e w' => e = .returned (.bool true) ∧ Below w.heap.size w w' := by
  obtain ⟨N, hm1, hm6, hN1, hN6, hrw, -⟩ := mxB_rows hb
  have hrow : ∀ r ∈ G, r.length = N := fun r hr => (hrw r hr).1
  obtain ⟨m, hm⟩ : ∃ m, m = G.length := ⟨_, rfl⟩
  rw [← hm] at hm1 hm6
  have hSa := Saddle_any w.heap.size ao cap N G w h hb hrow hN6
  have hSv := Solve_any G ao cap m N w hd htab h hb hm.symm hm1 hm6 hN1 hN6 hrow (nb_nab hb)
  have HR : Hid (∀ u, Below w.heap.size w u → Calls Tryd.prog 7 #[.slice ao m cap] u fun e w' => e = .returned (.bool true) ∧ Below u.heap.size u w') := hide (fun u hu => by
    have h1 := h.below hu (Nat.le_refl _)
    have h2 : isMx u u.heap.size ao cap G := ⟨h1.le, h1.most, h1.nil, fun hl => by
      obtain ⟨g, off, e, hg, hc⟩ := h1.cells hl
      exact ⟨g, off, e, Nat.lt_of_lt_of_le hg hu.size, fun i r hr => by
        obtain ⟨ro, rc, a1, a2⟩ := hc i r hr
        exact ⟨ro, rc, a1, ⟨a2.le, a2.most, a2.nil, a2.fit, fun hl2 => by
          obtain ⟨g2, off2, e2, hg2, hc2⟩ := a2.cells hl2
          exact ⟨g2, off2, e2, Nat.lt_of_lt_of_le hg2 hu.size, hc2⟩⟩⟩⟩⟩
    have := rMatrix_any ao cap G u h2
    rw [hb, ← hm] at this
    exact this)
  have HC : Hid (∀ u, Below w.heap.size w u → Calls Tryd.prog 8 #[.slice ao m cap] u fun e w' => e = .returned (.int .i64 0) ∧ w' = u) := hide (fun u hu => by
    have := mCheck_any w.heap.size ao cap G u (h.below hu (Nat.le_refl _))
    rw [hb, ← hm] at this
    simpa using this)
  have hle := h.le
  have hmo := h.most
  unfold maxLen at hmo
  rw [← hm] at hSa hle ⊢
  obtain ⟨g, off, rfl, hg, hcs⟩ := mx_row h (fun e => by rw [e] at hm; simp at hm; omega) hN1 hrow
  rw [← hm] at hcs
  have HCS := hide hcs
  have HOK : Hid (∀ r c, r < m → c < N → okS G m N r c = saB G r c) := hide (fun r c hr hc => okS_is hm.symm hrow hr hc)
  have HSA := hide hSa
  have HSV := hide hSv
  clear hSa hSv hcs h hb hm hrw hrow hd htab
  go_enter Tryd.func3, Tryd.ntmps3
  go_wp2_with fail
  refine (unhide HSA).mono ?_
  rintro e w0 ⟨hout, hw0⟩
  replace hw0 := hw0.symm
  subst hw0
  obtain ⟨si, sk, sb, rfl, hsr⟩ : ∃ si sk sb, e = .returned (.tuple #[.int .i64 si, .int .i64 sk, .bool sb, .int .i64 0]) ∧ SadR G m N si sk sb := by
    rcases hout with ⟨h1, h2⟩ | ⟨i, j, h1, h2, h3, h4, h5⟩
    · exact ⟨0, 0, false, h2, .inl ⟨rfl, rfl, rfl, h1⟩⟩
    · exact ⟨_, _, true, h5, .inr ⟨rfl, i, j, rfl, rfl, h1, h2, h3, h4⟩⟩
  have HSR := hide hsr
  clear hsr hout HSA
  go_wp2_with fail
  refine (unhide HSV).mono ?_
  rintro e w1 ⟨hb1, z, t, g1, g2, -, -, -, -, rfl, -, -⟩
  have HR1 := hide (unhide HR w1 hb1)
  have HB1 := hide hb1
  clear hb1 HR HSV
  generalize frS z.v t = FV
  go_wp2_with fail
  refine (unhide HR1).mono ?_
  rintro e w2 ⟨rfl, hb2⟩
  have hb2' := (unhide HB1).trans (hb2.mono (unhide HB1).size)
  have HC2 := hide (unhide HC w2 hb2')
  have HB2 := hide hb2'
  clear hb2 hb2' HB1 HR1 HC
  go_wp2_with fail
  refine (unhide HC2).mono ?_
  rintro e w' ⟨rfl, hw'⟩
  replace hw' := hw'.symm
  subst hw'
  clear HC2
  go_wp2
  go_loopw [85] (fun rv wr => ∃ r : Nat, r ≤ m ∧ rv = .int .i64 (r : Int) ∧ Hid (noneB G N r 0) ∧ Hid (Below w.heap.size w wr)) (fun rv _ => m - (intOf rv).toNat)
  case atStart => exact ⟨0, Nat.zero_le _, rfl, hide (fun a b hab => by rcases hab with ⟨h1, -⟩ | ⟨-, h1⟩ <;> omega), HB2⟩
  case round =>
    obtain ⟨r, hr, rfl, HNO, HBW⟩ := hrel
    rename World => wr
    clear HB2
    by_cases hrm : r < m
    · have hrmi : (r : Int) < (m : Int) := by omega
      have hr0 : (0 : Int) ≤ (r : Int) := by omega
      obtain ⟨rg, roff, rci, hrg, hn1, hn2, hcr, hca⟩ := unhide HCS r hrm
      unfold maxLen at hn2
      have HCR := hide hcr
      have HCA := hide hca
      have cr := ((unhide HBW).cell (p := ⟨g, off + r, none⟩) hg).trans hcr
      clear hcr hca
      go_wp2
      clear cr
      go_loopw [93] (fun cv wq => ∃ c : Nat, c ≤ N ∧ cv = .int .i64 (c : Int) ∧ Hid (noneB G N r c) ∧ Hid (Below w.heap.size w wq)) (fun cv _ => N - (intOf cv).toNat)
      case atStart => exact ⟨0, Nat.zero_le _, rfl, HNO, HBW⟩
      case round =>
        obtain ⟨c, hc, rfl, HNC, HBC⟩ := hrel
        rename World => wc1
        clear HNO HBW
        by_cases hcN : c < N
        · have hcNi : (c : Int) < (N : Int) := by omega
          have hc0 : (0 : Int) ≤ (c : Int) := by omega
          obtain ⟨p, hp⟩ : ∃ p, p = atG G r c := ⟨_, rfl⟩
          have HCP : Hid (w.cell? ⟨rg, roff + c, none⟩ = some (.int .i64 p)) := hide (by rw [hp]; exact unhide HCA c hcN)
          have HP := hide hp
          clear hp
          have cr := ((unhide HBC).cell (p := ⟨g, off + r, none⟩) hg).trans (unhide HCR)
          go_wp2
          clear cr
          go_loopw [13, 101] (fun bv jv wj => ∃ j : Nat, j ≤ N ∧ jv = .int .i64 (j : Int) ∧ bv = .bool ((List.range j).all (fun q => decide (p ≤ atG G r q))) ∧ Hid (Below w.heap.size w wj)) (fun _ jv _ => N - (intOf jv).toNat)
          case atStart => exact ⟨0, Nat.zero_le _, rfl, by simp, HBC⟩
          case round =>
            obtain ⟨j, hj, rfl, rfl, HBJ⟩ := hrel
            rename World => wj
            clear HBC
            by_cases hjN : j < N
            · have hjNi : (j : Int) < (N : Int) := by omega
              have hj0 : (0 : Int) ≤ (j : Int) := by omega
              obtain ⟨q, hq⟩ : ∃ q, q = atG G r j := ⟨_, rfl⟩
              have cr := ((unhide HBJ).cell (p := ⟨g, off + r, none⟩) hg).trans (unhide HCR)
              have cq := ((unhide HBJ).cell (p := ⟨rg, roff + j, none⟩) hrg).trans (unhide HCA j hjN)
              have cp := ((unhide HBJ).cell (p := ⟨rg, roff + c, none⟩) hrg).trans (unhide HCP)
              rw [← hq] at cq
              obtain ⟨X, hX⟩ : ∃ X, X = (List.range j).all (fun q => decide (p ≤ atG G r q)) := ⟨_, rfl⟩
              obtain ⟨D, hD⟩ : ∃ D, D = decide (p ≤ q) := ⟨_, rfl⟩
              have hD2 : decide (p ≤ q) = D := hD.symm
              have HST : Hid ((List.range (j + 1)).all (fun q => decide (p ≤ atG G r q)) = (X && D)) := hide (by rw [all_range, ← hX, hD, hq])
              rw [← hX]
              clear hX hq hD
              have HBQ : Hid (∀ n, Below w.heap.size w (wj.drewN n)) := hide (fun n => below_drewN (unhide HBJ) n)
              cases X
              · clear cq cp hD2
                go_wp2_with fail
                go_quiet (fail)
                go_wp2
                go_roundw
                case rel => exact ⟨j + 1, by omega, by go_num, by rw [unhide HST]; rfl, hide (unhide HBQ _)⟩
                case measure => simp only [intOf]; omega
              · go_wp2_with fail
                go_quiet (fail)
                go_wp2
                go_roundw
                case rel => exact ⟨j + 1, by omega, by go_num, by rw [unhide HST]; rfl, hide (unhide HBQ _)⟩
                case measure => simp only [intOf]; omega
            · have hjNi : ¬ (j : Int) < (N : Int) := by omega
              obtain rfl : j = N := by omega
              obtain ⟨X1, hX1⟩ : ∃ X1, X1 = (List.range j).all (fun q => decide (p ≤ atG G r q)) := ⟨_, rfl⟩
              rw [← hX1]
              have HX1 := hide hX1
              clear hX1
              go_wp2
              go_loopw [13, 125] (fun bv kv wk => ∃ k : Nat, k ≤ m ∧ kv = .int .i64 (k : Int) ∧ bv = .bool (X1 && (List.range k).all (fun q => decide (atG G q c ≤ p))) ∧ Hid (Below w.heap.size w wk)) (fun _ kv _ => m - (intOf kv).toNat)
              case atStart => exact ⟨0, Nat.zero_le _, rfl, by simp, HBJ⟩
              case round =>
                obtain ⟨k, hk, rfl, rfl, HBK⟩ := hrel
                rename World => wk
                clear HBJ
                by_cases hkm : k < m
                · have hkmi : (k : Int) < (m : Int) := by omega
                  have hk0 : (0 : Int) ≤ (k : Int) := by omega
                  obtain ⟨kg, koff, kci, hkg, hk1, hk2, hkr, hka⟩ := unhide HCS k hkm
                  unfold maxLen at hk2
                  obtain ⟨q, hq⟩ : ∃ q, q = atG G k c := ⟨_, rfl⟩
                  have cr := ((unhide HBK).cell (p := ⟨g, off + r, none⟩) hg).trans (unhide HCR)
                  have ck := ((unhide HBK).cell (p := ⟨g, off + k, none⟩) hg).trans hkr
                  have cq := ((unhide HBK).cell (p := ⟨kg, koff + c, none⟩) hkg).trans (hka c hcN)
                  have cp := ((unhide HBK).cell (p := ⟨rg, roff + c, none⟩) hrg).trans (unhide HCP)
                  rw [← hq] at cq
                  obtain ⟨X, hX⟩ : ∃ X, X = (X1 && (List.range k).all (fun q => decide (atG G q c ≤ p))) := ⟨_, rfl⟩
                  obtain ⟨D, hD⟩ : ∃ D, D = decide (q ≤ p) := ⟨_, rfl⟩
                  have hD2 : decide (q ≤ p) = D := hD.symm
                  have HST : Hid ((X1 && (List.range (k + 1)).all (fun q => decide (atG G q c ≤ p))) = (X && D)) := hide (by rw [all_range, hX, hD, hq, Bool.and_assoc])
                  rw [← hX]
                  clear hX hq hD hkr hka
                  have HBQ : Hid (∀ n, Below w.heap.size w (wk.drewN n)) := hide (fun n => below_drewN (unhide HBK) n)
                  cases X
                  · clear cq cp hD2 cr ck
                    go_wp2_with fail
                    go_quiet (fail)
                    go_wp2
                    go_roundw
                    case rel => exact ⟨k + 1, by omega, by go_num, by rw [unhide HST]; rfl, hide (unhide HBQ _)⟩
                    case measure => simp only [intOf]; omega
                  · go_wp2_with fail
                    go_quiet (fail)
                    go_wp2
                    go_roundw
                    case rel => exact ⟨k + 1, by omega, by go_num, by rw [unhide HST]; rfl, hide (unhide HBQ _)⟩
                    case measure => simp only [intOf]; omega
                · have hkmi : ¬ (k : Int) < (m : Int) := by omega
                  obtain rfl : k = m := by omega
                  obtain ⟨X, hX⟩ : ∃ X, X = (X1 && (List.range k).all (fun q => decide (atG G q c ≤ p))) := ⟨_, rfl⟩
                  have HXS : Hid (X = saB G r c) := hide (by rw [← unhide HOK r c hrm hcN, hX, unhide HX1, unhide HP]; rfl)
                  rw [← hX]
                  clear hX
                  cases X
                  · have HNN := hide ((unhide HNC).next (unhide HXS).symm)
                    go_wp2
                    go_roundw
                    case rel => exact ⟨c + 1, by omega, by go_num, HNN, HBK⟩
                    case measure => simp only [intOf]; omega
                  · obtain ⟨a1, a2, a3⟩ := (unhide HSR).here hrm hcN (unhide HNC) (unhide HXS).symm
                    subst a1 a2 a3
                    have he1 : ((r : Int) == (r : Int)) = true := by simp
                    have he2 : ((c : Int) == (c : Int)) = true := by simp
                    go_wp2
                    go_ret
                    exact ⟨rfl, unhide HBK⟩
        · have hcNi : ¬ (c : Int) < (N : Int) := by omega
          obtain rfl : c = N := by omega
          have HNN := hide (unhide HNC).row
          go_wp2
          go_roundw
          case rel => exact ⟨r + 1, by omega, by go_num, HNN, HBC⟩
          case measure => simp only [intOf]; omega
    · have hrmi : ¬ (r : Int) < (m : Int) := by omega
      obtain rfl : r = m := by omega
      obtain ⟨a1, a2, a3⟩ := (unhide HSR).none (unhide HNO)
      subst a1 a2 a3
      go_wp2
      go_ret
      exact ⟨rfl, unhide HBW⟩
end Go.Proofs.YthplbfjpmnpjmaaDoor

namespace Go.Proofs.YthplbfjpmnpjmaaDoor
open Go.RowKit Lp
attribute [local go_sem ↓] Go.wp_at_zero Go.wp_at_succ

theorem mk_tmul (a : Int) (t : Nat) (ht : t ≠ 0) : mkRat a t * (t : Rat) = (a : Rat) := by
  rw [Rat.mkRat_eq_div]
  have h : (t : Rat) ≠ 0 := by
    intro h
    exact ht (by exact_mod_cast h)
  exact Rat.div_mul_cancel h
theorem mk_lt (a b : Int) (t : Nat) (ht : t ≠ 0) : mkRat a t < mkRat b t ↔ a < b := by
  have hp : (0 : Rat) < (t : Rat) := by
    have : ((0 : Nat) : Rat) < (t : Rat) := Rat.natCast_lt_natCast.2 (by omega)
    simpa using this
  rw [← Rat.mul_lt_mul_right hp, mk_tmul a t ht, mk_tmul b t ht]
  exact Rat.intCast_lt_intCast
theorem cmp_mk (a b : Int) (t : Nat) (ht : t ≠ 0) : cmpQ (mkRat a t) (mkRat b t) = cmpI a b := by
  unfold cmpQ cmpI
  simp only [mk_lt a b t ht, mk_lt b a t ht]
theorem mk_mulI (a x : Int) (t : Nat) : mkRat a t * (x : Rat) = mkRat (a * x) t := by
  rw [← mk_one, Rat.mkRat_mul_mkRat, Nat.mul_one]
theorem mk_ofI (x : Int) (t : Nat) (ht : t ≠ 0) : mkRat (x * (t : Int)) t = (x : Rat) := by
  rw [← mk_one]
  have := Rat.mkRat_mul_right (n := x) (d := 1) (a := t) ht
  simpa using this

theorem lI_le {f g : Nat → Int} : ∀ {L : List Nat}, (∀ x ∈ L, f x ≤ g x) → lI L f ≤ lI L g
  | [], _ => Int.le_refl _
  | x :: L, h => by
    rw [lI_cons, lI_cons]
    have := lI_le (fun y hy => h y (List.mem_cons_of_mem _ hy))
    have := h x (List.mem_cons_self ..)
    omega
theorem lI_mul (c : Int) (f : Nat → Int) : ∀ (L : List Nat), lI L (fun x => c * f x) = c * lI L f
  | [] => by simp [lI]
  | x :: L => by rw [lI_cons, lI_cons, lI_mul c f L, Int.mul_add]
theorem sum_fst (f : Nat → Int) : ∀ (k : Nat), (fst6 f k).sum = lI (List.range k) f
  | 0 => by simp [fst6, lI]
  | k + 1 => by
    rw [lI_range, ← sum_fst f k]
    unfold fst6
    rw [List.range_succ]
    simp
theorem fst_at (f : Nat → Int) {k i : Nat} (h : i < k) : (fst6 f k).getD i 0 = f i := by
  unfold fst6
  simp [List.getD_eq_getElem?_getD, h]
/-- A saddle point bears the value. -/
theorem saddle_val {G : List (List Int)} {m N i j : Nat} {z : So} (hm : G.length = m) (hrow : ∀ q ∈ G, q.length = N) (hi : i < m) (hj : j < N) (hm6 : m ≤ 6) (hN6 : N ≤ 6) (hs : saB G i j = true) (hh : hol m N (atG G) z) (hz : SoS m N z) : z.v = atG G i j * z.t := by
  obtain ⟨-, hx, hy, hr, hc⟩ := hh
  unfold saB at hs
  simp only [Bool.and_eq_true, decide_eq_true_eq, List.all_eq_true] at hs
  have hrl : (G.getD i []).length = N := by
    rw [List.getD_eq_getElem?_getD, List.getElem?_eq_getElem (by omega)]
    exact hrow _ (List.getElem_mem _)
  have hmin : ∀ k, k < N → atG G i j ≤ atG G i k := fun k hk => by
    rw [hs.1]
    refine minL_le ?_
    unfold atG
    rw [List.getD_eq_getElem?_getD (i := k), List.getElem?_eq_getElem (by omega)]
    exact List.getElem_mem _
  have hmax : ∀ k, k < m → atG G k j ≤ atG G i j := fun k hk => by
    have := hs.2 (G.getD k []) (by
      rw [List.getD_eq_getElem?_getD, List.getElem?_eq_getElem (by omega)]
      exact List.getElem_mem _)
    exact this
  have h1 : atG G i j * z.t ≤ z.v := by
    refine Int.le_trans ?_ (hr i hi)
    rw [← hz.y, ← lI_mul]
    exact lI_le fun k hk => Int.mul_le_mul_of_nonneg_right (hmin k (List.mem_range.1 hk)) (hy k (by have := List.mem_range.1 hk; omega))
  have h2 : z.v ≤ atG G i j * z.t := by
    refine Int.le_trans (hc j hj) ?_
    rw [← hz.x, ← lI_mul]
    exact lI_le fun k hk => Int.mul_le_mul_of_nonneg_right (hmax k (List.mem_range.1 hk)) (hx k (by have := List.mem_range.1 hk; omega))
  omega
theorem lI_bnd {f : Nat → Int} {B k : Nat} (h : ∀ x, x < k → (f x).natAbs ≤ B) (hk : k ≤ 6) : (lI (List.range k) f).natAbs ≤ B * 6 := by
  have := lI_nab (L := List.range k) (f := f) (B := B) (fun x hx => h x (List.mem_range.1 hx))
  rw [List.length_range] at this
  exact Nat.le_trans this (Nat.mul_le_mul_left _ hk)

/-- On the way from w to V: the blocks P hold fresh fractions, the fractions F lie there. -/
structure Rm (w V : World) (P : List Nat) (F : List (Nat × Rat)) : Prop where
  low : Below w.heap.size w V
  pend : ∀ g ∈ P, isTR V g ∧ w.heap.size ≤ g
  facts : ∀ f ∈ F, isR V f.1 f.2
  apart : ∀ f ∈ F, ∀ g ∈ P, f.1 ≠ g
theorem Rm.alloc {w V : World} {P : List Nat} {F : List (Nat × Rat)} (h : Rm w V P F) : Rm w (V.alloc (.cells #[.bool false, .slice none 0 0, .bool false, .slice none 0 0] 39 (0, 0))) (V.heap.size :: P) F := by
  have ha : Below V.heap.size V (V.alloc (.cells #[.bool false, .slice none 0 0, .bool false, .slice none 0 0] 39 (0, 0))) := (Below.refl _ _).alloc (Nat.le_refl _) _
  refine ⟨h.low.alloc h.low.size _, fun g hg => ?_, fun f hf => (h.facts f hf).below ha (Nat.le_refl _), fun f hf g hg => ?_⟩
  · rcases List.mem_cons.1 hg with rfl | hg
    · exact ⟨newR_to V, h.low.size⟩
    · exact ⟨(h.pend g hg).1.below ha (Nat.le_refl _), (h.pend g hg).2⟩
  · rcases List.mem_cons.1 hg with rfl | hg
    · have := (h.facts f hf).lt; omega
    · exact h.apart f hf g hg
theorem Rm.drew {w V : World} {P : List Nat} {F : List (Nat × Rat)} (h : Rm w V P F) : Rm w V.drew P F :=
  ⟨h.low.drew, fun g hg => ⟨(h.pend g hg).1.below (Below.refl _ V).drew (Nat.le_refl _), (h.pend g hg).2⟩, fun f hf => (h.facts f hf).below (Below.refl _ V).drew (Nat.le_refl _), h.apart⟩
theorem Rm.newRat {w V : World} {P : List Nat} {F : List (Nat × Rat)} (h : Rm w V P F) (x : Int) (h1 : -4294967296 < x) (h2 : x < 4294967296) :
    Calls Tryd.prog 14 #[.int .i64 x, .int .i64 1] V fun e V' => ∃ c, e = .returned (.pointer (some ⟨c, 0, none⟩)) ∧ Rm w V' P ((c, (x : Rat)) :: F) ∧ V.heap.size ≤ V'.heap.size := by
  refine (NewRat_any x V h1 h2).mono ?_
  rintro e V' ⟨rfl, r, hb⟩
  refine ⟨_, rfl, ⟨h.low.trans (hb.mono h.low.size), fun g hg => ⟨(h.pend g hg).1.below hb (Nat.le_refl _), (h.pend g hg).2⟩, fun f hf => ?_, fun f hf g hg => ?_⟩, hb.size⟩
  · rcases List.mem_cons.1 hf with rfl | hf
    · exact r
    · exact (h.facts f hf).below hb (Nat.le_refl _)
  · rcases List.mem_cons.1 hf with rfl | hf
    · have := (h.pend g hg).1.a.nb.lt
      show V.heap.size ≠ g
      omega
    · exact h.apart f hf g hg
theorem Rm.mul {w V : World} {P : List Nat} {F : List (Nat × Rat)} (h : Rm w V P F) (g b c n : Nat) (q x : Rat) (hg : g ∈ P) (hq : isR w b q) (hx : (c, x) ∈ F) (hn : n ≤ 10000) (h1 : q.num.natAbs < 4294967296 ^ n) (h2 : q.den < 4294967296 ^ n) (h3 : x.num.natAbs < 4294967296 ^ n) (h4 : x.den < 4294967296 ^ n) :
    Calls Tryd.prog 15 #[.pointer (some ⟨g, 0, none⟩), .pointer (some ⟨b, 0, none⟩), .pointer (some ⟨c, 0, none⟩)] V fun e V' => e = .returned (.pointer (some ⟨g, 0, none⟩)) ∧ Rm w V' [] ((g, q * x) :: F) ∧ V.heap.size ≤ V'.heap.size := by
  have hp := h.pend g hg
  refine (Mul_q g b c n q x V hp.1 (hq.below h.low (Nat.le_refl _)) (h.facts _ hx) hn h1 h2 h3 h4).mono ?_
  rintro e V' ⟨rfl, r, k⟩
  refine ⟨rfl, ⟨h.low.trans (k.fresh hp.2 h.low.size), by simp, fun f hf => ?_, by simp⟩, k.size⟩
  rcases List.mem_cons.1 hf with rfl | hf
  · exact r
  · exact (h.facts f hf).but hp.1.a.nb k (Nat.le_refl _) (h.apart f hf g hg)
theorem Rm.add {w V : World} {P : List Nat} {F : List (Nat × Rat)} (h : Rm w V P F) (s c n : Nat) (x y z : Rat) (hs : (s, x) ∈ F) (hw : w.heap.size ≤ s) (hy : (c, y) ∈ F) (hz : x + y = z) (hn : n ≤ 9999) (h1 : x.num.natAbs < 4294967296 ^ n) (h2 : x.den < 4294967296 ^ n) (h3 : y.num.natAbs < 4294967296 ^ n) (h4 : y.den < 4294967296 ^ n) :
    Calls Tryd.prog 12 #[.pointer (some ⟨s, 0, none⟩), .pointer (some ⟨s, 0, none⟩), .pointer (some ⟨c, 0, none⟩)] V fun e V' => e = .returned (.pointer (some ⟨s, 0, none⟩)) ∧ isR V' s z ∧ Below w.heap.size w V' := by
  have hp := h.facts _ hs
  refine (Add_q s s c n x y V hp.to_ hp (h.facts _ hy) hn h1 h2 h3 h4).mono ?_
  rintro e V' ⟨rfl, r, k⟩
  rw [hz] at r
  exact ⟨rfl, r, h.low.trans (k.fresh hw h.low.size)⟩
end Go.Proofs.YthplbfjpmnpjmaaDoor
