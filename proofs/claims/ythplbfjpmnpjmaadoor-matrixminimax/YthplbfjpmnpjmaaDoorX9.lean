/-
  gamekeep.MatrixMinimax, walked.
-/
import Derived.Test.YthplbfjpmnpjmaaDoorJ43
import Derived.WalkLawsBesides
namespace Go.Proofs.YthplbfjpmnpjmaaDoor
open Go.RowKit Lp
attribute [local go_sem ↓] Go.wp_at_zero Go.wp_at_succ

set_option maxRecDepth 100000 in
set_option maxHeartbeats 2000000 in
theorem mini_no (ao : Option Addr) (cap : Nat) (G : List (List Int)) (w : World) (h : isMx w w.heap.size ao cap G) (hb : mxB G = false) :
    Calls Tryd.prog 4 #[.slice ao G.length cap] w fun e w' => e = .returned (.bool true) ∧ Below w.heap.size w w' := by
  have HS := hide (Solve_bad w.heap.size ao cap G w h hb)
  have HB := hide (Below.refl w.heap.size w)
  clear h hb
  go_enter Tryd.func4, Tryd.ntmps4
  go_wp2_with fail
  refine (unhide HS).mono ?_
  rintro e w' ⟨rfl, hw'⟩
  replace hw' := hw'.symm
  subst hw'
  go_wp2
  go_ret
  exact ⟨rfl, unhide HB⟩

/-- The value of one side's answer against the other: never below. -/
theorem cmpI_ge {a b : Int} (h : b ≤ a) : ¬ cmpI a b < 0 := by
  unfold cmpI
  rw [if_neg (by omega)]
  split <;> omega
theorem cmpI_le {a b : Int} (h : a ≤ b) : ¬ 0 < cmpI a b := by
  unfold cmpI
  split
  · omega
  · rw [if_neg (by omega)]; omega
theorem mul_bnd {a x : Int} (ha : a.natAbs ≤ 100) (hx : x.natAbs ≤ 4611686018427387904) : (a * x).natAbs ≤ 461168601842738790400 := by
  rw [Int.natAbs_mul]
  exact Nat.mul_le_mul ha hx
theorem pow3_lt {x : Nat} (h : x ≤ 4611686018427387904000) : x < 4294967296 ^ 3 := by
  have : (4294967296 : Nat) ^ 3 = 79228162514264337593543950336 := by decide
  omega
theorem Rm.start {w : World} {t : Nat} {f : Nat → Int} : Rm w (w.alloc (.cells #[.bool false, .slice none 0 0, .bool false, .slice none 0 0] 39 (0, 0))) [] [(w.heap.size, mkRat (lI (List.range 0) f) t)] := by
  refine ⟨(Below.refl _ _).alloc (Nat.le_refl _) _, by simp, fun f hf => ?_, by simp⟩
  simp at hf
  subst hf
  have : mkRat (lI [] f) t = 0 := by simp [lI]
  first
  | (simp [lI]; exact newR_zero w)
  | exact newR_zero w
theorem Rm.one {w V : World} {s : Nat} {z : Rat} (h : isR V s z) (hb : Below w.heap.size w V) : Rm w V [] [(s, z)] := by
  refine ⟨hb, by simp, fun f hf => ?_, by simp⟩
  simp at hf
  subst hf
  exact h

theorem step_facts (z F : Nat → Int) (t i : Nat) (x : Int) (ht : t ≠ 0) (ht2 : t ≤ 4611686018427387904) (hz : ∀ y, (z y).natAbs ≤ 4611686018427387904) (hF : ∀ y, y < i → (F y).natAbs ≤ 461168601842738790400) (hi : i ≤ 6) (hx : x.natAbs ≤ 100) (hFi : F i = x * z i) :
    mkRat (lI (List.range i) F) t + mkRat (z i) t * (x : Rat) = mkRat (lI (List.range (i + 1)) F) t ∧ ((mkRat (z i) t).num.natAbs < 4294967296 ^ 2 ∧ (mkRat (z i) t).den < 4294967296 ^ 2 ∧ ((x : Rat)).num.natAbs < 4294967296 ^ 2 ∧ ((x : Rat)).den < 4294967296 ^ 2 ∧ (mkRat (lI (List.range i) F) t).num.natAbs < 4294967296 ^ 3 ∧ (mkRat (lI (List.range i) F) t).den < 4294967296 ^ 3 ∧ (mkRat (z i) t * (x : Rat)).num.natAbs < 4294967296 ^ 3 ∧ (mkRat (z i) t * (x : Rat)).den < 4294967296 ^ 3) := by
  have b1 := mk_num_le (z i) t ht
  have b2 := mk_den_le (z i) t ht
  have b3 := mk_num_le (lI (List.range i) F) t ht
  have b4 := mk_den_le (lI (List.range i) F) t ht
  have b5 := mk_num_le (z i * x) t ht
  have b6 := mk_den_le (z i * x) t ht
  have b7 := hz i
  have b8 := lI_bnd (f := F) (B := 461168601842738790400) (k := i) hF hi
  have b9 : (z i * x).natAbs ≤ 461168601842738790400 := by rw [Int.mul_comm]; exact mul_bnd hx b7
  rw [mk_mulI]
  refine ⟨by rw [mk_add _ _ t ht, lI_range, hFi, Int.mul_comm (z i) x], pow2_lt (by omega), pow2_lt (by omega), pow2_lt (by rw [Rat.num_intCast]; omega), pow2_lt (by rw [Rat.den_intCast]; omega), pow3_lt (by omega), pow3_lt (by omega), pow3_lt (by omega), pow3_lt (by omega)⟩

set_option maxRecDepth 100000 in
set_option maxHeartbeats 8000000 in
theorem mini_yes (ao : Option Addr) (cap : Nat) (G : List (List Int)) (w : World) (hd : isDb w) (htab : isTab w) (h : isMx w w.heap.size ao cap G) (hb : mxB G = true) :
    Calls Tryd.prog 4 #[.slice ao G.length cap] w fun e w' => e = .returned (.bool true) ∧ Below w.heap.size w w' := by
  obtain ⟨N, hm1, hm6, hN1, hN6, hrw, -⟩ := mxB_rows hb
  have hrow : ∀ r ∈ G, r.length = N := fun r hr => (hrw r hr).1
  obtain ⟨m, hm⟩ : ∃ m, m = G.length := ⟨_, rfl⟩
  rw [← hm] at hm1 hm6
  have HA : Hid (∀ i j, (atG G i j).natAbs ≤ 100) := hide (nb_nab hb)
  have hSv := Solve_any G ao cap m N w hd htab h hb hm.symm hm1 hm6 hN1 hN6 hrow (nb_nab hb)
  have HSA : Hid (∀ u, Below w.heap.size w u → Calls Tryd.prog 5 #[.slice ao m cap] u fun e w' => ((noneB G N m 0 ∧ e = .returned (.tuple #[.int .i64 0, .int .i64 0, .bool false, .int .i64 0])) ∨ (∃ i j : Nat, i < m ∧ j < N ∧ noneB G N i j ∧ saB G i j = true ∧ e = .returned (.tuple #[.int .i64 (i : Int), .int .i64 (j : Int), .bool true, .int .i64 0]))) ∧ w' = u) := hide (fun u hu => by
    have := Saddle_any w.heap.size ao cap N G u (h.below hu (Nat.le_refl _)) hb hrow hN6
    rw [← hm] at this
    exact this)
  have HSV : Hid (∀ i j (z : So), i < m → j < N → saB G i j = true → hol m N (atG G) z → SoS m N z → z.v = atG G i j * z.t) := hide (fun i j z hi hj hs hh hz => saddle_val hm.symm hrow hi hj hm6 hN6 hs hh hz)
  have hle := h.le
  have hmo := h.most
  unfold maxLen at hmo
  rw [← hm] at hle ⊢
  obtain ⟨g, off, rfl, hg, hcs⟩ := mx_row h (fun e => by rw [e] at hm; simp at hm; omega) hN1 hrow
  rw [← hm] at hcs
  obtain ⟨r0g, r0off, r0c, hr0g, hr0n, hr0m, hr0c, -⟩ := hcs 0 (by omega)
  rw [Nat.add_zero] at hr0c
  have HCS := hide hcs
  have HSO := hide hSv
  have HR0 := hide hr0c
  unfold maxLen at hr0m
  have hN0 : (0 : Int) < (N : Int) := by omega
  have hm0 : (0 : Int) < (m : Int) := by omega
  clear hSv hcs h hb hm hrw hrow hd htab hr0c
  go_enter Tryd.func4, Tryd.ntmps4
  go_wp2_with fail
  refine (unhide HSO).mono ?_
  rintro e w1 ⟨hb1, z, t, g1, g2, hzt, ht1, hkz, ⟨hh, hzs⟩, rfl, hr1, hr2⟩
  have ht0 : t ≠ 0 := by omega
  have htb : t ≤ 2799360000000000 := by have := hkz.t; omega
  have hvb := hkz.v
  have HKX : Hid (∀ i, (z.x i).natAbs ≤ 4611686018427387904) := hide (fun i => by have := (hkz.b i).1; omega)
  have HKY : Hid (∀ i, (z.y i).natAbs ≤ 4611686018427387904) := hide (fun i => by have := (hkz.b i).2; omega)
  have HKX2 : Hid (∀ x ∈ fst6 z.x m, 0 ≤ x ∧ x < 4611686018427387904) := hide (fun x hx => by
    obtain ⟨i, hi, rfl⟩ := List.mem_map.1 hx
    have := (hkz.b i).1
    have := hh.2.1 i (by have := List.mem_range.1 hi; omega)
    omega)
  have HKY2 : Hid (∀ x ∈ fst6 z.y N, 0 ≤ x ∧ x < 4611686018427387904) := hide (fun x hx => by
    obtain ⟨i, hi, rfl⟩ := List.mem_map.1 hx
    have := (hkz.b i).2
    have := hh.2.2.1 i (by have := List.mem_range.1 hi; omega)
    omega)
  have HSX : Hid ((fst6 z.x m).sum = (t : Int)) := hide (by rw [sum_fst, hzs.x, hzt])
  have HSY : Hid ((fst6 z.y N).sum = (t : Int)) := hide (by rw [sum_fst, hzs.y, hzt])
  have HR1 := hide hr1
  have HR2 := hide hr2
  have HH := hide hh
  have HZS := hide hzs
  have HZT := hide hzt
  have HB1 := hide hb1
  have hs1 := hb1.size
  have hvn := mk_num_le z.v t ht0
  have hvd := mk_den_le z.v t ht0
  have HRO := hide (RatOf_any (mkRat z.v t) (frS z.v t) w1 (frS_ratS z.v t ht1) (by omega) (by omega))
  have HVB : Hid ((mkRat z.v t).num.natAbs < 4294967296 ^ 3 ∧ (mkRat z.v t).den < 4294967296 ^ 3) := hide ⟨pow3_lt (by omega), pow3_lt (by omega)⟩
  generalize frS z.v t = FV at HRO ⊢
  clear hb1 hkz hh hzs hr1 hr2 hzt hvn hvd hvb HSO
  go_wp2_with fail
  refine (unhide HRO).mono ?_
  rintro e w2 ⟨rfl, rv2, bv2⟩
  have hs2 := bv2.size
  have HB2 := hide ((unhide HB1).trans (bv2.mono hs1))
  have HV2 := hide rv2
  have c0 := ((unhide HB2).cell (p := ⟨g, off, none⟩) hg).trans (unhide HR0)
  have HMX := hide (mix_any (fst6 z.x m) t m g1 w.heap.size (fst6_len _ _) hm1 hm6 ht1 (by omega) (unhide HKX2) (unhide HSX) w2 ((unhide HR1).keep (bv2.block g1 (unhide HR1).lt.2)))
  have HMY : Hid (∀ u, Below w2.heap.size w2 u → Calls Tryd.prog 10 #[.slice (some ⟨g2, 0, none⟩) N N] u (MixE (fst6 z.y N) t u)) := hide (fun u hu => mix_any (fst6 z.y N) t N g2 w.heap.size (fst6_len _ _) hN1 hN6 ht1 (by omega) (unhide HKY2) (unhide HSY) u (((unhide HR2).keep (bv2.block g2 (unhide HR2).lt.2)).keep (hu.block g2 (by have := (unhide HR2).lt.2; omega))))
  clear rv2 bv2 HRO HB1 HR1 HR2 HKX2 HKY2 HSX HSY
  go_wp2_with fail
  refine (unhide HMX).mono ?_
  rintro e w3 ⟨b3, gp, cp, rfl, hp1, hp2, hgp, hpc⟩
  rw [fst6_len] at hp1 hpc ⊢
  have hs3 := b3.size
  have HB3 := hide b3
  have HPC := hide hpc
  have HMY3 := hide (unhide HMY w3 b3)
  clear b3 hpc HMX HMY c0
  go_wp2_with fail
  refine (unhide HMY3).mono ?_
  rintro e w4 ⟨b4, gq, cq, rfl, hq1, hq2, hgq, hqc⟩
  rw [fst6_len] at hq1 hqc ⊢
  have hs4 := b4.size
  have HB4 := hide ((unhide HB2).trans (((unhide HB3).trans (b4.mono hs3)).mono (by omega)))
  have HV4 := hide ((unhide HV2).below ((unhide HB3).trans (b4.mono hs3)) (Nat.le_refl _))
  have HP4 : Hid (∀ i, i < m → ∃ b, w4.cell? ⟨gp, i, none⟩ = some (.pointer (some ⟨b, 0, none⟩)) ∧ isR w4 b (mkRat (z.x i) t)) := hide (fun i hi => by
    obtain ⟨b, h1, h2⟩ := unhide HPC i hi
    rw [fst_at z.x hi] at h2
    exact ⟨b, (b4.cell (p := ⟨gp, i, none⟩) hgp).trans h1, h2.below b4 (Nat.le_refl _)⟩)
  have HQ4 : Hid (∀ i, i < N → ∃ b, w4.cell? ⟨gq, i, none⟩ = some (.pointer (some ⟨b, 0, none⟩)) ∧ isR w4 b (mkRat (z.y i) t)) := hide (fun i hi => by
    obtain ⟨b, h1, h2⟩ := hqc i hi
    rw [fst_at z.y hi] at h2
    exact ⟨b, h1, h2⟩)
  have hgp4 : gp < w4.heap.size := by omega
  clear b4 hqc HMY3 HPC HB3 HB2 HV2 hgp
  have HM1 := hide hm1
  have HN1 := hide hN1
  have heq : ∀ (a : Option Addr) (l c : Nat) (u : World), (binOp .eql 34 (.slice a l c) (.slice none 0 0)).run Tryd.prog u = .ok (.bool a.isNone) u := fun a l c u => by
    simp only [binOp]
    simp [run_equal_slice_nil u 34 32 a l c Tryd.underlying34]
  go_wp2
  clear heq
  go_loopw [75] (fun cv wr => ∃ c : Nat, c ≤ N ∧ cv = .int .i64 (c : Int) ∧ Hid (Below w4.heap.size w4 wr)) (fun cv _ => N - (intOf cv).toNat)
  case atStart => exact ⟨0, Nat.zero_le _, rfl, hide (Below.refl _ _)⟩
  case round =>
    obtain ⟨c, hc, rfl, HBW⟩ := hrel
    rename World => wr
    have hws := (unhide HBW).size
    by_cases hcN : c < N
    · have hcNi : (c : Int) < (N : Int) := by omega
      have hc0 : (0 : Int) ≤ (c : Int) := by omega
      have HST : Hid (Rm wr (wr.alloc (.cells #[.bool false, .slice none 0 0, .bool false, .slice none 0 0] 39 (0, 0))) [] [(wr.heap.size, mkRat (lI (List.range 0) (fun i => atG G i c * z.x i)) t)]) := hide Rm.start
      go_wp2
      go_loopw [81] (fun iv wq => ∃ i : Nat, i ≤ m ∧ iv = .int .i64 (i : Int) ∧ Hid (Rm wr wq [] [(wr.heap.size, mkRat (lI (List.range i) (fun i => atG G i c * z.x i)) t)])) (fun iv _ => m - (intOf iv).toNat)
      case atStart => exact ⟨0, Nat.zero_le _, rfl, HST⟩
      case round =>
        obtain ⟨i, hi, rfl, HI⟩ := hrel
        rename World => wq
        by_cases hil : i < m
        · have hili : (i : Int) < (m : Int) := by omega
          have hi0 : (0 : Int) ≤ (i : Int) := by omega
          obtain ⟨rg, roff, rci, hrg, hn1, hn2, hcr, hca⟩ := unhide HCS i hil
          unfold maxLen at hn2
          obtain ⟨bp, hbp, hqi⟩ := unhide HP4 i hil
          obtain ⟨x, hx⟩ : ∃ x, x = atG G i c := ⟨_, rfl⟩
          have hcx := hca c hcN
          rw [← hx] at hcx
          obtain ⟨hZT, hNB⟩ := step_facts z.x (fun i => atG G i c * z.x i) t i x ht0 (by omega) (unhide HKX) (fun y hy => mul_bnd (unhide HA y c) (unhide HKX y)) (by omega) (by rw [hx]; exact unhide HA i c) (by rw [hx])
          have hxb : x.natAbs ≤ 100 := by rw [hx]; exact unhide HA i c
          have hx1 : -4294967296 < x := by omega
          have hx2 : x < 4294967296 := by omega
          have HSK : Hid (∀ u, Below wr.heap.size wr u → u.cell? ⟨gp, i, none⟩ = some (.pointer (some ⟨bp, 0, none⟩)) ∧ u.cell? ⟨g, off + i, none⟩ = some (.slice (some ⟨rg, roff, none⟩) N rci) ∧ u.cell? ⟨rg, roff + c, none⟩ = some (.int .i64 x)) := hide (fun u hu => by
            have hu4 : Below w4.heap.size w4 u := (unhide HBW).trans (hu.mono hws)
            have hu0 : Below w.heap.size w u := (unhide HB4).trans (hu4.mono (unhide HB4).size)
            exact ⟨(hu4.cell (p := ⟨gp, i, none⟩) hgp4).trans hbp, (hu0.cell (p := ⟨g, off + i, none⟩) hg).trans hcr, (hu0.cell (p := ⟨rg, roff + c, none⟩) hrg).trans hcx⟩)
          have HQI := hide (hqi.below (unhide HBW) (Nat.le_refl _))
          have HNB := hide hNB
          have hI := unhide HI
          obtain ⟨q, hq⟩ : ∃ q, q = mkRat (z.x i) t := ⟨_, rfl⟩
          obtain ⟨T, hT⟩ : ∃ T, T = mkRat (lI (List.range i) (fun i => atG G i c * z.x i)) t := ⟨_, rfl⟩
          obtain ⟨Z, hZ⟩ : ∃ Z, Z = mkRat (lI (List.range (i + 1)) (fun i => atG G i c * z.x i)) t := ⟨_, rfl⟩
          rw [← hq] at HQI HNB hZT
          rw [← hT] at HNB hZT hI
          rw [← hZ] at hZT
          have HZ := hide hZT
          have HZE := hide hZ
          clear hcr hca hbp hqi hcx hNB hZT hq hT hZ hx HI
          go_wp2_with fail
          have hS := hI
          clear hI
          go_region_held3 (fun u => u.cell? ⟨gp, i, none⟩ = some (.pointer (some ⟨bp, 0, none⟩)) ∧ u.cell? ⟨g, off + i, none⟩ = some (.slice (some ⟨rg, roff, none⟩) N rci) ∧ u.cell? ⟨rg, roff + c, none⟩ = some (.int .i64 x))
            (first | with_reducible exact unhide HSK _ bA | with_reducible exact unhide HSK _ hS.low | with_reducible exact unhide HSK _ hS.drew.low | with_reducible exact unhide HSK _ hS.alloc.low | with_reducible exact unhide HSK _ hS.alloc.drew.low | with_reducible exact unhide HSK _ hS.drew.alloc.low)
            (first
              | (go_at_call 14
                 (first | (with_reducible refine (hS.newRat x hx1 hx2).mono ?_) | (with_reducible refine (hS.alloc.newRat x hx1 hx2).mono ?_) | (with_reducible refine (hS.drew.newRat x hx1 hx2).mono ?_) | (with_reducible refine (hS.alloc.drew.newRat x hx1 hx2).mono ?_) | (with_reducible refine (hS.drew.alloc.newRat x hx1 hx2).mono ?_))
                 rintro e wN ⟨cN, rfl, hS', sN⟩
                 (try simp only [drew_size] at sN); (try simp only [World.size_alloc] at sN)
                 replace hS := hS'
                 skip)
              | (go_at_call 15
                 (first | (with_reducible refine (hS.mul _ bp cN 2 q (x : Rat) (by first | (simp; done) | (simp; omega)) (unhide HQI) (by first | (simp; done) | (simp; omega)) (by omega) (unhide HNB).1 (unhide HNB).2.1 (unhide HNB).2.2.1 (unhide HNB).2.2.2.1).mono ?_) | (with_reducible refine (hS.alloc.mul _ bp cN 2 q (x : Rat) (by first | (simp; done) | (simp; omega)) (unhide HQI) (by first | (simp; done) | (simp; omega)) (by omega) (unhide HNB).1 (unhide HNB).2.1 (unhide HNB).2.2.1 (unhide HNB).2.2.2.1).mono ?_) | (with_reducible refine (hS.drew.mul _ bp cN 2 q (x : Rat) (by first | (simp; done) | (simp; omega)) (unhide HQI) (by first | (simp; done) | (simp; omega)) (by omega) (unhide HNB).1 (unhide HNB).2.1 (unhide HNB).2.2.1 (unhide HNB).2.2.2.1).mono ?_))
                 rintro e wM ⟨rfl, hS', sM⟩
                 (try simp only [drew_size] at sM); (try simp only [World.size_alloc] at sM)
                 replace hS := hS'
                 skip)
              | (go_at_call 12
                 (with_reducible refine (hS.add wr.heap.size _ 3 T (q * (x : Rat)) Z (by first | (simp; done) | (simp; omega)) (Nat.le_refl _) (by first | (simp; done) | (simp; omega)) (unhide HZ) (by omega) (unhide HNB).2.2.2.2.1 (unhide HNB).2.2.2.2.2.1 (unhide HNB).2.2.2.2.2.2.1 (unhide HNB).2.2.2.2.2.2.2).mono ?_)
                 rintro e wA ⟨rfl, rA, bA⟩))
          all_goals (
            have HE : Hid (Rm wr wA [] [(wr.heap.size, Z)]) := hide (Rm.one rA bA)
            rw [unhide HZE] at HE
            clear rA bA hS
            go_wp2
            go_roundw
            case rel => exact ⟨i + 1, by omega, by go_num, HE⟩
            case measure => simp only [intOf]; omega)
        · have hili : ¬ (i : Int) < (m : Int) := by omega
          obtain rfl : m = i := by omega
          obtain ⟨cv, hcv⟩ : ∃ cv, cv = cmpI (lI (List.range m) (fun k => atG G k c * z.x k)) z.v := ⟨_, rfl⟩
          have hge : ¬ cv < 0 := by rw [hcv]; exact cmpI_ge ((unhide HH).2.2.2.2 c hcN)
          have hsm : isR wq wr.heap.size (mkRat (lI (List.range m) (fun k => atG G k c * z.x k)) t) := (unhide HI).facts _ (List.mem_singleton.2 rfl)
          have hlow := (unhide HI).low
          have hsn := mk_num_le (lI (List.range m) (fun k => atG G k c * z.x k)) t ht0
          have hsd := mk_den_le (lI (List.range m) (fun k => atG G k c * z.x k)) t ht0
          have hsb := lI_bnd (f := fun k => atG G k c * z.x k) (B := 461168601842738790400) (k := m) (fun y hy => mul_bnd (unhide HA y c) (unhide HKX y)) (by omega)
          have hwq4 : Below w4.heap.size w4 wq := (unhide HBW).trans (hlow.mono hws)
          have HCM := hide (Cmp_q wr.heap.size w1.heap.size 3 _ _ wq hsm ((unhide HV4).below hwq4 (Nat.le_refl _)) (by omega) (pow3_lt (by omega)) (pow3_lt (by omega)) (unhide HVB).1 (unhide HVB).2)
          rw [cmp_mk _ _ t ht0, ← hcv] at HCM
          have HQ4W := hide hwq4
          have hwqs := hwq4.size
          clear hsm hlow hsn hsd hsb hwq4 hcv HI
          go_wp2_with fail
          refine (unhide HCM).mono ?_
          rintro e w5 ⟨rfl, b5⟩
          have HB5 : Hid (Below w4.heap.size w4 w5) := hide ((unhide HQ4W).trans (b5.mono hwqs))
          clear b5 HCM HQ4W
          go_wp2
          go_roundw
          case rel => exact ⟨c + 1, by omega, by go_num, HB5⟩
          case measure => simp only [intOf]; omega
    · have hcNi : ¬ (c : Int) < (N : Int) := by omega
      obtain rfl : N = c := by omega
      go_wp2
      go_loopw [109] (fun cv wr => ∃ c : Nat, c ≤ m ∧ cv = .int .i64 (c : Int) ∧ Hid (Below w4.heap.size w4 wr)) (fun cv _ => m - (intOf cv).toNat)
      case atStart => exact ⟨0, Nat.zero_le _, rfl, HBW⟩
      case round =>
        obtain ⟨c, hc, rfl, HBW⟩ := hrel
        rename World => wr
        have hws := (unhide HBW).size
        by_cases hcN : c < m
        · have hcNi : (c : Int) < (m : Int) := by omega
          have hc0 : (0 : Int) ≤ (c : Int) := by omega
          have HST : Hid (Rm wr (wr.alloc (.cells #[.bool false, .slice none 0 0, .bool false, .slice none 0 0] 39 (0, 0))) [] [(wr.heap.size, mkRat (lI (List.range 0) (fun i => atG G c i * z.y i)) t)]) := hide Rm.start
          go_wp2
          go_loopw [115] (fun iv wq => ∃ i : Nat, i ≤ N ∧ iv = .int .i64 (i : Int) ∧ Hid (Rm wr wq [] [(wr.heap.size, mkRat (lI (List.range i) (fun i => atG G c i * z.y i)) t)])) (fun iv _ => N - (intOf iv).toNat)
          case atStart => exact ⟨0, Nat.zero_le _, rfl, HST⟩
          case round =>
            obtain ⟨i, hi, rfl, HI⟩ := hrel
            rename World => wq
            by_cases hil : i < N
            · have hili : (i : Int) < (N : Int) := by omega
              have hi0 : (0 : Int) ≤ (i : Int) := by omega
              obtain ⟨rg, roff, rci, hrg, hn1, hn2, hcr, hca⟩ := unhide HCS c hcN
              unfold maxLen at hn2
              obtain ⟨bp, hbp, hqi⟩ := unhide HQ4 i hil
              obtain ⟨x, hx⟩ : ∃ x, x = atG G c i := ⟨_, rfl⟩
              have hcx := hca i hil
              rw [← hx] at hcx
              obtain ⟨hZT, hNB⟩ := step_facts z.y (fun i => atG G c i * z.y i) t i x ht0 (by omega) (unhide HKY) (fun y hy => mul_bnd (unhide HA c y) (unhide HKY y)) (by omega) (by rw [hx]; exact unhide HA c i) (by rw [hx])
              have hxb : x.natAbs ≤ 100 := by rw [hx]; exact unhide HA c i
              have hx1 : -4294967296 < x := by omega
              have hx2 : x < 4294967296 := by omega
              have HSK : Hid (∀ u, Below wr.heap.size wr u → u.cell? ⟨gq, i, none⟩ = some (.pointer (some ⟨bp, 0, none⟩)) ∧ u.cell? ⟨g, off + c, none⟩ = some (.slice (some ⟨rg, roff, none⟩) N rci) ∧ u.cell? ⟨rg, roff + i, none⟩ = some (.int .i64 x)) := hide (fun u hu => by
                have hu4 : Below w4.heap.size w4 u := (unhide HBW).trans (hu.mono hws)
                have hu0 : Below w.heap.size w u := (unhide HB4).trans (hu4.mono (unhide HB4).size)
                exact ⟨(hu4.cell (p := ⟨gq, i, none⟩) hgq).trans hbp, (hu0.cell (p := ⟨g, off + c, none⟩) hg).trans hcr, (hu0.cell (p := ⟨rg, roff + i, none⟩) hrg).trans hcx⟩)
              have HQI := hide (hqi.below (unhide HBW) (Nat.le_refl _))
              have HNB := hide hNB
              have hI := unhide HI
              obtain ⟨q, hq⟩ : ∃ q, q = mkRat (z.y i) t := ⟨_, rfl⟩
              obtain ⟨T, hT⟩ : ∃ T, T = mkRat (lI (List.range i) (fun i => atG G c i * z.y i)) t := ⟨_, rfl⟩
              obtain ⟨Z, hZ⟩ : ∃ Z, Z = mkRat (lI (List.range (i + 1)) (fun i => atG G c i * z.y i)) t := ⟨_, rfl⟩
              rw [← hq] at HQI HNB hZT
              rw [← hT] at HNB hZT hI
              rw [← hZ] at hZT
              have HZ := hide hZT
              have HZE := hide hZ
              clear hcr hca hbp hqi hcx hNB hZT hq hT hZ hx HI
              go_wp2_with fail
              have hS := hI
              clear hI
              go_region_held3 (fun u => u.cell? ⟨gq, i, none⟩ = some (.pointer (some ⟨bp, 0, none⟩)) ∧ u.cell? ⟨g, off + c, none⟩ = some (.slice (some ⟨rg, roff, none⟩) N rci) ∧ u.cell? ⟨rg, roff + i, none⟩ = some (.int .i64 x))
                (first | with_reducible exact unhide HSK _ bA | with_reducible exact unhide HSK _ hS.low | with_reducible exact unhide HSK _ hS.drew.low | with_reducible exact unhide HSK _ hS.alloc.low | with_reducible exact unhide HSK _ hS.alloc.drew.low | with_reducible exact unhide HSK _ hS.drew.alloc.low)
                (first
                  | (go_at_call 14
                     (first | (with_reducible refine (hS.newRat x hx1 hx2).mono ?_) | (with_reducible refine (hS.alloc.newRat x hx1 hx2).mono ?_) | (with_reducible refine (hS.drew.newRat x hx1 hx2).mono ?_) | (with_reducible refine (hS.alloc.drew.newRat x hx1 hx2).mono ?_) | (with_reducible refine (hS.drew.alloc.newRat x hx1 hx2).mono ?_))
                     rintro e wN ⟨cN, rfl, hS', sN⟩
                     (try simp only [drew_size] at sN); (try simp only [World.size_alloc] at sN)
                     replace hS := hS'
                     skip)
                  | (go_at_call 15
                     (first | (with_reducible refine (hS.mul _ bp cN 2 q (x : Rat) (by first | (simp; done) | (simp; omega)) (unhide HQI) (by first | (simp; done) | (simp; omega)) (by omega) (unhide HNB).1 (unhide HNB).2.1 (unhide HNB).2.2.1 (unhide HNB).2.2.2.1).mono ?_) | (with_reducible refine (hS.alloc.mul _ bp cN 2 q (x : Rat) (by first | (simp; done) | (simp; omega)) (unhide HQI) (by first | (simp; done) | (simp; omega)) (by omega) (unhide HNB).1 (unhide HNB).2.1 (unhide HNB).2.2.1 (unhide HNB).2.2.2.1).mono ?_) | (with_reducible refine (hS.drew.mul _ bp cN 2 q (x : Rat) (by first | (simp; done) | (simp; omega)) (unhide HQI) (by first | (simp; done) | (simp; omega)) (by omega) (unhide HNB).1 (unhide HNB).2.1 (unhide HNB).2.2.1 (unhide HNB).2.2.2.1).mono ?_))
                     rintro e wM ⟨rfl, hS', sM⟩
                     (try simp only [drew_size] at sM); (try simp only [World.size_alloc] at sM)
                     replace hS := hS'
                     skip)
                  | (go_at_call 12
                     (with_reducible refine (hS.add wr.heap.size _ 3 T (q * (x : Rat)) Z (by first | (simp; done) | (simp; omega)) (Nat.le_refl _) (by first | (simp; done) | (simp; omega)) (unhide HZ) (by omega) (unhide HNB).2.2.2.2.1 (unhide HNB).2.2.2.2.2.1 (unhide HNB).2.2.2.2.2.2.1 (unhide HNB).2.2.2.2.2.2.2).mono ?_)
                     rintro e wA ⟨rfl, rA, bA⟩))
              all_goals (
                have HE : Hid (Rm wr wA [] [(wr.heap.size, Z)]) := hide (Rm.one rA bA)
                rw [unhide HZE] at HE
                clear rA bA hS
                go_wp2
                go_roundw
                case rel => exact ⟨i + 1, by omega, by go_num, HE⟩
                case measure => simp only [intOf]; omega)
            · have hili : ¬ (i : Int) < (N : Int) := by omega
              obtain rfl : N = i := by omega
              obtain ⟨cv, hcv⟩ : ∃ cv, cv = cmpI (lI (List.range N) (fun k => atG G c k * z.y k)) z.v := ⟨_, rfl⟩
              have hge : ¬ 0 < cv := by rw [hcv]; exact cmpI_le ((unhide HH).2.2.2.1 c hcN)
              have hsm : isR wq wr.heap.size (mkRat (lI (List.range N) (fun k => atG G c k * z.y k)) t) := (unhide HI).facts _ (List.mem_singleton.2 rfl)
              have hlow := (unhide HI).low
              have hsn := mk_num_le (lI (List.range N) (fun k => atG G c k * z.y k)) t ht0
              have hsd := mk_den_le (lI (List.range N) (fun k => atG G c k * z.y k)) t ht0
              have hsb := lI_bnd (f := fun k => atG G c k * z.y k) (B := 461168601842738790400) (k := N) (fun y hy => mul_bnd (unhide HA c y) (unhide HKY y)) (by omega)
              have hwq4 : Below w4.heap.size w4 wq := (unhide HBW).trans (hlow.mono hws)
              have HCM := hide (Cmp_q wr.heap.size w1.heap.size 3 _ _ wq hsm ((unhide HV4).below hwq4 (Nat.le_refl _)) (by omega) (pow3_lt (by omega)) (pow3_lt (by omega)) (unhide HVB).1 (unhide HVB).2)
              rw [cmp_mk _ _ t ht0, ← hcv] at HCM
              have HQ4W := hide hwq4
              have hwqs := hwq4.size
              clear hsm hlow hsn hsd hsb hwq4 hcv HI
              go_wp2_with fail
              refine (unhide HCM).mono ?_
              rintro e w5 ⟨rfl, b5⟩
              have HB5 : Hid (Below w4.heap.size w4 w5) := hide ((unhide HQ4W).trans (b5.mono hwqs))
              clear b5 HCM HQ4W
              go_wp2
              go_roundw
              case rel => exact ⟨c + 1, by omega, by go_num, HB5⟩
              case measure => simp only [intOf]; omega
        · have hcNi : ¬ (c : Int) < (m : Int) := by omega
          obtain rfl : m = c := by omega
          have hB0 : Below w.heap.size w wr := (unhide HB4).trans ((unhide HBW).mono (unhide HB4).size)
          have HB0 := hide hB0
          have HSD := hide (unhide HSA wr hB0)
          have HV5 := hide ((unhide HV4).below (unhide HBW) (Nat.le_refl _))
          clear hB0 HSA HB4 HP4 HQ4 HV4
          go_wp2_with fail
          refine (unhide HSD).mono ?_
          rintro e w' ⟨hout, hw'⟩
          replace hw' := hw'.symm
          subst hw'
          rcases hout with ⟨-, rfl⟩ | ⟨i, j, hi, hj, -, hs, rfl⟩
          · go_wp2
            go_ret
            exact ⟨rfl, unhide HB0⟩
          · have hii : (i : Int) < (m : Int) := by omega
            have hi0 : (0 : Int) ≤ (i : Int) := by omega
            have hji : (j : Int) < (N : Int) := by omega
            have hj0 : (0 : Int) ≤ (j : Int) := by omega
            obtain ⟨rg, roff, rci, hrg, hn1, hn2, hcr, hca⟩ := unhide HCS i hi
            unfold maxLen at hn2
            obtain ⟨x, hx⟩ : ∃ x, x = atG G i j := ⟨_, rfl⟩
            have hcx := hca j hj
            have hval := unhide HSV i j z hi hj hs (unhide HH) (unhide HZS)
            have hxb := unhide HA i j
            rw [← hx] at hcx hval hxb
            have cr := ((unhide HB0).cell (p := ⟨g, off + i, none⟩) hg).trans hcr
            have cx := ((unhide HB0).cell (p := ⟨rg, roff + j, none⟩) hrg).trans hcx
            have HNR := hide (NewRat_any x wr (by omega) (by omega))
            have HVX : Hid (mkRat z.v t = (x : Rat)) := hide (by rw [hval, unhide HZT, mk_ofI x t ht0])
            clear hcr hca hcx hval hx hs HSV
            go_wp2_with fail
            refine (unhide HNR).mono ?_
            rintro e w5 ⟨rfl, r5, b5⟩
            have hv5 := (unhide HV5).below b5 (Nat.le_refl _)
            rw [unhide HVX] at hv5
            have hb5s := b5.size
            have HCM := hide (Cmp_q w1.heap.size wr.heap.size 3 (x : Rat) (x : Rat) w5 hv5 r5 (by omega) (by rw [Rat.num_intCast]; exact pow3_lt (by omega)) (by rw [Rat.den_intCast]; exact pow3_lt (by omega)) (by rw [Rat.num_intCast]; exact pow3_lt (by omega)) (by rw [Rat.den_intCast]; exact pow3_lt (by omega)))
            have hcq : cmpQ (x : Rat) (x : Rat) = 0 := by unfold cmpQ; rw [if_neg (Rat.lt_irrefl), if_neg (Rat.lt_irrefl)]
            rw [hcq] at HCM
            have HB5 : Hid (Below w.heap.size w w5) := hide ((unhide HB0).trans (b5.mono (unhide HB0).size))
            clear hv5 r5 b5 hcq HNR cr cx
            go_wp2_with fail
            refine (unhide HCM).mono ?_
            rintro e w6 ⟨rfl, b6⟩
            have HB6 : Hid (Below w.heap.size w w6) := hide ((unhide HB5).trans (b6.mono (unhide HB5).size))
            clear b6 HCM
            go_wp2
            go_ret
            exact ⟨rfl, unhide HB6⟩
end Go.Proofs.YthplbfjpmnpjmaaDoor
