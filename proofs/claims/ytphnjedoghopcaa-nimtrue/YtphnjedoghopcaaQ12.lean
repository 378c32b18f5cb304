/-
  The document's answer: gameref.ValuesOf.
-/
import Derived.Test.YtphnjedoghopcaaQ11
import Derived.Test.YtphnjedoghopcaaM43
namespace Go.Proofs.Ytphnjedoghopcaa
open Go.RowKit
attribute [local go_sem ↓] Go.wp_at_zero Go.wp_at_succ

def boolN : Value → Nat
  | .bool true => 1
  | _ => 0
/-- What ValuesOf leaves. -/
structure VoEnd (G : List (List Int)) (w : World) (e : Ending) (w' : World) : Prop where
  low : Below w.heap.size w w'
  out : (OkG G ∧ ∃ gv V, e = .returned (.tuple #[.slice (some ⟨gv, 0, none⟩) G.length G.length, .int .i64 0]) ∧ w.heap.size ≤ gv ∧ rowN w' gv V ∧ Solves G V ∧ ∃ rk, Down G rk) ∨ (OkG G ∧ e = .returned (.tuple #[.slice none 0 0, .int .i64 7]) ∧ ¬ ∃ rk, Down G rk) ∨ (¬ OkG G ∧ e = .returned (.tuple #[.slice none 0 0, .int .i64 (chkI G)]))

set_option maxHeartbeats 4000000 in
set_option maxRecDepth 100000 in
theorem valuesOf_ok (G : List (List Int)) (ok : OkG G) (ao : Option Addr) (cap : Nat) (w : World) (hG : isG w w.heap.size ao cap G) :
    Calls Try.prog 14 #[.slice ao G.length cap] w fun e w' => VoEnd G w e w' := by
  have hle := hG.1
  have hmx := hG.2.1
  unfold maxLen at hmx
  have hn := ok.len
  have HGR := hide (rGraph_any _ ao cap G w hG)
  rw [chk_ok.2 ok] at HGR
  have hmk := made_ints G.length (by omega)
  have hmkb := made_bools G.length (by omega)
  obtain ⟨wa, hwa⟩ : ∃ wa, wa = (w.alloc (.cells (nvals (List.replicate G.length 0)).toArray 3 (0, 0))).alloc (.cells (bvals (List.replicate G.length false)).toArray 4 (0, 0)) := ⟨_, rfl⟩
  have hba : Below w.heap.size w wa := by rw [hwa]; exact ((Below.refl _ _).alloc (Nat.le_refl _) _).alloc (by simp) _
  have hrV : rowN wa w.heap.size (List.replicate G.length 0) := by
    rw [hwa]; unfold rowN
    rw [Below.heap_alloc _ _ _ (by simp)]
    exact heap_alloc_new w _
  have hrK : rowB wa (w.heap.size + 1) (List.replicate G.length false) := by
    rw [hwa]; unfold rowB
    have := heap_alloc_new (w.alloc (.cells (nvals (List.replicate G.length 0)).toArray 3 (0, 0))) (.cells (bvals (List.replicate G.length false)).toArray 4 (0, 0))
    rwa [show (w.alloc (.cells (nvals (List.replicate G.length 0)).toArray 3 (0, 0))).heap.size = w.heap.size + 1 by simp] at this
  have hz0 : zer (fb (List.replicate G.length false)) = G.length := by rw [fb_rep]; unfold zer; rw [List.countP_replicate]; simp
  have HZ0 := hide hz0
  have HG := hide hG
  have HOK := hide ok
  have HBA := hide hba
  have HRV := hide hrV
  have HRK := hide hrK
  have HWA := hide hwa
  clear hG ok hba hrV hrK hwa hz0
  go_enter Try.func14, Try.ntmps14
  go_wp2_with fail
  refine (unhide HGR).mono ?_
  rintro e w1 ⟨rfl, rfl⟩
  go_wp2
  rw [← unhide HWA]
  clear HWA hmk hmkb HGR
  go_loopw [7, 8] (fun lv mv wr => ∃ (K : List Bool) (V : List Nat) (mb : Bool), lv = .int .i64 (zer (fb K) : Int) ∧ mv = .bool mb ∧ rowB wr (w1.heap.size + 1) K ∧ rowN wr w1.heap.size V ∧ Dfs G (fb K) V ∧ Hid (mb = false → Stuck G K G.length) ∧ Below w1.heap.size w1 wr) (fun lv mv _ => 2 * (intOf lv).toNat + boolN mv)
  case atStart => exact ⟨List.replicate G.length false, List.replicate G.length 0, true, by rw [unhide HZ0], rfl, unhide HRK, unhide HRV, by rw [fb_rep]; exact Dfs.start G, hide (fun h => by cases h), unhide HBA⟩
  case round =>
    obtain ⟨K0, V0, mb0, rfl, rfl, hK0, hV0, hI0, HS0, hb0⟩ := hrel
    clear HRV HRK HBA HZ0
    have hzl : ∀ K : List Bool, zer (fb K) ≤ K.length := fun K => by rw [← fb_len]; exact List.countP_le_length
    have hz0 : zer (fb K0) ≤ 1000 := by
      have := hzl K0
      have h2 := hI0.lf
      rw [fb_len] at h2
      omega
    obtain ⟨Z0, hZ0⟩ : ∃ Z0, Z0 = zer (fb K0) := ⟨_, rfl⟩
    rw [← hZ0] at hz0 ⊢
    cases mb0 with
    | false =>
      have HST := hide (unhide HS0 rfl)
      have HI0 := hide hI0
      have HV0 := hide hV0
      have HB0 := hide hb0
      have HZ := hide hZ0
      clear hK0 hV0 hI0 hb0 hZ0
      by_cases hz : 0 < Z0
      · have hzi : (0 : Int) < (Z0 : Int) := by omega
        have HE : Hid (VoEnd G w1 (.returned (.tuple #[.slice none 0 0, .int .i64 7])) wr) := hide ⟨unhide HB0, .inr (.inl ⟨unhide HOK, rfl, fun ⟨rk, hd⟩ => by
          obtain ⟨j, hj, h0⟩ := zer_some (fb K0) (by rw [← unhide HZ]; exact hz)
          rw [(unhide HI0).lf] at hj
          rw [fb_at] at h0
          exact stuck_no (unhide HOK) (unhide HST) hd (rk j + 1) j (Nat.lt_succ_self _) hj (by cases hkj : K0[j]! <;> simp_all)⟩)⟩
        go_wp2
        go_ret2
        exact unhide HE
      · have hzi : ¬ (0 : Int) < (Z0 : Int) := by omega
        have HE : Hid (VoEnd G w1 (.returned (.tuple #[.slice (some ⟨w1.heap.size, 0, none⟩) G.length G.length, .int .i64 0])) wr) := hide (by
          have hall := (unhide HI0).all (fun j hj => by
            have h1 := zer_zero (fb K0) (by rw [← unhide HZ]; omega) j (by rw [(unhide HI0).lf]; exact hj)
            rw [fb_at] at h1 ⊢
            split
            · rfl
            · rename_i h2; rw [if_neg h2] at h1; exact absurd rfl h1)
          exact ⟨unhide HB0, .inl ⟨unhide HOK, _, _, rfl, Nat.le_refl _, unhide HV0, hall.1, hall.2⟩⟩)
        go_wp2
        go_ret2
        exact unhide HE
    | true =>
      have HK0 := hide hK0
      have HV0 := hide hV0
      have HI0 := hide hI0
      have HB0 := hide hb0
      have HZ := hide hZ0
      clear hK0 hV0 hI0 hb0 hZ0 HS0
      go_wp2
      go_loopw [7, 8, 9] (fun lv mv iv wr => ∃ (i : Nat) (K : List Bool) (V : List Nat) (mb : Bool), i ≤ G.length ∧ iv = .int .i64 (i : Int) ∧ lv = .int .i64 (zer (fb K) : Int) ∧ mv = .bool mb ∧ rowB wr (w1.heap.size + 1) K ∧ rowN wr w1.heap.size V ∧ Dfs G (fb K) V ∧ Hid (zer (fb K) ≤ Z0 ∧ (mb = true → zer (fb K) < Z0) ∧ (mb = false → zer (fb K) = Z0)) ∧ Hid (mb = false → Stuck G K i) ∧ Below w1.heap.size w1 wr) (fun _ _ iv _ => G.length - (intOf iv).toNat)
      case atStart => exact ⟨0, K0, V0, false, Nat.zero_le _, rfl, by rw [unhide HZ], rfl, unhide HK0, unhide HV0, unhide HI0, hide ⟨by rw [unhide HZ]; exact Nat.le_refl _, (fun h => by cases h), fun _ => (unhide HZ).symm⟩, hide (fun _ j r hj => by omega), unhide HB0⟩
      case round =>
        obtain ⟨i, K, V, mb, hi, rfl, rfl, rfl, hK, hV, hI, HZZ, HST, hb⟩ := hrel
        clear HK0 HV0 HI0 HB0
        have hKl : K.length = G.length := by have := hI.lf; rwa [fb_len] at this
        have hzk : zer (fb K) ≤ 1000 := by have := hzl K; omega
        rename World => wi
        by_cases hlt : i < G.length
        · have hlti : (i : Int) < (G.length : Int) := by omega
          have hi0 : (0 : Int) ≤ (i : Int) := by omega
          have hr := List.getElem?_eq_getElem hlt
          obtain ⟨g, off, ro, rc, e, hg, c0, hIs⟩ := (unhide HG).at_ hr
          subst e
          obtain ⟨r, hrr⟩ : ∃ r, r = G[i] := ⟨_, rfl⟩
          rw [← hrr] at hr c0 hIs
          have e0 := (hb.cell (p := ⟨g, off + i, none⟩) hg).trans c0
          have hrl := hIs.1
          have hrm := hIs.2.1
          unfold maxLen at hrm
          have hr1000 := (unhide HOK).row i r hr
          have hin := (unhide HOK).in_ i r hr
          have k0 := hK.cell (k := i) (by omega)
          have hxc : ∀ (m : Nat) (x : Int), r[m]? = some x → ∃ g2 o2, ro = some ⟨g2, o2, none⟩ ∧ wi.cell? ⟨g2, o2 + m, none⟩ = some (.int .i64 x) := fun m x hx => by
            obtain ⟨g2, o2, e2, hg2, cx⟩ := hIs.at_ hx
            exact ⟨g2, o2, e2, (hb.cell (p := ⟨g2, o2 + m, none⟩) hg2).trans cx⟩
          have HXC := hide hxc
          have HK := hide hK
          have HV := hide hV
          have HI := hide hI
          have HB := hide hb
          have HR := hide hr
          have HIN := hide hin
          clear hK hV hI hb hr hin c0 hIs hrr hxc
          obtain ⟨ki, hki⟩ : ∃ ki, ki = K[i]! := ⟨_, rfl⟩
          rw [← hki] at k0
          have HKI := hide hki
          clear hki
          go_wp2
          go_loop [10, 11] (fun rv jv => ∃ (m : Nat) (rb : Bool), m ≤ r.length ∧ jv = .int .i64 (m : Int) ∧ rv = .bool rb ∧ Hid (rb = (!ki && (r.take m).all fun x => K[x.toNat]!))) (fun _ jv => r.length - (intOf jv).toNat)
          case atStart => exact ⟨0, !ki, Nat.zero_le _, rfl, by first | rfl | (cases ki <;> rfl), hide (by simp)⟩
          case round =>
            obtain ⟨m, rb, hm, rfl, rfl, HRB⟩ := hrel
            by_cases hltm : m < r.length
            · have hltmi : (m : Int) < (r.length : Int) := by omega
              have hm0 : (0 : Int) ≤ (m : Int) := by omega
              have htm : r.take (m + 1) = r.take m ++ [r[m]] := List.take_succ_eq_append_getElem hltm
              obtain ⟨g2, o2, e2, cx⟩ := unhide HXC m _ (List.getElem?_eq_getElem hltm)
              subst e2
              have hx := unhide HIN r[m] (List.getElem_mem hltm)
              generalize r[m] = x at *
              obtain ⟨X, rfl⟩ := Int.eq_ofNat_of_zero_le hx.1
              have kx := (unhide HK).cell (k := X) (by omega)
              obtain ⟨kX, hkX⟩ : ∃ kX, kX = K[X]! := ⟨_, rfl⟩
              rw [← hkX] at kx
              have HRB2 : Hid ((rb && kX) = (!ki && (r.take (m + 1)).all fun x => K[x.toNat]!)) := hide (by
                rw [unhide HRB, htm, List.all_append, List.all_cons, List.all_nil, Int.toNat_natCast, ← hkX]
                simp [Bool.and_assoc])
              have hX0 : (0 : Int) ≤ (X : Int) := by omega
              have hXn : (X : Int) < (G.length : Int) := hx.2
              clear hkX htm HRB
              cases rb with
              | false =>
                go_wp2
                go_round
                case rel => exact ⟨m + 1, _, by omega, by go_num, rfl, HRB2⟩
                case measure => simp only [intOf]; omega
              | true =>
                go_wp2
                go_round
                case rel => exact ⟨m + 1, _, by omega, by go_num, by first | rfl | simp, HRB2⟩
                case measure => simp only [intOf]; omega
            · have hltmi : ¬ (m : Int) < (r.length : Int) := by omega
              have hrb := unhide HRB
              rw [List.take_of_length_le (by omega)] at hrb
              cases rb with
              | false =>
                have hst2 : mb = false → Stuck G K (i + 1) := by
                  intro hmb j s hj hs hkj
                  rcases Nat.lt_succ_iff_lt_or_eq.1 hj with h | h
                  · exact unhide HST hmb j s h hs hkj
                  · subst h
                    rw [unhide HR] at hs
                    cases hs
                    rw [unhide HKI, hkj] at hrb
                    simp only [Bool.not_false, Bool.true_and] at hrb
                    have h3 := hrb.symm
                    rw [List.all_eq_false] at h3
                    obtain ⟨x, hx, h4⟩ := h3
                    exact ⟨x, hx, by simpa using h4⟩
                have HST2 := hide hst2
                clear hst2 hrb HRB
                go_wp2
                go_roundw
                case rel => exact ⟨i + 1, K, V, mb, by omega, by go_num, rfl, rfl, unhide HK, unhide HV, unhide HI, HZZ, HST2, unhide HB⟩
                case measure => simp only [intOf]; omega
              | true =>
                have hrb2 : ki = false ∧ ∀ x ∈ r, K[x.toNat]! = true := by
                  have := hrb.symm
                  rw [Bool.and_eq_true, List.all_eq_true] at this
                  exact ⟨by simpa using this.1, this.2⟩
                obtain ⟨hk0, hall⟩ := hrb2
                have HALL := hide hall
                have HK0 : Hid (K[i]! = false) := hide (by rw [← unhide HKI]; exact hk0)
                clear hall hrb HRB hk0
                obtain ⟨M, hM⟩ : ∃ M, M = mexN (kidV V r) := ⟨_, rfl⟩
                have hMb : M ≤ 1000 := by rw [hM]; refine Nat.le_trans (mex_le _) ?_; unfold kidV; rw [List.length_map]; exact hr1000
                have HM := hide hM
                clear hM
                go_wp2
                go_loop [12, 13] (fun vv av => ∃ (v : Nat) (ab : Bool), v ≤ M ∧ vv = .int .i64 (v : Int) ∧ av = .bool ab ∧ Hid (∀ j, j < v → j ∈ kidV V r) ∧ Hid (ab = false → v ∉ kidV V r)) (fun vv av => 2 * (M - (intOf vv).toNat) + boolN av)
                case atStart => exact ⟨0, true, Nat.zero_le _, rfl, rfl, hide (fun j hj => by omega), hide (fun h => by cases h)⟩
                case round =>
                  obtain ⟨v, ab, hv, rfl, rfl, HLW, HNO⟩ := hrel
                  cases ab with
                  | true =>
                    go_wp2
                    go_loop [12, 13, 14] (fun vv av kv => ∃ (k v' : Nat) (ab : Bool), k ≤ r.length ∧ kv = .int .i64 (k : Int) ∧ v ≤ v' ∧ v' ≤ M ∧ vv = .int .i64 (v' : Int) ∧ av = .bool ab ∧ Hid (∀ j, j < v' → j ∈ kidV V r) ∧ Hid ((ab = true → v < v') ∧ (ab = false → v' = v ∧ v ∉ kidV V (r.take k)))) (fun _ _ kv => r.length - (intOf kv).toNat)
                    case atStart => exact ⟨0, v, false, Nat.zero_le _, rfl, Nat.le_refl _, hv, rfl, rfl, HLW, hide ⟨(fun h => by cases h), fun _ => ⟨rfl, by simp [kidV]⟩⟩⟩
                    case round =>
                      obtain ⟨k, v', ab, hk, rfl, hvv, hvM, rfl, rfl, HLW2, HAB⟩ := hrel
                      by_cases hltk : k < r.length
                      · have hltki : (k : Int) < (r.length : Int) := by omega
                        have hk0 : (0 : Int) ≤ (k : Int) := by omega
                        have htm : r.take (k + 1) = r.take k ++ [r[k]] := List.take_succ_eq_append_getElem hltk
                        obtain ⟨g2, o2, e2, cx⟩ := unhide HXC k _ (List.getElem?_eq_getElem hltk)
                        subst e2
                        have hmem := List.getElem_mem hltk
                        have hx := unhide HIN r[k] hmem
                        generalize r[k] = x at *
                        obtain ⟨X, rfl⟩ := Int.eq_ofNat_of_zero_le hx.1
                        have hX0 : (0 : Int) ≤ (X : Int) := by omega
                        have hXn : (X : Int) < (G.length : Int) := hx.2
                        have vx := (unhide HV).cell (k := X) (by rw [(unhide HI).lv]; omega)
                        have hyk : V[X]! ∈ kidV V r := by unfold kidV; exact List.mem_map.2 ⟨_, hmem, by rw [Int.toNat_natCast]⟩
                        have hyt : kidV V (r.take (k + 1)) = kidV V (r.take k) ++ [V[X]!] := by rw [htm]; unfold kidV; simp
                        generalize V[X]! = y at *
                        by_cases hy : y = v'
                        · have hyb : ((y : Int) == (v' : Int)) = true := by simp [hy]
                          have HL3 : Hid (∀ j, j < v' + 1 → j ∈ kidV V r) := hide (fun j hj => by
                            rcases Nat.lt_succ_iff_lt_or_eq.1 hj with h | h
                            · exact unhide HLW2 j h
                            · rw [h, ← hy]; exact hyk)
                          have hv1 : v' + 1 ≤ M := by rw [unhide HM]; exact low_le (unhide HL3)
                          clear hyt htm hmem hyk hy
                          go_wp2
                          go_round
                          case rel => exact ⟨k + 1, v' + 1, true, by omega, by go_num, by omega, hv1, by go_num, rfl, HL3, hide ⟨fun _ => by omega, fun h => by cases h⟩⟩
                          case measure => simp only [intOf]; omega
                        · have hyb : ((y : Int) == (v' : Int)) = false := by simp; omega
                          have HAB2 : Hid ((ab = true → v < v') ∧ (ab = false → v' = v ∧ v ∉ kidV V (r.take (k + 1)))) := hide ⟨(unhide HAB).1, fun h => by
                            obtain ⟨h1, h2⟩ := (unhide HAB).2 h
                            refine ⟨h1, fun h3 => ?_⟩
                            rw [hyt] at h3
                            rcases List.mem_append.1 h3 with h3 | h3
                            · exact h2 h3
                            · simp only [List.mem_singleton] at h3
                              omega⟩
                          clear hyt htm hmem hyk hy
                          go_wp2
                          go_round
                          case rel => exact ⟨k + 1, v', ab, by omega, by go_num, by omega, hvM, rfl, rfl, HLW2, HAB2⟩
                          case measure => simp only [intOf]; omega
                      · have hltki : ¬ (k : Int) < (r.length : Int) := by omega
                        have hab := unhide HAB
                        rw [List.take_of_length_le (by omega)] at hab
                        have HAB2 := hide hab
                        clear hab HAB
                        cases ab with
                        | true =>
                          have hlt3 := (unhide HAB2).1 rfl
                          go_wp2
                          go_round
                          case rel => exact ⟨v', true, hvM, rfl, rfl, HLW2, hide (fun h => by cases h)⟩
                          case measure => simp only [intOf, boolN]; omega
                        | false =>
                          have hh := (unhide HAB2).2 rfl
                          have HNN : Hid (false = false → v' ∉ kidV V r) := hide (fun _ => by rw [hh.1]; exact hh.2)
                          clear hh
                          go_wp2
                          go_round
                          case rel => exact ⟨v', false, hvM, rfl, rfl, HLW2, HNN⟩
                          case measure => simp only [intOf, boolN]; omega
                  | false =>
                    have hvm : v = M := by rw [unhide HM]; exact mex_eq (unhide HNO rfl) (unhide HLW)
                    have f1 := (unhide HV).frozen i
                    have f2 := (unhide HK).frozen i
                    have v1 := (unhide HV).cell (k := i) (by rw [(unhide HI).lv]; exact hlt)
                    have k1 := (unhide HK).cell (k := i) (by omega)
                    have hI2 := (unhide HI).learn (unhide HR) (unhide HK0) (unhide HALL)
                    rw [← unhide HM, ← hvm] at hI2
                    have hz2 := zer_learn (K := K) (i := i) (by omega) (unhide HK0)
                    obtain ⟨Z2, hZ2⟩ : ∃ Z2, Z2 = zer (fb (K.set i true)) := ⟨_, rfl⟩
                    rw [← hZ2] at hz2
                    obtain ⟨Z1, hZ1⟩ : ∃ Z1, Z1 = zer (fb K) := ⟨_, rfl⟩
                    rw [← hZ1] at hz2 HZZ hzk ⊢
                    have hz3 : (Z1 : Int) - 1 = (Z2 : Int) := by omega
                    have hVw : rowN (wi.setCell ⟨w1.heap.size, i, none⟩ (.int .i64 (v : Int))) w1.heap.size (V.set i v) := (unhide HV).set i v
                    have hKw : rowB (wi.setCell ⟨w1.heap.size, i, none⟩ (.int .i64 (v : Int))) (w1.heap.size + 1) K := (Below.heap_setCell _ _ _ _ (by simp only; omega)).trans (unhide HK)
                    have hK2 : rowB ((wi.setCell ⟨w1.heap.size, i, none⟩ (.int .i64 (v : Int))).setCell ⟨w1.heap.size + 1, i, none⟩ (.bool true)) (w1.heap.size + 1) (K.set i true) := hKw.set i true
                    have hV2 : rowN ((wi.setCell ⟨w1.heap.size, i, none⟩ (.int .i64 (v : Int))).setCell ⟨w1.heap.size + 1, i, none⟩ (.bool true)) w1.heap.size (V.set i v) := hVw.keep (Below.heap_setCell _ _ _ _ (by simp only; omega))
                    have hB2 : Below w1.heap.size w1 ((wi.setCell ⟨w1.heap.size, i, none⟩ (.int .i64 (v : Int))).setCell ⟨w1.heap.size + 1, i, none⟩ (.bool true)) := ((unhide HB).setCell (p := ⟨w1.heap.size, i, none⟩) (Nat.le_refl _) _).setCell (p := ⟨w1.heap.size + 1, i, none⟩) (by simp only; omega) _
                    have f3 := hKw.frozen i
                    have k3 := hKw.cell (k := i) (by omega)
                    have HI2 := hide hI2
                    have HK2 := hide hK2
                    have HV2 := hide hV2
                    have HB2 := hide hB2
                    have HZ2 := hide hZ2
                    have HZQ : Hid (Z2 ≤ Z0 ∧ (true = true → Z2 < Z0) ∧ (true = false → Z2 = Z0)) := hide ⟨by have := (unhide HZZ).1; omega, fun _ => by have := (unhide HZZ).1; omega, fun h => by cases h⟩
                    clear hI2 hK2 hV2 hB2 hZ2 hZ1 hVw hKw hvm
                    go_wp2
                    go_roundw
                    case rel => exact ⟨i + 1, K.set i true, V.set i v, true, by omega, by go_num, by rw [← unhide HZ2], rfl, unhide HK2, unhide HV2, unhide HI2, by rw [← unhide HZ2]; exact HZQ, hide (fun h => by cases h), unhide HB2⟩
                    case measure => simp only [intOf]; omega
        · have hlti : ¬ (i : Int) < (G.length : Int) := by omega
          obtain rfl : i = G.length := by omega
          have HK := hide hK
          have HV := hide hV
          have HI := hide hI
          have HB := hide hb
          obtain ⟨z1, z2, z3⟩ := unhide HZZ
          obtain ⟨Z1, hZ1⟩ : ∃ Z1, Z1 = zer (fb K) := ⟨_, rfl⟩
          rw [← hZ1] at z1 z2 z3 hzk ⊢
          have HZ1 := hide hZ1
          clear hK hV hI hb hZ1
          cases mb with
          | true =>
            have z4 := z2 rfl
            clear z2 z3
            go_wp2
            go_roundw
            case rel => exact ⟨K, V, true, by rw [← unhide HZ1], rfl, unhide HK, unhide HV, unhide HI, HST, unhide HB⟩
            case measure => simp only [intOf, boolN]; omega
          | false =>
            have z4 := z3 rfl
            clear z2 z3
            have HZ4 := hide z4
            clear z4
            go_wp2
            go_roundw
            case rel => exact ⟨K, V, false, by rw [← unhide HZ1], rfl, unhide HK, unhide HV, unhide HI, HST, unhide HB⟩
            case measure => have := unhide HZ4; simp only [intOf, boolN]; omega
end Go.Proofs.Ytphnjedoghopcaa
