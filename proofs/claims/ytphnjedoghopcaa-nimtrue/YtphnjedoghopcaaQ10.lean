/-
  gamekeep.NimSum, walked: two games side by side are worth their values, added without carrying.
-/
import Derived.Test.YtphnjedoghopcaaQ9
import Derived.Laws.Bits64b
namespace Go.Proofs.Ytphnjedoghopcaa
open Go.RowKit
attribute [local go_sem ↓] Go.wp_at_zero Go.wp_at_succ

theorem ok_two : OkG [[], [0]] := by
  refine ⟨by simp, fun i r hr => ?_, fun i r hr x hx => ?_⟩
  · match i, hr with
    | 0, hr => simp at hr; subst hr; simp
    | 1, hr => simp at hr; subst hr; simp
  · match i, hr with
    | 0, hr => simp at hr; subst hr; simp at hx
    | 1, hr => simp at hr; subst hr; simp at hx; subst hx; simp
theorem down_two : Down [[], [0]] id := by
  intro i r hr x hx
  match i, hr with
  | 0, hr => simp at hr; subst hr; simp at hx
  | 1, hr => simp at hr; subst hr; simp at hx; subst hx; simp
theorem solves_two : Solves [[], [0]] [0, 1] := by
  refine ⟨rfl, fun i r hr => ?_⟩
  match i, hr with
  | 0, hr => simp at hr; subst hr; decide
  | 1, hr => simp at hr; subst hr; decide
theorem isG_two (w : World) : isG ((w.alloc (.cells #[.int .i64 0] 3 (0, 0))).alloc (.cells #[.slice none 0 0, .slice (some ⟨w.heap.size, 0, none⟩) 1 1] 22 (0, 0))) ((w.alloc (.cells #[.int .i64 0] 3 (0, 0))).alloc (.cells #[.slice none 0 0, .slice (some ⟨w.heap.size, 0, none⟩) 1 1] 22 (0, 0))).heap.size (some ⟨w.heap.size + 1, 0, none⟩) 2 [[], [0]] := by
  refine ⟨by simp, by unfold maxLen; omega, fun _ => ⟨w.heap.size + 1, 0, rfl, by simp, fun i r hr => ?_⟩⟩
  match i, hr with
  | 0, hr =>
    simp at hr; subst hr
    exact ⟨none, 0, by simp, by simp, by unfold maxLen; omega, fun h => absurd rfl h⟩
  | 1, hr =>
    simp at hr; subst hr
    refine ⟨some ⟨w.heap.size, 0, none⟩, 1, by simp, by simp, by unfold maxLen; omega, fun _ => ⟨w.heap.size, 0, rfl, by simp; omega, fun k x hx => ?_⟩⟩
    match k, hx with
    | 0, hx => simp at hx; subst hx; simp
theorem xor_i64 (a b : Nat) (ha : a < 4611686018427387904) (hb : b < 4611686018427387904) : bits .xor .i64 (a : Int) (b : Int) = ((a ^^^ b : Nat) : Int) := by
  have hx : a ^^^ b < 2 ^ 62 := Nat.xor_lt_two_pow (by omega) (by omega)
  have h1 : (BitVec.ofInt 64 (a : Int)).toNat = a := by
    rw [BitVec.ofInt_natCast, BitVec.toNat_ofNat]; exact Nat.mod_eq_of_lt (by omega)
  have h2 : (BitVec.ofInt 64 (b : Int)).toNat = b := by
    rw [BitVec.ofInt_natCast, BitVec.toNat_ofNat]; exact Nat.mod_eq_of_lt (by omega)
  show IntKind.i64.wrap ((BitVec.ofInt 64 (a : Int) ^^^ BitVec.ofInt 64 (b : Int)).toNat : Int) = _
  rw [BitVec.toNat_xor, h1, h2, IntKind.wrap_i64]
  omega
/-- What Values answers, in one form. -/
theorem ValsEnd.form {G : List (List Int)} {w w' : World} {e : Ending} (h : ValsEnd G w e w') : ∃ (v : Value) (E : Int), e = .returned (.tuple #[v, .int .i64 E]) ∧ ((E = 0 ∧ OkG G ∧ ∃ gv V, v = .slice (some ⟨gv, 0, none⟩) G.length G.length ∧ w.heap.size ≤ gv ∧ rowN w' gv V ∧ Solves G V ∧ ∃ rk, Down G rk) ∨ E ≠ 0 ∧ ¬ (OkG G ∧ ∃ rk, Down G rk)) := by
  rcases h.out with ⟨ok, gv, V, he, h1, h2, h3, h4⟩ | ⟨ok, he, c, hc⟩ | ⟨hn, he⟩
  · exact ⟨_, _, he, .inl ⟨rfl, ok, gv, V, rfl, h1, h2, h3, h4⟩⟩
  · exact ⟨_, _, he, .inr ⟨by simp, fun ⟨_, rk, hd⟩ => no_round hd hc⟩⟩
  · exact ⟨_, _, he, .inr ⟨fun h0 => hn (chk_ok.1 h0), fun ⟨ok, _⟩ => hn ok⟩⟩
theorem BothEnd.form {A C : List (List Int)} {w w' : World} {e : Ending} (h : BothEnd A C w e w') : ∃ (v : Value) (E : Int), e = .returned (.tuple #[v, .int .i64 E]) ∧ ((E = 0 ∧ OkAB A C ∧ ∃ gb cap, v = .slice (some ⟨gb, 0, none⟩) (A.length * C.length) cap ∧ isG w' w'.heap.size (some ⟨gb, 0, none⟩) cap (bothG A C)) ∨ E ≠ 0) := by
  rcases h.out with ⟨ok, gb, cap, he, h1⟩ | ⟨hn, he⟩
  · exact ⟨_, _, he, .inl ⟨rfl, ok, gb, cap, rfl, h1⟩⟩
  · exact ⟨_, _, he, .inr hn⟩
theorem xor_small {a b : Nat} (ha : a ≤ 1000) (hb : b ≤ 1000) : a ^^^ b < 1024 := Nat.xor_lt_two_pow (n := 10) (by omega) (by omega)

set_option maxHeartbeats 4000000 in
set_option maxRecDepth 100000 in
theorem nimSum_any (A C : List (List Int)) (aa ca : Option Addr) (ka kc : Nat) (w : World) (hA : isG w w.heap.size aa ka A) (hC : isG w w.heap.size ca kc C) :
    Calls Try.prog 6 #[.slice aa A.length ka, .slice ca C.length kc] w fun e w' => e = .returned (.bool true) ∧ Below w.heap.size w w' := by
  obtain ⟨wa, hwa⟩ : ∃ wa, wa = (w.alloc (.cells #[.int .i64 0] 3 (0, 0))).alloc (.cells #[.slice none 0 0, .slice (some ⟨w.heap.size, 0, none⟩) 1 1] 22 (0, 0)) := ⟨_, rfl⟩
  have hba : Below w.heap.size w wa := by rw [hwa]; exact ((Below.refl _ _).alloc (Nat.le_refl _) _).alloc (by simp) _
  have h2 : isG wa wa.heap.size (some ⟨w.heap.size + 1, 0, none⟩) 2 [[], [0]] := by rw [hwa]; exact isG_two w
  have HV2 := hide (Values_any [[], [0]] (some ⟨w.heap.size + 1, 0, none⟩) 2 wa h2)
  have HA := hide hA
  have HC := hide hC
  have HBA := hide hba
  have HWA := hide hwa
  clear hA hC hba hwa h2
  go_enter Try.func6, Try.ntmps6
  go_wp2_with fail
  rw [← unhide HWA]
  clear HWA
  refine (unhide HV2).mono ?_
  rintro e w1 ⟨hb1, hout⟩
  have hb1 := (unhide HBA).trans (hb1.mono (unhide HBA).size)
  obtain ⟨gv, V, rfl, hrow⟩ : ∃ gv V, e = .returned (.tuple #[.slice (some ⟨gv, 0, none⟩) 2 2, .int .i64 0]) ∧ rowN w1 gv V ∧ V = [0, 1] := by
    rcases hout with ⟨-, gv, V, he, -, hr, hs, -⟩ | ⟨-, -, c, hc⟩ | ⟨hn, -⟩
    · exact ⟨gv, V, he, hr, solves_eq down_two ok_two hs solves_two⟩
    · exact absurd hc (fun hc => no_round down_two hc)
    · exact absurd ok_two hn
  obtain ⟨hrow, rfl⟩ := hrow
  have cv : w1.cell? ⟨gv, 1, none⟩ = some (.int .i64 1) := hrow.cell (k := 1) (by simp)
  have HB1 := hide hb1
  clear hb1 hout hrow HBA HV2
  have HVA := hide (Values_any A aa ka w1 (((unhide HA).below (unhide HB1) (Nat.le_refl _)).keep (fun _ _ => rfl) (unhide HB1).size))
  go_wp2_with fail
  refine (unhide HVA).mono ?_
  rintro e w2 hva
  obtain ⟨va, Ea, rfl, hoa⟩ := hva.form
  have hb2 := (unhide HB1).trans (hva.low.mono (unhide HB1).size)
  have hs12 := hva.low.size
  have HOA := hide hoa
  have HB2 := hide hb2
  have HVC := hide (Values_any C ca kc w2 (((unhide HC).below (unhide HB2) (Nat.le_refl _)).keep (fun _ _ => rfl) (unhide HB2).size))
  clear hva hoa hb2 cv
  go_wp2_with fail
  refine (unhide HVC).mono ?_
  rintro e w3 hvc
  obtain ⟨vc, Ec, rfl, hoc⟩ := hvc.form
  have hl3 := hvc.low
  have hb3 := (unhide HB2).trans (hl3.mono (unhide HB2).size)
  have HL3 := hide hl3
  have HOC := hide hoc
  have HB3 := hide hb3
  have HBO := hide (Both_any A C aa ca ka kc w3 (((unhide HA).below (unhide HB3) (Nat.le_refl _)).keep (fun _ _ => rfl) (unhide HB3).size) (((unhide HC).below (unhide HB3) (Nat.le_refl _)).keep (fun _ _ => rfl) (unhide HB3).size))
  clear hvc hoc hb3 hl3
  go_wp2_with fail
  refine (unhide HBO).mono ?_
  rintro e w4 hvb
  obtain ⟨vb, Eb, rfl, hob⟩ := hvb.form
  have hl4 := hvb.low
  have hb4 := (unhide HB3).trans (hl4.mono (unhide HB3).size)
  have HL4 := hide hl4
  have HOB := hide hob
  have HB4 := hide hb4
  clear hvb hob hb4 hl4 HVA HVC HBO
  by_cases ha0 : Ea ≠ 0
  · have hne : (Ea != 0) = true := by simp [ha0]
    clear ha0
    go_wp2
    go_ret
    exact ⟨rfl, unhide HB4⟩
  have ha0 : Ea = 0 := Decidable.not_not.1 ha0
  by_cases hc0 : Ec ≠ 0
  · have hn1 : (Ea != 0) = false := by simp [ha0]
    have hne : (Ec != 0) = true := by simp [hc0]
    clear hc0 ha0
    go_wp2
    go_ret
    exact ⟨rfl, unhide HB4⟩
  have hc0 : Ec = 0 := Decidable.not_not.1 hc0
  by_cases hbb0 : Eb ≠ 0
  · have hn1 : (Ea != 0) = false := by simp [ha0]
    have hn2 : (Ec != 0) = false := by simp [hc0]
    have hne : (Eb != 0) = true := by simp [hbb0]
    clear hc0 ha0 hbb0
    go_wp2
    go_ret
    exact ⟨rfl, unhide HB4⟩
  have hbb0 : Eb = 0 := Decidable.not_not.1 hbb0
  subst ha0 hc0 hbb0
  obtain ⟨-, okA, ga, V, rfl, hga, hrA, hsA, ra, hdA⟩ := (unhide HOA).resolve_right (fun h => h.1 rfl)
  obtain ⟨-, okC, gc, U, rfl, hgc, hrC, hsC, rc, hdC⟩ := (unhide HOC).resolve_right (fun h => h.1 rfl)
  obtain ⟨-, okB, gb, cap, rfl, hgB⟩ := (unhide HOB).resolve_right (fun h => h rfl)
  have hrA4 : rowN w4 ga V := (hrA.keep ((unhide HL3).block _ hrA.lt)).keep ((unhide HL4).block _ (Nat.lt_of_lt_of_le hrA.lt (unhide HL3).size))
  have hrC4 : rowN w4 gc U := hrC.keep ((unhide HL4).block _ hrC.lt)
  have okBG := both_ok okA okC okB.len okB.row
  have hsB := both_solves okA okC hsA hsC
  have hdB := both_down okA okC hdA hdC
  obtain ⟨P, hP⟩ : ∃ P, P = A.length * C.length := ⟨_, rfl⟩
  have hPi : (A.length : Int) * (C.length : Int) = (P : Int) := by rw [hP]; simp
  have hPb : P ≤ 1000 := by rw [hP]; exact okB.len
  have hlA := okA.len
  have hlC := okC.len
  have HVB := hide (Values_any (bothG A C) (some ⟨gb, 0, none⟩) cap w4 hgB)
  rw [bothG_len, ← hP] at HVB
  rw [← hP]
  have HRA := hide hrA4
  have HRC := hide hrC4
  have HSA := hide hsA
  have HSC := hide hsC
  have HSB := hide hsB
  have HDB := hide hdB
  have HOKB := hide okBG
  have HOKA := hide okA
  have HOKC := hide okC
  have HP := hide hP
  clear hrA hrC hrA4 hrC4 hsA hsC hsB hdB okBG okA okC okB hP HOA HOC HOB hgB hdA hdC hga hgc hs12
  go_wp2_with fail
  refine (unhide HVB).mono ?_
  rintro e w5 hvz
  obtain ⟨vz, Ez, rfl, hoz⟩ := hvz.form
  have hl5 := hvz.low
  have hb5 := (unhide HB4).trans (hl5.mono (unhide HB4).size)
  obtain ⟨rfl, -, gz, Z, rfl, -, hrZ, hsZ, -⟩ := hoz.resolve_right (fun h => h.2 ⟨unhide HOKB, _, unhide HDB⟩)
  have hZ : Z = xorV V U := solves_eq (unhide HDB) (unhide HOKB) hsZ (unhide HSB)
  have hrA5 := (unhide HRA).keep (hl5.block _ (unhide HRA).lt)
  have hrC5 := (unhide HRC).keep (hl5.block _ (unhide HRC).lt)
  have hbl : (bothG A C).length = P := by rw [bothG_len, unhide HP]
  rw [hbl]
  have HB5 := hide hb5
  have HRA5 := hide hrA5
  have HRC5 := hide hrC5
  have HRZ := hide hrZ
  have HZ := hide hZ
  clear hvz hoz hl5 hb5 hrA5 hrC5 hrZ hsZ hZ hbl HRA HRC
  go_wp2
  go_loopw [79] (fun iv wr => ∃ m : Nat, m ≤ P ∧ iv = .int .i64 (m : Int) ∧ rowN wr ga V ∧ rowN wr gc U ∧ rowN wr gz Z ∧ Below w.heap.size w wr) (fun iv _ => P - (intOf iv).toNat)
  case atStart => exact ⟨0, Nat.zero_le _, rfl, unhide HRA5, unhide HRC5, unhide HRZ, unhide HB5⟩
  case round =>
    obtain ⟨m, hm, rfl, hrA, hrC, hrZ, hbr⟩ := hrel
    clear HRA5 HRC5 HRZ HB5
    by_cases hlt : m < P
    · have hlti : (m : Int) < (P : Int) := by omega
      have hm0 : (0 : Int) ≤ (m : Int) := by omega
      have hcp : 0 < C.length := by
        rcases Nat.eq_zero_or_pos C.length with h0 | h0
        · have := unhide HP; rw [h0, Nat.mul_zero] at this; omega
        · exact h0
      obtain ⟨q, hq⟩ : ∃ q, q = m / C.length := ⟨_, rfl⟩
      obtain ⟨r, hr⟩ : ∃ r, r = m % C.length := ⟨_, rfl⟩
      have hqA : q < A.length := by rw [hq]; exact (Nat.div_lt_iff_lt_mul hcp).2 (by rw [← unhide HP]; exact hlt)
      have hrC' : r < C.length := by rw [hr]; exact Nat.mod_lt _ hcp
      have hq1 : (m : Int) / (C.length : Int) = (q : Int) := by rw [hq]; simp
      have hr1 : (m : Int) % (C.length : Int) = (r : Int) := by rw [hr]; simp
      have hq2 : (m : Int).tdiv (C.length : Int) = (q : Int) := by rw [hq]; rfl
      have hr2 : (m : Int).tmod (C.length : Int) = (r : Int) := by rw [hr]; rfl
      have hnz : ¬ (C.length : Int) = 0 := by omega
      have hqi : (q : Int) < (A.length : Int) := by omega
      have hri : (r : Int) < (C.length : Int) := by omega
      have hq0 : (0 : Int) ≤ (q : Int) := by omega
      have hr0 : (0 : Int) ≤ (r : Int) := by omega
      have hqw : IntKind.i64.wrap (q : Int) = (q : Int) := by unfold IntKind.wrap; simp [IntKind.signed, IntKind.bits]; omega
      have hrw : IntKind.i64.wrap (r : Int) = (r : Int) := by unfold IntKind.wrap; simp [IntKind.signed, IntKind.bits]; omega
      have hlV := (unhide HSA).len
      have hlU := (unhide HSC).len
      have cA := hrA.cell (k := q) (by omega)
      have cC := hrC.cell (k := r) (by omega)
      have cZ := hrZ.cell (k := m) (by rw [unhide HZ, xorV_len, hlV, hlU, ← unhide HP]; exact hlt)
      have bA := (unhide HSA).le (unhide HOKA) hqA
      have bC := (unhide HSC).le (unhide HOKC) hrC'
      have eZ : Z[m]! = V[q]! ^^^ U[r]! := by rw [unhide HZ, xorV_at _ _ (by rw [hlV, hlU, ← unhide HP]; exact hlt), hlU, hq, hr]
      rw [eZ] at cZ
      have hxx := xor_i64 V[q]! U[r]! (by omega) (by omega)
      generalize V[q]! ^^^ U[r]! = zz at *
      generalize V[q]! = xx at *
      generalize U[r]! = yy at *
      have hzz : ((zz : Int) != (zz : Int)) = false := by simp
      have HRA := hide hrA
      have HRC := hide hrC
      have HRZ := hide hrZ
      have HBR := hide hbr
      clear hrA hrC hrZ hbr hq hr eZ hlV hlU
      go_upto_region 15 with fail
      go_quiet (fail)
      go_wp2
      go_roundw
      case rel => exact ⟨m + 1, by omega, by go_num, unhide HRA, unhide HRC, unhide HRZ, ⟨(unhide HBR).os, (unhide HBR).tape, (unhide HBR).output, (unhide HBR).size, (unhide HBR).block⟩⟩
      case measure => simp only [intOf]; omega
    · have hlti : ¬ (m : Int) < (P : Int) := by omega
      have HBR := hide hbr
      clear hrA hrC hrZ hbr
      go_wp2
      go_ret
      exact ⟨rfl, unhide HBR⟩
end Go.Proofs.Ytphnjedoghopcaa
