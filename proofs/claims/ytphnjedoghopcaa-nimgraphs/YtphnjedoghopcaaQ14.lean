/-
  gamelaw.NimGraphs, walked.
-/
import Derived.Test.YtphnjedoghopcaaQ13
namespace Go.Proofs.Ytphnjedoghopcaa
open Go.RowKit
attribute [local go_sem ↓] Go.wp_at_zero Go.wp_at_succ

theorem isG.up {w w' : World} {ao : Option Addr} {cap : Nat} {G : List (List Int)} (h : isG w w.heap.size ao cap G) (hb : Below w.heap.size w w') : isG w' w'.heap.size ao cap G := h.keep (fun k hk => hb.block k hk) hb.size
theorem isIs.up {w w' : World} {ao : Option Addr} {cap : Nat} {r : List Int} (h : isIs w w.heap.size ao cap r) (hb : Below w.heap.size w w') : isIs w' w'.heap.size ao cap r := h.keep (fun k hk => hb.block k hk) hb.size
/-- The law's own error so far. -/
def wantP (A C : List (List Int)) (m : Nat) (W : Int) : Prop := (W = 0 ∧ ∀ r ∈ (bothG A C).take m, r.length ≤ 1000) ∨ (W = 2 ∧ ∃ r ∈ bothG A C, 1000 < r.length)
/-- What Both answers, by its error. -/
theorem BothEnd.form2 {A C : List (List Int)} {w w' : World} {e : Ending} (h : BothEnd A C w e w') : ∃ (xo : Option Addr) (xl xc : Nat), e = .returned (.tuple #[.slice xo xl xc, .int .i64 (bothI A C)]) ∧ (bothI A C ≠ 0 → xl = 0) ∧ (bothI A C = 0 → xl = A.length * C.length ∧ isG w' w'.heap.size xo xc (bothG A C)) := by
  rcases h.out with ⟨ok, gb, cap, he, h1⟩ | ⟨hn, he⟩
  · have h0 := bothI_ok.2 ok
    exact ⟨some ⟨gb, 0, none⟩, A.length * C.length, cap, by rw [h0]; exact he, fun h => absurd h0 h, fun _ => ⟨rfl, h1⟩⟩
  · exact ⟨none, 0, 0, he, fun _ => rfl, fun h => absurd h hn⟩

set_option maxHeartbeats 8000000 in
set_option maxRecDepth 100000 in
theorem nimGraphs_any (A C : List (List Int)) (aa ca : Option Addr) (ka kc : Nat) (w : World) (hA : isG w w.heap.size aa ka A) (hC : isG w w.heap.size ca kc C) :
    Calls Try.prog 4 #[.slice aa A.length ka, .slice ca C.length kc] w fun e w' => e = .returned (.bool true) ∧ Below w.heap.size w w' := by
  have hla := hA.1
  have hlc := hC.1
  have hma := hA.2.1
  have hmc := hC.2.1
  unfold maxLen at hma hmc
  have HVA := hide (Values_any A aa ka w hA)
  have HA := hide hA
  have HC := hide hC
  clear hA hC
  go_enter Try.func4, Try.ntmps4
  go_wp2_with fail
  refine (unhide HVA).mono ?_
  rintro e1 w1 hv1
  have hv1' := hv1
  obtain ⟨v1, E1, rfl, -⟩ := hv1'.form
  have HV1 := hide hv1
  have HB1 := hide hv1.low
  have HVO := hide (valuesOf_any A aa ka w1 ((unhide HA).up hv1.low))
  clear hv1 hv1' HVA
  go_wp2_with fail
  refine (unhide HVO).mono ?_
  rintro e2 w2 hv2
  obtain ⟨E, r, a1, a2, k1, k2, h1, rfl, hI1, hI2⟩ := two_form (unhide HV1) hv2
  simp only [Ending.returned.injEq, Value.tuple.injEq, Array.mk.injEq, List.cons.injEq, and_true, Value.int.injEq, true_and] at h1
  obtain ⟨rfl, rfl⟩ := h1
  have hb2 := (unhide HB1).trans (hv2.low.mono (unhide HB1).size)
  have HB2 := hide hb2
  have HI1 := hide hI1
  have HI2 := hide hI2
  have HBO := hide (Both_any A C aa ca ka kc w2 ((unhide HA).up hb2) ((unhide HC).up hb2))
  clear hv2 hb2 hI1 hI2 HV1 HVO HB1
  go_wp2_with fail
  refine (unhide HBO).mono ?_
  rintro e3 w3 hv3
  obtain ⟨xo, xl, xc, rfl, hx1, hx2⟩ := hv3.form2
  have hl3 := hv3.low
  have hb3 := (unhide HB2).trans (hl3.mono (unhide HB2).size)
  have HSM := hide (same_any _ a1 a2 k1 k2 r w3 ((unhide HI1).up hl3) ((unhide HI2).up hl3))
  have HB3 := hide hb3
  have HX1 := hide hx1
  have HX2 := hide hx2
  have hee : (E1 != E1) = false := by simp
  obtain ⟨E3, hE3⟩ : ∃ E3, E3 = bothI A C := ⟨_, rfl⟩
  rw [← hE3] at HX1 HX2 ⊢
  have HE3 := hide hE3
  clear hv3 hl3 hb3 hx1 hx2 HI1 HI2 HBO HB2 hE3
  go_wp2_with fail
  refine (unhide HSM).mono ?_
  rintro e4 w4 ⟨rfl, hl4⟩
  have hb4 := (unhide HB3).trans (hl4.mono (unhide HB3).size)
  have HX4 : Hid (E3 = 0 → xl = A.length * C.length ∧ isG w4 w4.heap.size xo xc (bothG A C)) := hide (fun h => ⟨(unhide HX2 h).1, (unhide HX2 h).2.up hl4⟩)
  have HA4 := hide ((unhide HA).up hb4)
  have HC4 := hide ((unhide HC).up hb4)
  have HB4 := hide hb4
  have HGA := hide (rGraph_any _ aa ka A w4 ((unhide HA).up hb4))
  have HGC := hide (rGraph_any _ ca kc C w4 ((unhide HC).up hb4))
  clear hl4 hb4 HX2 HB3 HSM HA HC
  go_wp2_with fail
  refine (unhide HGA).mono ?_
  rintro e5 w5 ⟨rfl, rfl⟩
  by_cases hc1 : chkI A ≠ 0
  · have hE : E3 = chkI A := by rw [unhide HE3]; unfold bothI; rw [if_pos hc1]
    have hxl : xl = 0 := unhide HX1 (by rw [hE]; exact hc1)
    subst hE hxl
    have hne : (chkI A == 0) = false := by simp [hc1]
    have hnn : (chkI A != 0) = true := by simp [hc1]
    have hss : (chkI A == chkI A) = true := by simp
    generalize chkI A = CA at *
    clear hc1
    go_wp2
    go_loop [11, 12, 13] (fun wv av iv => wv = .int .i64 CA ∧ av = .slice none 0 0 ∧ iv = .int .i64 0) (fun _ _ _ => 0)
    case atStart => exact ⟨rfl, rfl, rfl⟩
    case round =>
      obtain ⟨rfl, rfl, rfl⟩ := hrel
      go_wp2
      go_ret
      exact ⟨ret_bool (by simp), unhide HB4⟩
  have hc1 : chkI A = 0 := Decidable.not_not.1 hc1
  rw [hc1]
  go_wp2_with fail
  refine (unhide HGC).mono ?_
  rintro e6 w6 ⟨rfl, rfl⟩
  by_cases hc2 : chkI C ≠ 0
  · have hE : E3 = chkI C := by rw [unhide HE3]; unfold bothI; rw [if_neg (by rw [hc1]; simp), if_pos hc2]
    have hxl : xl = 0 := unhide HX1 (by rw [hE]; exact hc2)
    subst hE hxl
    have hne : (chkI C == 0) = false := by simp [hc2]
    have hnn : (chkI C != 0) = true := by simp [hc2]
    have hss : (chkI C == chkI C) = true := by simp
    generalize chkI C = CC at *
    clear hc2 hc1
    go_wp2
    go_loop [11, 12, 13] (fun wv av iv => wv = .int .i64 CC ∧ av = .slice none 0 0 ∧ iv = .int .i64 0) (fun _ _ _ => 0)
    case atStart => exact ⟨rfl, rfl, rfl⟩
    case round =>
      obtain ⟨rfl, rfl, rfl⟩ := hrel
      go_wp2
      go_ret
      exact ⟨ret_bool (by simp), unhide HB4⟩
  have hc2 : chkI C = 0 := Decidable.not_not.1 hc2
  rw [hc2]
  have okA := chk_ok.1 hc1
  have okC := chk_ok.1 hc2
  have h1000a := okA.len
  have h1000c := okC.len
  obtain ⟨P, hP⟩ : ∃ P, P = A.length * C.length := ⟨_, rfl⟩
  have hPi : (A.length : Int) * (C.length : Int) = (P : Int) := by rw [hP]; simp
  have hPb : P ≤ 1000000 := by rw [hP]; exact Nat.mul_le_mul h1000a h1000c
  have hE : E3 = if bigB A C then 2 else 0 := by rw [unhide HE3]; unfold bothI; rw [if_neg (by rw [hc1]; simp), if_neg (by rw [hc2]; simp)]
  have HE := hide hE
  have HP := hide hP
  have HOA := hide okA
  have HOC := hide okC
  clear hc1 hc2 hE hP okA okC HGA HGC HE3
  by_cases hbig : 1000 < P
  · have hbigi : (1000 : Int) < (P : Int) := by omega
    have hE2 : E3 = 2 := by rw [unhide HE]; unfold bigB; rw [decide_eq_true (by rw [← unhide HP]; exact hbig)]; rfl
    have hxl : xl = 0 := unhide HX1 (by rw [hE2]; simp)
    subst hE2 hxl
    clear hbig
    go_wp2
    go_loop [11, 12, 13] (fun wv av iv => wv = .int .i64 2 ∧ av = .slice none 0 0 ∧ iv = .int .i64 0) (fun _ _ _ => 0)
    case atStart => exact ⟨rfl, rfl, rfl⟩
    case round =>
      obtain ⟨rfl, rfl, rfl⟩ := hrel
      go_wp2
      go_ret
      exact ⟨ret_bool (by simp), unhide HB4⟩
  have hbigi : ¬ (1000 : Int) < (P : Int) := by omega
  have hP1000 : P ≤ 1000 := by omega
  clear hbig
  obtain ⟨i0, hinfo, hz0, hz1, hz2⟩ := info_parts Try.infoI
  obtain ⟨i1, hinfo1, hy0, hy1, hy2⟩ := info_parts Try.infoL
  have HI0 := hide hinfo
  have HZ0 := hide hz0
  have HZ1 := hide hz1
  have HZ2 := hide hz2
  have HI1 := hide hinfo1
  have HY0 := hide hy0
  have HY1 := hide hy1
  have HY2 := hide hy2
  clear hinfo hz0 hz1 hz2 hinfo1 hy0 hy1 hy2
  go_wp2
  go_loopw [11, 12, 13] (fun wv av iv wr => ∃ (m : Nat) (L : List Ar) (W : Int), m ≤ P ∧ iv = .int .i64 (m : Int) ∧ wv = .int .i64 W ∧ isAr wr w6.heap.size av L ∧ Hid (L.map (·.r) = (bothG A C).take m) ∧ Hid (wantP A C m W) ∧ Below w6.heap.size w6 wr) (fun _ _ iv _ => P - (intOf iv).toNat)
  case atStart => exact ⟨0, [], 0, Nat.zero_le _, rfl, rfl, isAr.nil _ _, hide (by simp), hide (.inl ⟨rfl, fun r hr => by simp at hr⟩), Below.refl _ _⟩
  case round =>
    obtain ⟨m, L, W, hm, rfl, rfl, hL, HT, HW, hb⟩ := hrel
    rename World => wi
    have hwi := hb.size
    have hLm : L.length = m := by
      have := congrArg List.length (unhide HT)
      rw [List.length_map, List.length_take, bothG_len, ← unhide HP] at this
      omega
    have HBW := hide ((unhide HB4).trans (hb.mono (unhide HB4).size))
    have HAW := hide ((unhide HA4).up hb)
    have HCW := hide ((unhide HC4).up hb)
    rcases unhide HW with ⟨rfl, hrows⟩ | ⟨rfl, hbad⟩
    · by_cases hlt : m < P
      · have hlti : (m : Int) < (P : Int) := by omega
        have hm0 : (0 : Int) ≤ (m : Int) := by omega
        have hcp : 0 < C.length := by
          rcases Nat.eq_zero_or_pos C.length with h0 | h0
          · have := unhide HP; rw [h0, Nat.mul_zero] at this; omega
          · exact h0
        obtain ⟨q, hq⟩ : ∃ q, q = m / C.length := ⟨_, rfl⟩
        obtain ⟨j, hj⟩ : ∃ j, j = m % C.length := ⟨_, rfl⟩
        have hqA : q < A.length := by rw [hq]; exact (Nat.div_lt_iff_lt_mul hcp).2 (by rw [← unhide HP]; exact hlt)
        have hjC : j < C.length := by rw [hj]; exact Nat.mod_lt _ hcp
        have hmq : m = q * C.length + j := by rw [hq, hj, Nat.mul_comm]; exact (Nat.div_add_mod m C.length).symm
        have hq1 : (m : Int) / (C.length : Int) = (q : Int) := by rw [hq]; simp
        have hr1 : (m : Int) % (C.length : Int) = (j : Int) := by rw [hj]; simp
        have hq2 : (m : Int).tdiv (C.length : Int) = (q : Int) := by rw [hq]; rfl
        have hr2 : (m : Int).tmod (C.length : Int) = (j : Int) := by rw [hj]; rfl
        have hnz : ¬ (C.length : Int) = 0 := by omega
        have hqi : (q : Int) < (A.length : Int) := by omega
        have hji : (j : Int) < (C.length : Int) := by omega
        have hq0 : (0 : Int) ≤ (q : Int) := by omega
        have hj0 : (0 : Int) ≤ (j : Int) := by omega
        have hqw : IntKind.i64.wrap (q : Int) = (q : Int) := by unfold IntKind.wrap; simp [IntKind.signed, IntKind.bits]; omega
        have hjw : IntKind.i64.wrap (j : Int) = (j : Int) := by unfold IntKind.wrap; simp [IntKind.signed, IntKind.bits]; omega
        have ha := List.getElem?_eq_getElem hqA
        have hc := List.getElem?_eq_getElem hjC
        obtain ⟨ga, oa, ra, rka, e1, hga, ca0, hIa⟩ := (unhide HAW).at_ ha
        obtain ⟨gc, oc, rc, rkc, e2, hgc, cc0, hIc⟩ := (unhide HCW).at_ hc
        subst e1 e2
        have hnew := bothG_at ha hc
        rw [← hmq] at hnew
        have h1000ra := (unhide HOA).row q _ ha
        have h1000rc := (unhide HOC).row j _ hc
        have hina := (unhide HOA).in_ q _ ha
        have hinc := (unhide HOC).in_ j _ hc
        obtain ⟨a, haa⟩ : ∃ a, a = A[q] := ⟨_, rfl⟩
        obtain ⟨c, hcc⟩ : ∃ c, c = C[j] := ⟨_, rfl⟩
        rw [← haa] at ha ca0 hIa hnew h1000ra hina
        rw [← hcc] at hc cc0 hIc hnew h1000rc hinc
        have hral := hIa.1
        have hram := hIa.2.1
        have hrcl := hIc.1
        have hrcm := hIc.2.1
        unfold maxLen at hram hrcm
        have HL := hide hL
        have HB := hide hb
        have HIa := hide hIa
        have HIc := hide hIc
        have HNEW := hide hnew
        have HINA := hide hina
        have HINC := hide hinc
        have HROWS := hide hrows
        have HLm := hide hLm
        clear hL hb hIa hIc hnew hina hinc ha hc haa hcc hrows hLm hmq hq hj
        go_upto_region 15 with fail
        go_quiet (fail)
        generalize hw7 : wi.drewN nq = w7 at *
        have hb7 : Below wi.heap.size wi w7 := by rw [← hw7]; exact ⟨rfl, rfl, rfl, Nat.le_refl _, fun _ _ => rfl⟩
        have e7 := (hb7.cell (p := ⟨ga, oa + q, none⟩) hga).trans ca0
        have HB7 := hide hb7
        clear hw7 hb7 hq1 hr1 hq2 hr2 hqw hjw hnz
        go_wp2
        go_loopw [16, 87] (fun lv kv wk => ∃ k : Nat, k ≤ a.length ∧ kv = .int .i64 (k : Int) ∧ wk.ownsRow wi.heap.size 3 1 lv k (ivals ((a.take k).map fun x => x * (C.length : Int) + (j : Int))) ∧ Below wi.heap.size wi wk) (fun _ kv _ => a.length - (intOf kv).toNat)
        case atStart => exact ⟨0, Nat.zero_le _, rfl, ⟨rfl, .inl ⟨rfl, rfl⟩⟩, unhide HB7⟩
        case round =>
          obtain ⟨k, hk, rfl, hown, hbk⟩ := hrel
          clear HB7 e7
          rename World => wk
          have hwk := hbk.size
          obtain ⟨uo, uc, hlv⟩ := row_len hown
          subst hlv
          by_cases hltk : k < a.length
          · have hltki : (k : Int) < (a.length : Int) := by omega
            have hk0 : (0 : Int) ≤ (k : Int) := by omega
            have hx := List.getElem?_eq_getElem hltk
            obtain ⟨g2, o2, ee, hg2, cx⟩ := (unhide HIa).at_ hx
            subst ee
            have e8 := (hbk.cell (p := ⟨ga, oa + q, none⟩) hga).trans ca0
            have cx' := (hbk.cell (p := ⟨g2, o2 + k, none⟩) hg2).trans cx
            have hin := unhide HINA a[k] (List.getElem_mem hltk)
            have htk : a.take (k + 1) = a.take k ++ [a[k]] := List.take_succ_eq_append_getElem hltk
            clear hx cx
            generalize a[k] = x at *
            obtain ⟨X, rfl⟩ := Int.eq_ofNat_of_zero_le hin.1
            obtain ⟨Q, hQ⟩ : ∃ Q, Q = X * C.length := ⟨_, rfl⟩
            have hQi : (X : Int) * (C.length : Int) = (Q : Int) := by rw [hQ]; simp
            have hQb : Q ≤ 1000000 := by rw [hQ]; exact Nat.mul_le_mul (show X ≤ 1000 by omega) h1000c
            have HEE : Hid (ivals ((a.take (k + 1)).map fun x => x * (C.length : Int) + (j : Int)) = ivals ((a.take k).map fun x => x * (C.length : Int) + (j : Int)) ++ [.int .i64 ((Q : Int) + (j : Int))]) := hide (by rw [htk, List.map_append, ivals_app, ← hQi]; rfl)
            obtain ⟨xs, hxs⟩ : ∃ xs, xs = ivals ((a.take k).map fun x => x * (C.length : Int) + (j : Int)) := ⟨_, rfl⟩
            rw [← hxs] at hown HEE
            have HGE := hide (own_ge hown)
            have HOW := hide hown
            have HBK := hide hbk
            clear hown hbk hQ htk hxs
            go_wp2_with (at_builtin; refine wpList_append_own _ rfl _ _ 22 rfl wi.heap.size 3 i0 _ 1 8 Try.underlying22 (unhide HI0) (unhide HZ0) (unhide HZ1) (unhide HZ2) rfl (by decide) _ k _ rfl ((unhide HOW).alloc _) ⟨wk.heap.size, 0, none⟩ 1 1 [.int .i64 ((Q : Int) + (j : Int))] rfl rfl ?c1 ?c2 ?c3 ?c4 ?c5 ?_)
            case c1 =>
              intro m u hm
              match m, hm with
              | 0, hm => simp at hm; subst hm; simp [Addr.add]
            case c2 =>
              intro u hu
              simp only [List.mem_singleton] at hu
              subst hu; rfl
            case c3 => unfold maxLen; omega
            case c4 => omega
            case c5 => simp; omega
            intro v5 w5' hown5 hg5 _
            have HB5 : Hid (Below wi.heap.size wi w5') := hide (((unhide HBK).alloc hwk _).grown hg5 (by simp; omega) (unhide HGE))
            have HO5 : Hid (w5'.ownsRow wi.heap.size 3 1 v5 (k + 1) (ivals ((a.take (k + 1)).map fun x => x * (C.length : Int) + (j : Int)))) := hide (by rw [unhide HEE]; exact hown5)
            clear hown5 hg5
            go_wp2
            go_roundw
            case rel => exact ⟨k + 1, by omega, by go_num, unhide HO5, unhide HB5⟩
            case measure => simp only [intOf]; omega
          · have hltki : ¬ (k : Int) < (a.length : Int) := by omega
            obtain rfl : k = a.length := by omega
            rw [List.take_length] at hown
            have e9 := (hbk.cell (p := ⟨gc, oc + j, none⟩) hgc).trans cc0
            have HOW := hide hown
            have HBK := hide hbk
            clear hown hbk
            go_wp2
            go_loopw [16, 111] (fun lv kv wk => ∃ k : Nat, k ≤ c.length ∧ kv = .int .i64 (k : Int) ∧ wk.ownsRow wi.heap.size 3 1 lv (a.length + k) (ivals ((a.map fun x => x * (C.length : Int) + (j : Int)) ++ (c.take k).map fun y => ((q * C.length : Nat) : Int) + y)) ∧ Below wi.heap.size wi wk) (fun _ kv _ => c.length - (intOf kv).toNat)
            case atStart => exact ⟨0, Nat.zero_le _, rfl, by simpa using unhide HOW, unhide HBK⟩
            case round =>
              obtain ⟨k, hk, rfl, hown, hbk⟩ := hrel
              clear HOW HBK e9
              rename World => wk
              have hwk := hbk.size
              obtain ⟨uo, uc, hlv⟩ := row_len hown
              subst hlv
              by_cases hltk : k < c.length
              · have hltki : (k : Int) < (c.length : Int) := by omega
                have hk0 : (0 : Int) ≤ (k : Int) := by omega
                have hx := List.getElem?_eq_getElem hltk
                obtain ⟨g2, o2, ee, hg2, cx⟩ := (unhide HIc).at_ hx
                subst ee
                have e8 := (hbk.cell (p := ⟨gc, oc + j, none⟩) hgc).trans cc0
                have cx' := (hbk.cell (p := ⟨g2, o2 + k, none⟩) hg2).trans cx
                have hin := unhide HINC c[k] (List.getElem_mem hltk)
                have htk : c.take (k + 1) = c.take k ++ [c[k]] := List.take_succ_eq_append_getElem hltk
                clear hx cx
                generalize c[k] = x at *
                obtain ⟨X, rfl⟩ := Int.eq_ofNat_of_zero_le hin.1
                obtain ⟨Q, hQ⟩ : ∃ Q, Q = q * C.length := ⟨_, rfl⟩
                have hQi : (q : Int) * (C.length : Int) = (Q : Int) := by rw [hQ]; simp
                have hQb : Q ≤ 1000000 := by rw [hQ]; exact Nat.mul_le_mul (show q ≤ 1000 by omega) h1000c
                have HEE : Hid (ivals ((a.map fun x => x * (C.length : Int) + (j : Int)) ++ (c.take (k + 1)).map fun y => ((q * C.length : Nat) : Int) + y) = ivals ((a.map fun x => x * (C.length : Int) + (j : Int)) ++ (c.take k).map fun y => ((q * C.length : Nat) : Int) + y) ++ [.int .i64 ((Q : Int) + (X : Int))]) := hide (by rw [htk, List.map_append, ← List.append_assoc, ivals_app, hQ]; rfl)
                obtain ⟨xs, hxs⟩ : ∃ xs, xs = ivals ((a.map fun x => x * (C.length : Int) + (j : Int)) ++ (c.take k).map fun y => ((q * C.length : Nat) : Int) + y) := ⟨_, rfl⟩
                rw [← hxs] at hown HEE
                have HGE := hide (own_ge hown)
                have HOW := hide hown
                have HBK := hide hbk
                clear hown hbk hQ htk hxs
                go_wp2_with (at_builtin; refine wpList_append_own _ rfl _ _ 22 rfl wi.heap.size 3 i0 _ 1 8 Try.underlying22 (unhide HI0) (unhide HZ0) (unhide HZ1) (unhide HZ2) rfl (by decide) _ (a.length + k) _ rfl ((unhide HOW).alloc _) ⟨wk.heap.size, 0, none⟩ 1 1 [.int .i64 ((Q : Int) + (X : Int))] rfl rfl ?c1 ?c2 ?c3 ?c4 ?c5 ?_)
                case c1 =>
                  intro m u hm
                  match m, hm with
                  | 0, hm => simp at hm; subst hm; simp [Addr.add]
                case c2 =>
                  intro u hu
                  simp only [List.mem_singleton] at hu
                  subst hu; rfl
                case c3 => unfold maxLen; omega
                case c4 => omega
                case c5 => simp; omega
                intro v5 w5' hown5 hg5 _
                have HB5 : Hid (Below wi.heap.size wi w5') := hide (((unhide HBK).alloc hwk _).grown hg5 (by simp; omega) (unhide HGE))
                have HO5 : Hid (w5'.ownsRow wi.heap.size 3 1 v5 (a.length + (k + 1)) (ivals ((a.map fun x => x * (C.length : Int) + (j : Int)) ++ (c.take (k + 1)).map fun y => ((q * C.length : Nat) : Int) + y))) := hide (by rw [unhide HEE]; exact hown5)
                clear hown5 hg5
                go_wp2
                go_roundw
                case rel => exact ⟨k + 1, by omega, by go_num, unhide HO5, unhide HB5⟩
                case measure => simp only [intOf]; omega
              · have hltki : ¬ (k : Int) < (c.length : Int) := by omega
                obtain rfl : k = c.length := by omega
                rw [List.take_length] at hown
                obtain ⟨x, hx⟩ : ∃ x : Ar, x = ⟨rowAB C.length q j a c, uo, uc⟩ := ⟨_, rfl⟩
                have hxl : x.r.length = a.length + c.length := by rw [hx]; simp [rowAB]
                have hxr : x.r = rowAB C.length q j a c := by rw [hx]
                have hxv : x.v = .slice uo (a.length + c.length) uc := by unfold Ar.v; rw [hxl, hx]
                obtain ⟨uo', uc', huv, hkid⟩ := isIsP.of_row (w := wk) (base := wi.heap.size) (v := .slice uo (a.length + c.length) uc) (r := x.r) (by rw [hxl, hxr]; exact hown)
                rw [hxl] at huv
                simp only [Value.slice.injEq, true_and] at huv
                obtain ⟨rfl, rfl⟩ := huv
                have hLK := (unhide HL).below hbk
                have hlow := World.ownsRow.lt (unhide HL).row
                have HKID : Hid (∀ o, isIsP (Own (wk.alloc o) w6.heap.size u12) (wk.alloc o) x.ao x.c x.r) := hide fun o => by
                  rw [show x.ao = uo by rw [hx], show x.c = uc by rw [hx]]
                  refine hkid.keep fun k hk => ⟨⟨by omega, by simp; omega, fun e => ?_⟩, ((Below.refl _ wk).alloc (Nat.le_refl _) o).block k hk.2⟩
                  have := hlow k e
                  omega
                have hTT : (L ++ [x]).map (·.r) = (bothG A C).take (m + 1) := by
                  rw [List.map_append, unhide HT, List.take_add_one, unhide HNEW, List.map_cons, hxr]
                  rfl
                have HTT := hide hTT
                have HXV := hide hxv
                have HLK := hide hLK
                have HBK := hide hbk
                have HXL := hide hxl
                have HXR := hide hxr
                have hLb : L.length ≤ 1000 := by have := unhide HLm; omega
                clear hown hbk hkid hTT hxv hx hxl hxr hLK hlow
                by_cases hbigN : 1000 < a.length + c.length
                · have hbi : (1000 : Int) < (a.length : Int) + (c.length : Int) := by omega
                  have HWW : Hid (wantP A C (m + 1) 2) := hide (.inr ⟨rfl, _, List.mem_of_getElem? (unhide HNEW), by rw [← unhide HXR, unhide HXL]; exact hbigN⟩)
                  go_wp2_with (at_builtin; refine wpList_append_own_at _ rfl _ _ 33 rfl w6.heap.size 22 i1 _ 1 24 Try.underlying33 (unhide HI1) (unhide HY0) (unhide HY1) (unhide HY2) rfl (by decide) u12 L.length (L.map Ar.v) rfl ((unhide HLK).row.alloc _) ⟨wk.heap.size, 0, none⟩ 1 1 [.slice uo (a.length + c.length) uc] rfl rfl ?c1 ?c2 ?c3 ?c4 ?c5 ?_)
                  case c2 => rfl
                  case c3 => unfold maxLen; omega
                  case c4 => omega
                  case c5 => first | omega | (simp; omega)
                  intro v5 w5' hown5 hg5 _ hat5
                  rw [← unhide HXV] at hown5
                  have HB5 : Hid (Below w6.heap.size w6 w5') := hide ((((unhide HB).trans ((unhide HBK).mono hwi)).alloc (by omega) _).grown hg5 (by simp; omega) (own_ge (unhide HLK).row))
                  have HL5 : Hid (isAr w5' w6.heap.size v5 (L ++ [x])) := hide (((unhide HLK).below ((Below.refl _ _).alloc (Nat.le_refl _) _)).snoc x (unhide HKID _) hown5 hg5 (by simpa using hat5))
                  clear hown5 hg5 hat5
                  go_wp2
                  go_roundw
                  case rel => exact ⟨m + 1, L ++ [x], 2, by omega, by go_num, rfl, unhide HL5, HTT, HWW, unhide HB5⟩
                  case measure => simp only [intOf]; omega
                · have hbi : ¬ (1000 : Int) < (a.length : Int) + (c.length : Int) := by omega
                  have HWW : Hid (wantP A C (m + 1) 0) := hide (.inl ⟨rfl, fun r hr => by
                    rw [List.take_add_one, unhide HNEW] at hr
                    rcases List.mem_append.1 hr with hr | hr
                    · exact unhide HROWS r hr
                    · simp only [Option.toList_some, List.mem_singleton] at hr
                      rw [hr, ← unhide HXR, unhide HXL]; omega⟩)
                  go_wp2_with (at_builtin; refine wpList_append_own_at _ rfl _ _ 33 rfl w6.heap.size 22 i1 _ 1 24 Try.underlying33 (unhide HI1) (unhide HY0) (unhide HY1) (unhide HY2) rfl (by decide) u12 L.length (L.map Ar.v) rfl ((unhide HLK).row.alloc _) ⟨wk.heap.size, 0, none⟩ 1 1 [.slice uo (a.length + c.length) uc] rfl rfl ?c1 ?c2 ?c3 ?c4 ?c5 ?_)
                  case c2 => rfl
                  case c3 => unfold maxLen; omega
                  case c4 => omega
                  case c5 => first | omega | (simp; omega)
                  intro v5 w5' hown5 hg5 _ hat5
                  rw [← unhide HXV] at hown5
                  have HB5 : Hid (Below w6.heap.size w6 w5') := hide ((((unhide HB).trans ((unhide HBK).mono hwi)).alloc (by omega) _).grown hg5 (by simp; omega) (own_ge (unhide HLK).row))
                  have HL5 : Hid (isAr w5' w6.heap.size v5 (L ++ [x])) := hide (((unhide HLK).below ((Below.refl _ _).alloc (Nat.le_refl _) _)).snoc x (unhide HKID _) hown5 hg5 (by simpa using hat5))
                  clear hown5 hg5 hat5
                  go_wp2
                  go_roundw
                  case rel => exact ⟨m + 1, L ++ [x], 0, by omega, by go_num, rfl, unhide HL5, HTT, HWW, unhide HB5⟩
                  case measure => simp only [intOf]; omega
      · have hlti : ¬ (m : Int) < (P : Int) := by omega
        obtain rfl : m = P := by omega
        have hnb : bigB A C = false := by
          rcases Bool.eq_false_or_eq_true (bigB A C) with h | h
          · exfalso
            obtain ⟨r, hr, hl⟩ := (big_row (unhide HOA) (unhide HOC) (by rw [← unhide HP]; exact hP1000)).1 h
            have := hrows r (by rw [List.take_of_length_le (by rw [bothG_len, ← unhide HP]; exact Nat.le_refl _)]; exact hr)
            omega
          · exact h
        have hE0 : E3 = 0 := by rw [unhide HE, hnb]; rfl
        obtain ⟨hxl, hgx⟩ := unhide HX4 hE0
        rw [← unhide HP] at hxl
        subst hE0 hxl
        obtain ⟨lo, lc, hlv, hgl⟩ := hL.done
        rw [unhide HT, List.take_of_length_le (by rw [bothG_len, ← unhide HP]; exact Nat.le_refl _)] at hgl
        rw [hLm] at hlv
        subst hlv
        have hgx' := hgx.up hb
        have hbl : (bothG A C).length = xl := by rw [bothG_len, ← unhide HP]
        have hx1 := hgx'.1
        have hx2 := hgx'.2.1
        have hl1 := hgl.1
        have hl2 := hgl.2.1
        rw [hbl] at hx1 hl1
        unfold maxLen at hx2 hl2
        have HGX := hide hgx'
        have HGL := hide hgl
        have HBL := hide hbl
        clear hL hb hrows hnb hgx hgx' hgl hbl hLm
        go_wp2
        go_loopw [158] (fun iv wr => ∃ k : Nat, k ≤ xl ∧ iv = .int .i64 (k : Int) ∧ Below wi.heap.size wi wr) (fun iv _ => xl - (intOf iv).toNat)
        case atStart => exact ⟨0, Nat.zero_le _, rfl, Below.refl _ _⟩
        case round =>
          obtain ⟨k, hk, rfl, hbk⟩ := hrel
          rename World => wk
          by_cases hltk : k < xl
          · have hltki : (k : Int) < (xl : Int) := by omega
            have hk0 : (0 : Int) ≤ (k : Int) := by omega
            obtain ⟨r, hr⟩ : ∃ r, (bothG A C)[k]? = some r := ⟨_, List.getElem?_eq_getElem (by rw [unhide HBL]; exact hltk)⟩
            obtain ⟨gx, ox, rx, kx, e1, hgx, cx, hIx⟩ := ((unhide HGX).up hbk).at_ hr
            obtain ⟨gl, ol, rl, kl, e2, hgl, cl, hIl⟩ := ((unhide HGL).up hbk).at_ hr
            subst e1 e2
            clear hr
            have HSM : Hid (∀ u, Below wk.heap.size wk u → Calls Try.prog 10 #[.slice rx r.length kx, .slice rl r.length kl] u fun e w' => e = .returned (.bool true) ∧ Below u.heap.size u w') := hide fun u hu => same_any _ rx rl kx kl r u (hIx.up hu) (hIl.up hu)
            have HBD : Hid (Below wk.heap.size wk wk.drew) := hide ⟨rfl, rfl, rfl, Nat.le_refl _, fun _ _ => rfl⟩
            have q1 : wk.drew.cell? ⟨gx, ox + k, none⟩ = some (.slice rx r.length kx) := cx
            have q2 : wk.drew.cell? ⟨gl, ol + k, none⟩ = some (.slice rl r.length kl) := cl
            have HQ : Hid (∀ u, Below wk.heap.size wk u → u.cell? ⟨gx, ox + k, none⟩ = some (.slice rx r.length kx) ∧ u.cell? ⟨gl, ol + k, none⟩ = some (.slice rl r.length kl)) := hide fun u hu => ⟨(hu.cell (p := ⟨gx, ox + k, none⟩) hgx).trans cx, (hu.cell (p := ⟨gl, ol + k, none⟩) hgl).trans cl⟩
            have HBK := hide hbk
            clear hbk hIx hIl cx cl
            go_upto_region 37 with fail
            go_region_held3 (fun u => u.cell? ⟨gx, ox + k, none⟩ = some (.slice rx r.length kx) ∧ u.cell? ⟨gl, ol + k, none⟩ = some (.slice rl r.length kl))
              (first
                | (go_keep; done)
                | with_reducible exact ⟨q1, q2⟩
                | with_reducible exact j1)
              (first | (go_at_call 10; (with_reducible refine (unhide HSM _ (unhide HBD)).mono ?_); rintro e w8 ⟨rfl, hb⟩; have hb8 := (unhide HBD).trans hb; have j1 := unhide HQ w8 hb8; have HB8 := hide ((unhide HBK).trans (hb8.mono (unhide HBK).size)); clear hb hb8))
            all_goals
              go_wp2
              go_roundw
              case rel => exact ⟨k + 1, by omega, by go_num, unhide HB8⟩
              case measure => simp only [intOf]; omega
          · have hltki : ¬ (k : Int) < (xl : Int) := by omega
            have HBK := hide ((unhide HBW).trans (hbk.mono (unhide HBW).size))
            clear hbk
            go_wp2
            go_ret
            exact ⟨rfl, unhide HBK⟩
    · have hE2 : E3 = 2 := by rw [unhide HE, (big_row (unhide HOA) (unhide HOC) (by rw [← unhide HP]; exact hP1000)).2 hbad]; rfl
      have hxl : xl = 0 := unhide HX1 (by rw [hE2]; simp)
      subst hE2 hxl
      clear hL hb hbad
      go_wp2
      go_ret
      exact ⟨ret_bool (by simp), unhide HBW⟩
end Go.Proofs.Ytphnjedoghopcaa
