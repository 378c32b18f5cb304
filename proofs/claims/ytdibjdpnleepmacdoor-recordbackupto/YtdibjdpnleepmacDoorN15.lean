/-
  package record, walked: the reader's part.
-/
import Derived.Test.YtdibjdpnleepmacDoorN14
import Derived.Test.YtdibjdpnleepmacDoorM30
namespace Go.Proofs.YtdibjdpnleepmacDoor
open Go.RowKit
attribute [local go_sem ↓] Go.wp_at_zero Go.wp_at_succ

/-- The plain reader's state, in the reader's cells. -/
def Ps.re (s : Ps) (v v2 : Value) : Re := ⟨ofL s.c.1, s.c.2, v, s.E.length, s.d, s.here.main, s.here.deep, s.here.of_, s.here.others, v2⟩
theorem Ps.re_cur (s : Ps) (v v2 : Value) : (s.re v v2).cur = s.c := by unfold Ps.re Re.cur; rw [ofL_list]
/-- The reader in block g holds the plain reader's state. -/
def RP (w : World) (g B : Nat) (s : Ps) : Prop := ∃ v v2, RSt w g B (s.re v v2) (s.E.take 1000) s.O
theorem row_len {w : World} {base : Nat} {e : TypeId} {size n : Nat} {v : Value} {xs : List Value} (h : w.ownsRow base e size v n xs) : ∃ uo uc, v = .slice uo n uc := by
  rcases h.2 with ⟨h1, h2⟩ | ⟨gg, cap, cur, h1, -⟩
  · have : n = 0 := by omega
    exact ⟨_, _, by rw [h1, this]⟩
  · exact ⟨_, _, h1⟩
structure PartEnd (g B : Nat) (s : Ps) (w : World) (e : Ending) (w' : World) : Prop where
  ex : (∃ a, partL s = .error a ∧ e = fltP a) ∨ (partL s = .ok none ∧ e = .returned (.bool false) ∧ RP w' g B { s with c := skp s.c }) ∨ (∃ s', partL s = .ok (some s') ∧ e = .returned (.bool true) ∧ RP w' g B s')
  low : Bb g B w w'
theorem size_ofL (l : List UInt8) : (ofL l).size = l.length := by rw [Lib.size_eq, ofL_list]
theorem Utf8Tabs_low {g : Nat} {w w' : World} (h : Lib.Utf8Tabs 0 1 w) (hb : Below g w w') (h2 : 2 ≤ g) : Lib.Utf8Tabs 0 1 w' :=
  ⟨fun c hc => (hb.cell (p := ⟨0, c, none⟩) (by simp only; omega)).trans (h.1 c hc), fun i hi => ⟨(hb.cell (p := ⟨1, 2 * i, none⟩) (by simp only; omega)).trans (h.2 i hi).1, (hb.cell (p := ⟨1, 2 * i + 1, none⟩) (by simp only; omega)).trans (h.2 i hi).2⟩⟩

set_option maxHeartbeats 4000000 in
set_option maxRecDepth 100000 in
theorem part_any (g B : Nat) (s : Ps) (w : World) (h : RP w g B s) (h2 : 2 ≤ g) (hT : Lib.Utf8Tabs 0 1 w) (hB : Bd 1200000 s) :
    Calls Tryd.prog 14 #[.pointer (some ⟨g, 0, none⟩)] w fun e w' => PartEnd g B s w e w' := by
  obtain ⟨v, v2, hR⟩ := h
  obtain ⟨q1, q2, q3, qd, q4, q5, q6⟩ := hB
  have hgw := hR.re.lt
  obtain ⟨s1, hs1⟩ : ∃ s1 : Ps, s1 = { s with c := skp s.c } := ⟨_, rfl⟩
  have hk := skp_at s.c
  have hsk : Re.skip (s.re v v2).rest.size (s.re v v2) = s1.re v v2 := by
    rw [skp_list, Ps.re_cur, hs1]; rfl
  have hbl := blanks_any g (s.re v v2) w hR.re h2 hT ⟨q1, by show s.c.2 + ((ofL s.c.1).size : Int) ≤ 4000000; rw [size_ofL]; omega⟩
  rw [hsk] at hbl
  have e1 : s1.E = s.E := by rw [hs1]
  have e2 : s1.O = s.O := by rw [hs1]
  have e3 : s1.here = s.here := by rw [hs1]
  have e4 : s1.c = skp s.c := by rw [hs1]
  have e5 : s1.d = s.d := by rw [hs1]
  obtain ⟨P, hP⟩ : ∃ P, P = pkL (skp s.c).1 := ⟨_, rfl⟩
  have hpy : pkR (s1.re v v2).rest = P := by rw [pk_list, hP, ← e4]; show pkL (ofL s1.c.1).data.toList = _; rw [ofL_list]
  have hpart : partL s = if mvR P = true then (match noteL s1.c with
      | .error a => .error a
      | .ok (c', mv, cm) => .ok (some { c := c', d := max s.d (s.here.deep + 1), here := ⟨s.E.length, s.here.deep + 1, s.here.main, true⟩, O := s.O, E := s.E ++ [⟨ofL mv, ofL cm, s.here.main⟩] }))
    else if P = 40 ∧ s.here.others = true then (if mvR (pkL (skp (onL s1.c.1, s1.c.2 + 1)).1) = false then .error (skp (onL s1.c.1, s1.c.2 + 1)).2
      else match noteL (skp (onL s1.c.1, s1.c.2 + 1)) with
        | .error a => .error a
        | .ok (c', mv, cm) => .ok (some { c := c', d := max s.d s.here.deep, here := ⟨s.E.length, s.here.deep, s.here.of_, false⟩, O := s.O ++ [s.here], E := s.E ++ [⟨ofL mv, ofL cm, s.here.of_⟩] }))
    else if P = 41 ∧ s.O ≠ [] then
      .ok (some { c := (onL s1.c.1, s1.c.2 + 1), d := s.d, here := s.O.getLast?.getD ⟨0, 0, 0, false⟩, O := s.O.dropLast, E := s.E })
    else if P = -1 ∧ s.O = [] then .ok none else .error s1.c.2 := by
    rw [hP, e4]; rfl
  obtain ⟨X, hX⟩ : ∃ X : Re, X = s1.re v v2 := ⟨_, rfl⟩
  have x1 : X.n = s.E.length := by rw [hX, ← e1]; rfl
  have x2 : X.main = s.here.main := by rw [hX, ← e3]; rfl
  have x3 : X.deep = s.here.deep := by rw [hX, ← e3]; rfl
  have x4 : X.of_ = s.here.of_ := by rw [hX, ← e3]; rfl
  have x5 : X.others = s.here.others := by rw [hX, ← e3]; rfl
  have x6 : X.at_ = s1.c.2 := by rw [hX]; rfl
  have x7 : X.rest.size = s1.c.1.length := by rw [hX]; exact size_ofL _
  have x8 : X.d = s.d := by rw [hX, ← e5]; rfl
  have x9 : X.cur = s1.c := by rw [hX, Ps.re_cur]
  have xk : X.kept = (s.re v v2).kept := by rw [hX]; rfl
  have xo : X.open_ = (s.re v v2).open_ := by rw [hX]; rfl
  have hXs : ∀ w', RSt w' g B X (s.E.take 1000) s.O → RP w' g B { s with c := skp s.c } := fun w' hr => ⟨v, v2, by rw [← hs1, ← hX, e1, e2]; exact hr⟩
  have ha1 : 0 ≤ s1.c.2 := by rw [e4]; omega
  have ha2 : s1.c.2 + (s1.c.1.length : Int) ≤ 1200000 := by rw [e4]; omega
  have htl : (s.E.take 1000).length ≤ 1000 := by rw [List.length_take]; omega
  rw [← hX] at hbl hpy
  have HBL := hide hbl
  have HRS := hide hR
  have HT := hide hT
  have HPA := hide hpart
  have HPY := hide hpy
  have HXS := hide hXs
  have HQ5 := hide q5
  clear hbl hR hT hpart hpy hXs hsk hs1 hX q5 hP
  go_enter Tryd.func14, Tryd.ntmps14
  go_wp2_with fail
  refine (unhide HBL).mono ?_
  rintro e w2 ⟨rfl, hy2, hbu2⟩
  have hrs2 : RSt w2 g B X (s.E.take 1000) s.O := (unhide HRS).bu hbu2 hy2 xk xo
  have ht2 := Utf8Tabs_bu (unhide HT) hbu2 hgw h2
  have hpk := peek_any g X w2 hy2 ht2
  rw [unhide HPY] at hpk
  have HPK := hide hpk
  have HRS2 := hide hrs2
  have HT2 := hide ht2
  have HLB2 := hide (hbu2.bb (unhide HRS).hB.2)
  have hg2 := hy2.lt
  clear hpk hrs2 ht2 hbu2 hy2
  go_wp2_with fail
  refine (unhide HPK).mono ?_
  rintro e w3 ⟨rfl, hb3⟩
  have hrs3 : RSt w3 g B X (s.E.take 1000) s.O := (unhide HRS2).bu (Bu.of hb3) ((unhide HRS2).re.bu hb3) rfl rfl
  have HT3 := hide (Utf8Tabs_below (unhide HT2) hb3)
  have HLB3 : Hid (Bb g B w w3) := hide ((unhide HLB2).trans (Bb.of (hb3.mono (unhide HRS2).hB.2)))
  have HRS3 := hide hrs3
  clear hb3 hrs3
  go_wp2_with fail
  refine (isOfMove_any _ _).mono ?_
  rintro e w4 ⟨rfl, rfl⟩
  cases hmv : mvR P with
  | true =>
    have hpart := unhide HPA
    rw [if_pos hmv] at hpart
    have HPN := hide hpart
    have HNX := hide (next_any g B X _ _ _ (unhide HRS3) h2 (unhide HT3) ⟨by omega, by omega⟩ ⟨by omega, by omega⟩ ⟨by omega, by omega⟩ (by omega))
    have HPOST : Hid (∀ e' w', NextEnd g B X (s.E.take 1000) s.O w4 e' w' → (∃ a, partL s = .error a ∧ e' = fltP a ∧ Bb g B w w') ∨ (∃ s', partL s = .ok (some s') ∧ e' = .returned (.tuple #[]) ∧ RP w' g B s' ∧ Bb g B w w')) := by
      refine hide fun e' w' he => ?_
      obtain ⟨hex, hlow⟩ := he
      have hlw := (unhide HLB3).trans hlow
      rw [note_list, x9] at hex
      rcases hex with ⟨a, hn, rfl⟩ | ⟨y, mv, cm, vv, hn, rfl, hr⟩
      · left
        refine ⟨a, ?_, rfl, hlw⟩
        rw [unhide HPN]
        cases hq : noteL s1.c with
        | error b => rw [hq] at hn; simp only [Except.error.injEq] at hn; subst hn; rfl
        | ok t => rw [hq] at hn; cases hn
      · right
        cases hq : noteL s1.c with
        | error b => rw [hq] at hn; cases hn
        | ok t =>
          obtain ⟨c', mv', cm'⟩ := t
          rw [hq] at hn
          simp only [Except.ok.injEq, Prod.mk.injEq] at hn
          obtain ⟨rfl, rfl, rfl⟩ := hn
          refine ⟨_, by rw [unhide HPN, hq], rfl, ?_, hlw⟩
          rw [x1, take_one] at hr
          refine ⟨vv, X.open_, ?_⟩
          rw [x2, x3] at hr
          have hre : (Ps.re ⟨c', max s.d (s.here.deep + 1), ⟨s.E.length, s.here.deep + 1, s.here.main, true⟩, s.O, s.E ++ [⟨ofL mv', ofL cm', s.here.main⟩]⟩ vv X.open_) = { (X.put c').count (s.here.deep + 1) with kept := vv, main := (s.E.length : Int), deep := s.here.deep + 1, of_ := s.here.main, others := true } := by
            unfold Ps.re Re.count Re.put
            simp only [x1, x8]
            simp
          rw [hre]
          exact hr
    clear hmv hpart
    go_wp2_with fail
    refine (unhide HNX).mono ?_
    rintro e w5 hend
    have hpost := unhide HPOST _ _ hend
    clear hend
    rcases hpost with ⟨a, hpe, rfl, hlw⟩ | ⟨s', hpo, rfl, hrp, hlw⟩
    · have HPE := hide hpe
      clear hpe
      unfold fltP
      go_wp2
      simp only [bodyPost, true_and]
      exact ⟨Or.inl ⟨_, unhide HPE, rfl⟩, hlw⟩
    · have HPO := hide hpo
      have HRP := hide hrp
      clear hpo hrp
      go_wp2
      go_ret
      exact ⟨Or.inr (Or.inr ⟨_, unhide HPO, rfl, unhide HRP⟩), hlw⟩
  | false =>
    have hpart := unhide HPA
    rw [if_neg (by rw [hmv]; simp)] at hpart
    clear HPA hmv
    obtain ⟨qo, qc, hov⟩ := row_len (unhide HRS3).open_
    obtain ⟨-, -, -, -, -, -, -, -, c8, c9⟩ := (unhide HRS3).re.cells
    rw [hov] at c9
    rw [x5] at c8
    have HFA := hide (fail_any g X _ (unhide HRS3).re)
    rw [x6] at HFA
    by_cases h40 : P = 40 ∧ s.here.others = true
    · obtain ⟨h40, hoth⟩ := h40
      rw [if_pos ⟨h40, hoth⟩] at hpart
      have HPN := hide hpart
      have HBR := hide (branch_any g B X _ _ _ (unhide HRS3) h2 (unhide HT3) ⟨by omega, by omega⟩ ⟨by omega, by omega⟩ (by omega) (by omega))
      have HPOST : Hid (∀ e' w', BranchEnd g B X (s.E.take 1000) s.O w4 e' w' → (∃ a, partL s = .error a ∧ e' = fltP a ∧ Bb g B w w') ∨ (∃ s', partL s = .ok (some s') ∧ e' = .returned (.tuple #[]) ∧ RP w' g B s' ∧ Bb g B w w')) := by
        refine hide fun e' w' he => ?_
        obtain ⟨hex, hlow⟩ := he
        have hlw := (unhide HLB3).trans hlow
        obtain ⟨K, hBd⟩ : ∃ K : Cur, K = skp (onL s1.c.1, s1.c.2 + 1) := ⟨_, rfl⟩
        have hz : Re.skip X.on.rest.size X.on = X.put K := by
          rw [skp_list, X.on_put, Re.cur_put, Re.put_put, x9, hBd]
        have hzp : pkR (X.put K).rest = pkL K.1 := by rw [pk_list]; show pkL (ofL K.1).data.toList = _; rw [ofL_list]
        have hpn := unhide HPN
        rw [← hBd] at hpn
        rw [hz, hzp] at hex
        rcases hex with ⟨hne, -⟩ | ⟨-, hm, rfl⟩ | ⟨-, hm, v3, hex⟩
        · exact absurd ((unhide HPY).trans h40) hne
        · left
          refine ⟨K.2, ?_, rfl, hlw⟩
          rw [hpn, if_pos hm]
        · rw [if_neg (by rw [hm]; simp)] at hpn
          rw [note_list, show ({ X.put K with open_ := v3 } : Re).cur = K from X.cur_put K] at hex
          rcases hex with ⟨a, hn, rfl⟩ | ⟨y, mv, cm, vv, hn, rfl, hr⟩
          · left
            refine ⟨a, ?_, rfl, hlw⟩
            rw [hpn]
            cases hq : noteL K with
            | error b => rw [hq] at hn; simp only [Except.error.injEq] at hn; subst hn; rfl
            | ok t => rw [hq] at hn; cases hn
          · right
            cases hq : noteL K with
            | error b => rw [hq] at hn; cases hn
            | ok t =>
              obtain ⟨c', mv', cm'⟩ := t
              rw [hq] at hn
              simp only [Except.ok.injEq, Prod.mk.injEq] at hn
              obtain ⟨rfl, rfl, rfl⟩ := hn
              refine ⟨_, by rw [hpn, hq], rfl, ?_, hlw⟩
              have hpl : X.pl = s.here := by unfold Re.pl; rw [x2, x3, x4, x5]
              rw [x1, take_one, x3, x4, hpl] at hr
              refine ⟨vv, v3, ?_⟩
              have hre : (Ps.re ⟨c', max s.d s.here.deep, ⟨s.E.length, s.here.deep, s.here.of_, false⟩, s.O ++ [s.here], s.E ++ [⟨ofL mv', ofL cm', s.here.of_⟩]⟩ vv v3) = { (({ X.put K with open_ := v3 } : Re).put c').count s.here.deep with kept := vv, main := (s.E.length : Int), deep := s.here.deep, of_ := s.here.of_, others := false } := by
                unfold Ps.re Re.count Re.put
                simp only [x1, x8]
                simp
              rw [hre]
              exact hr
      have hb40 : (P == 40) = true := by simp [h40]
      rw [hoth] at c8
      clear hpart h40 hoth HFA
      go_wp2_with fail
      refine (unhide HBR).mono ?_
      rintro e w5 hend
      have hpost := unhide HPOST _ _ hend
      clear hend
      rcases hpost with ⟨a, hpe, rfl, hlw⟩ | ⟨s', hpo, rfl, hrp, hlw⟩
      · have HPE := hide hpe
        clear hpe
        unfold fltP
        go_wp2
        simp only [bodyPost, true_and]
        exact ⟨Or.inl ⟨_, unhide HPE, rfl⟩, hlw⟩
      · have HPO := hide hpo
        have HRP := hide hrp
        clear hpo hrp
        go_wp2
        go_ret
        exact ⟨Or.inr (Or.inr ⟨_, unhide HPO, rfl, unhide HRP⟩), hlw⟩
    · rw [if_neg h40] at hpart
      by_cases h41 : P = 41 ∧ s.O ≠ []
      · obtain ⟨h41, hOn⟩ := h41
        rw [if_pos ⟨h41, hOn⟩] at hpart
        have HPN := hide hpart
        obtain ⟨O', p, hO⟩ : ∃ O' p, s.O = O' ++ [p] := ⟨_, _, (List.dropLast_concat_getLast hOn).symm⟩
        have hlen : s.O.length = O'.length + 1 := by rw [hO]; simp
        have HBK := hide (back_any g B X (s.E.take 1000) O' p w4 (by rw [← hO]; exact unhide HRS3) (unhide HT3) ⟨by omega, by omega⟩ (by omega))
        have HPOST : Hid (∀ e' w', BackEnd g B X (s.E.take 1000) O' p w4 e' w' → ∃ s', partL s = .ok (some s') ∧ e' = .returned (.tuple #[]) ∧ RP w' g B s' ∧ Bb g B w w') := by
          refine hide fun e' w' he => ?_
          obtain ⟨hex, hlow⟩ := he
          have hlw := (unhide HLB3).trans hlow
          rcases hex with ⟨-, rfl, v3, hr⟩ | ⟨hne, -⟩
          · refine ⟨_, unhide HPN, rfl, ?_, hlw⟩
            refine ⟨X.kept, v3, ?_⟩
            rw [X.on_put, x9] at hr
            have hre : (Ps.re ⟨(onL s1.c.1, s1.c.2 + 1), s.d, s.O.getLast?.getD ⟨0, 0, 0, false⟩, s.O.dropLast, s.E⟩ X.kept v3) = { X.put (onL s1.c.1, s1.c.2 + 1) with main := p.main, deep := p.deep, of_ := p.of_, others := p.others, open_ := v3 } := by
              unfold Ps.re Re.put
              simp only [x1, x8, hO]
              simp
            rw [hre]
            have hd : (s.O.dropLast) = O' := by rw [hO]; simp
            show RSt w' g B _ (s.E.take 1000) s.O.dropLast
            rw [hd]
            exact hr
          · exact absurd ((unhide HPY).trans h41) hne
        have hb41 : (P == 41) = true := by simp [h41]
        have hb40 : (P == 40) = false := by simp [h41]
        have hpos : (0 : Int) < (s.O.length : Int) := by omega
        have hposn : 0 < s.O.length := by omega
        clear hpart h40 h41 hOn HFA hO hlen
        go_wp2_with fail
        refine (unhide HBK).mono ?_
        rintro e w5 hend
        obtain ⟨s', hpo, rfl, hrp, hlw⟩ := unhide HPOST _ _ hend
        clear hend
        have HPO := hide hpo
        have HRP := hide hrp
        clear hpo hrp
        go_wp2
        go_ret
        exact ⟨Or.inr (Or.inr ⟨_, unhide HPO, rfl, unhide HRP⟩), hlw⟩
      · rw [if_neg h41] at hpart
        by_cases hend : P = -1 ∧ s.O = []
        · obtain ⟨hpe, hOe⟩ := hend
          rw [if_pos ⟨hpe, hOe⟩] at hpart
          have HPN := hide hpart
          have hl0 : s.O.length = 0 := by rw [hOe]; rfl
          have HRP := hide (unhide HXS _ (unhide HRS3))
          have hbe : (P == -1) = true := by simp [hpe]
          have hb40 : (P == 40) = false := by simp [hpe]
          have hb41 : (P == 41) = false := by simp [hpe]
          rw [hl0] at c9
          clear hpart h40 h41 hpe hOe HFA hl0
          go_wp2
          go_ret
          exact ⟨Or.inr (Or.inl ⟨unhide HPN, rfl, unhide HRP⟩), unhide HLB3⟩
        · rw [if_neg hend] at hpart
          have HPN := hide hpart
          by_cases g40 : P = 40
          · have hoth : s.here.others = false := by
              cases hq : s.here.others with
              | false => rfl
              | true => exact absurd ⟨g40, hq⟩ h40
            have hb40 : (P == 40) = true := by simp [g40]
            have hb41 : (P == 41) = false := by simp [g40]
            have hbe : (P == -1) = false := by simp [g40]
            rw [hoth] at c8
            clear hpart h40 h41 hend g40 hoth
            go_wp2_with fail
            refine (unhide HFA).mono ?_
            rintro e w5 ⟨rfl, rfl⟩
            go_wp2
            simp only [bodyPost, true_and]
            exact ⟨Or.inl ⟨_, unhide HPN, by rw [e4]; rfl⟩, unhide HLB3⟩
          · have hb40 : (P == 40) = false := by simpa using g40
            by_cases g41 : P = 41
            · have hO0 : s.O.length = 0 := by
                cases hq : s.O with
                | nil => rfl
                | cons a b => exact absurd ⟨g41, by rw [hq]; simp⟩ h41
              have hb41 : (P == 41) = true := by simp [g41]
              have hbe : (P == -1) = false := by simp [g41]
              rw [hO0] at c9
              clear hpart h40 h41 hend g40 g41 hO0
              go_wp2_with fail
              refine (unhide HFA).mono ?_
              rintro e w5 ⟨rfl, rfl⟩
              go_wp2
              simp only [bodyPost, true_and]
              exact ⟨Or.inl ⟨_, unhide HPN, by rw [e4]; rfl⟩, unhide HLB3⟩
            · have hb41 : (P == 41) = false := by simpa using g41
              by_cases ge : P = -1
              · have hOp : s.O.length ≠ 0 := by
                  intro hq
                  exact hend ⟨ge, List.eq_nil_of_length_eq_zero hq⟩
                have hbe : (P == -1) = true := by simp [ge]
                have hz1 : ((s.O.length : Int) == 0) = false := by simp only [beq_eq_false_iff_ne, ne_eq]; omega
                have hz2 : (s.O.length == 0) = false := by simpa using hOp
                clear hpart h40 h41 hend g40 g41 ge hOp
                go_wp2_with fail
                refine (unhide HFA).mono ?_
                rintro e w5 ⟨rfl, rfl⟩
                go_wp2
                simp only [bodyPost, true_and]
                exact ⟨Or.inl ⟨_, unhide HPN, by rw [e4]; rfl⟩, unhide HLB3⟩
              · have hbe : (P == -1) = false := by simpa using ge
                clear hpart h40 h41 hend g40 g41 ge
                go_wp2_with fail
                refine (unhide HFA).mono ?_
                rintro e w5 ⟨rfl, rfl⟩
                go_wp2
                simp only [bodyPost, true_and]
                exact ⟨Or.inl ⟨_, unhide HPN, by rw [e4]; rfl⟩, unhide HLB3⟩
end Go.Proofs.YtdibjdpnleepmacDoor
