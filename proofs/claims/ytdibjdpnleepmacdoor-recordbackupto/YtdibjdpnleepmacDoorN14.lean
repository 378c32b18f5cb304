/-
  package record, walked: the reader's branch.
-/
import Derived.Test.YtdibjdpnleepmacDoorN13
namespace Go.Proofs.YtdibjdpnleepmacDoor
open Go.RowKit
attribute [local go_sem ↓] Go.wp_at_zero Go.wp_at_succ

theorem infoPlace : (Tryd.prog.info? 33).map (fun i => (i.zero, i.size, i.bytes)) = some (some (.agg #[.int .i64 0, .int .i64 0, .int .i64 0, .bool false]), 4, 32) := by kernel_rfl
theorem entry_stay {w w' : World} {base n m : Nat} {u v : Value} {xs ys : List Value} (h : w.ownsRow base 52 4 u n xs) (hv : w.ownsRow base 33 4 v m ys) (hg : w.grownBy w' v.ownBlock) : w'.ownsRow base 52 4 u n xs := by
  obtain ⟨h1, h2⟩ := h
  refine ⟨h1, ?_⟩
  rcases h2 with h2 | ⟨g, cap, cur, e1, hb, hh, r⟩
  · exact .inl h2
  · refine .inr ⟨g, cap, cur, e1, hb, ?_, r⟩
    rw [hg.block g (ltBlock hh) ?_]
    · exact hh
    · intro e
      rcases hv.2 with ⟨e2, -⟩ | ⟨g', cap', cur', e2, -, hh', -⟩
      · rw [e2] at e; simp [Value.ownBlock] at e
      · rw [e2] at e
        simp only [Value.ownBlock, Option.some.injEq] at e
        rw [← e, hh] at hh'
        simp at hh'
def Re.pl (x : Re) : Pl := ⟨x.main, x.deep, x.of_, x.others⟩
/-- What branch leaves. -/
structure BranchEnd (g B : Nat) (x : Re) (E : List En) (O : List Pl) (w : World) (e : Ending) (w' : World) : Prop where
  ex : (pkR x.rest ≠ 40 ∧ e = fltP x.at_) ∨ (pkR x.rest = 40 ∧ mvR (pkR (Re.skip x.on.rest.size x.on).rest) = false ∧ e = fltP (Re.skip x.on.rest.size x.on).at_) ∨
    (pkR x.rest = 40 ∧ mvR (pkR (Re.skip x.on.rest.size x.on).rest) = true ∧ ∃ v, (∃ a, ({ Re.skip x.on.rest.size x.on with open_ := v } : Re).noteF = .error a ∧ e = fltP a) ∨
      (∃ y mv cm v2, ({ Re.skip x.on.rest.size x.on with open_ := v } : Re).noteF = .ok (y, mv, cm) ∧ e = .returned (.tuple #[]) ∧ RSt w' g B { y.count x.deep with kept := v2, main := x.n, deep := x.deep, of_ := x.of_, others := false } (if x.n < 1000 then E ++ [⟨mv, cm, x.of_⟩] else E) (O ++ [x.pl])))
  low : Bb g B w w'

set_option maxHeartbeats 4000000 in
set_option maxRecDepth 100000 in
theorem branch_any (g B : Nat) (x : Re) (E : List En) (O : List Pl) (w : World) (h : RSt w g B x E O) (h2 : 2 ≤ g) (hT : Lib.Utf8Tabs 0 1 w) (ha : 0 ≤ x.at_ ∧ x.at_ + (x.rest.size : Int) ≤ 4000000) (hn : 0 ≤ x.n ∧ x.n ≤ 4000000) (hE : E.length ≤ 4000000) (hO : O.length ≤ 4000000) :
    Calls Tryd.prog 23 #[.pointer (some ⟨g, 0, none⟩)] w fun e w' => BranchEnd g B x E O w e w' := by
  have HTK := hide (take_any g 40 x w h.re hT (by decide) ⟨ha.1, by omega⟩)
  have HH := hide h
  have HT := hide hT
  have hgw := h.re.lt
  have HHB := hide h.hB
  clear h hT
  go_enter Tryd.func23, Tryd.ntmps23
  go_wp2_with fail
  refine (unhide HTK).mono ?_
  rintro e w2 ⟨hex, hbu⟩
  rcases hex with ⟨hp, rfl, hx2⟩ | ⟨hp, rfl⟩
  case inr =>
    have HLB := hide (hbu.bb (unhide HHB).2)
    have HP := hide hp
    clear hbu hp
    unfold fltP
    go_wp2
    simp only [bodyPost, true_and]
    exact ⟨Or.inl ⟨unhide HP, rfl⟩, unhide HLB⟩
  case inl =>
    obtain ⟨k1, k2⟩ := pk_ascii x.rest (by omega) (by omega)
    have hos := on_size x
    have hoa : x.on.at_ = x.at_ + 1 := rfl
    have ht2 := Utf8Tabs_bu (unhide HT) hbu hgw h2
    have hbl := blanks_any g x.on w2 hx2 h2 ht2 ⟨by omega, by omega⟩
    have hzb := skip_bounds x.on.rest.size x.on (by omega)
    have hzs := skip_same x.on.rest.size x.on
    obtain ⟨z, hz⟩ : ∃ z, z = Re.skip x.on.rest.size x.on := ⟨_, rfl⟩
    rw [← hz] at hbl hzb hzs
    have HBL := hide hbl
    have HZ := hide hz
    have HZS := hide hzs
    have HP := hide hp
    have HBU := hide hbu
    clear hbl hz hzs hp hbu ht2 hx2
    go_wp2_with fail
    refine (unhide HBL).mono ?_
    rintro e w3 ⟨rfl, hz3, hbu3⟩
    have hbuw3 := (unhide HBU).trans hbu3
    have ht3 := Utf8Tabs_bu (unhide HT) hbuw3 hgw h2
    obtain ⟨P, hP⟩ : ∃ P, P = pkR z.rest := ⟨_, rfl⟩
    have hpk := peek_any g z w3 hz3 ht3
    rw [← hP] at hpk
    have HPK := hide hpk
    have HZ3 := hide hz3
    have HBUW3 := hide hbuw3
    have HPP := hide hP
    clear hpk hz3 hbuw3 ht3 hbu3 hP
    go_wp2_with fail
    refine (unhide HPK).mono ?_
    rintro e w4 ⟨rfl, hb4⟩
    have hz4 := (unhide HZ3).bu hb4
    have hbuw4 := (unhide HBUW3).trans (Bu.of hb4)
    have HZ4 := hide hz4
    have HBUW4 := hide hbuw4
    clear hb4 hz4 hbuw4
    go_wp2_with fail
    refine (isOfMove_any _ _).mono ?_
    rintro e w5 ⟨rfl, rfl⟩
    cases hmv : mvR P with
    | false =>
      have HMV : Hid (mvR (pkR (Re.skip x.on.rest.size x.on).rest) = false) := hide (by rw [← unhide HZ, ← unhide HPP]; exact hmv)
      have HFA := hide (fail_any g z _ (unhide HZ4))
      have HLB := hide ((unhide HBUW4).bb (unhide HHB).2)
      clear hmv
      go_wp2_with fail
      refine (unhide HFA).mono ?_
      rintro e w6 ⟨rfl, rfl⟩
      go_wp2
      simp only [bodyPost, true_and]
      exact ⟨Or.inr (Or.inl ⟨unhide HP, unhide HMV, by rw [← unhide HZ]; rfl⟩), unhide HLB⟩
    | true =>
      have HMV : Hid (mvR (pkR (Re.skip x.on.rest.size x.on).rest) = true) := hide (by rw [← unhide HZ, ← unhide HPP]; exact hmv)
      obtain ⟨s1, s2, s3, s4, s5, s6, s7, s8⟩ := unhide HZS
      have hrs : RSt w5 g B z E O := (unhide HH).bu (unhide HBUW4) (unhide HZ4) s1 s2
      obtain ⟨hre5, hk5, ho5, hB5⟩ := hrs
      obtain ⟨qo, qn, qc, hov⟩ := row_slice ho5
      obtain ⟨-, -, -, -, -, c5, c6, c7, c8, c9⟩ := hre5.cells
      rw [hov] at c9 ho5
      have hg5 : g < w5.heap.size := hre5.lt
      obtain ⟨o8, ho8⟩ : ∃ o8, o8 = Obj.cells #[.int .i64 z.main, .int .i64 z.deep, .int .i64 z.of_, .bool z.others] 33 := ⟨_, rfl⟩
      have hba : Below w5.heap.size w5 (w5.alloc o8) := (Below.refl _ _).alloc (Nat.le_refl _) _
      have c9a : (w5.alloc o8).cell? ⟨g, 9, none⟩ = some (.slice qo qn qc) := (hba.cell (p := ⟨g, 9, none⟩) hg5).trans c9
      have HC1 : Hid (∀ j v, [Value.int .i64 z.main, .int .i64 z.deep, .int .i64 z.of_, .bool z.others][j]? = some v → (w5.alloc o8).drew.cell? ((⟨w5.heap.size, 0, none⟩ : Addr).add j) = some v) := by
        refine hide fun j v hj => ?_
        rw [ho8]
        match j, hj with
        | 0, hj => simp at hj; subst hj; simp [Addr.add]
        | 1, hj => simp at hj; subst hj; simp [Addr.add]
        | 2, hj => simp at hj; subst hj; simp [Addr.add]
        | 3, hj => simp at hj; subst hj; simp [Addr.add]
      have HC2 : Hid (∀ v ∈ [Value.int .i64 z.main, .int .i64 z.deep, .int .i64 z.of_, .bool z.others], v.oneCell' = true) := by
        refine hide fun v hv => ?_
        simp only [List.mem_cons, List.not_mem_nil, or_false] at hv
        rcases hv with rfl | rfl | rfl | rfl <;> rfl
      have HC3 : Hid (O.length + 1 ≤ maxLen) := by refine hide ?_; unfold maxLen; omega
      have HC4 : Hid ((O.length + 1) * 32 ≤ 140737488355328) := by refine hide ?_; omega
      have HC5 : Hid (B ≤ (w5.alloc o8).drew.heap.size) := by refine hide ?_; show B ≤ (w5.alloc o8).heap.size; simp; omega
      have HROW : Hid ((w5.alloc o8).drew.ownsRow B 33 4 (.slice qo qn qc) O.length (ovals O)) := hide (ho5.alloc o8)
      have HFIN : Hid (∀ v' w9, w9.ownsRow B 33 4 v' (O.length + 1) (ovals O ++ [Value.int .i64 z.main, .int .i64 z.deep, .int .i64 z.of_, .bool z.others]) → (w5.alloc o8).drew.grownBy w9 (Value.slice qo qn qc).ownBlock → RSt (w9.setCell ⟨g, 9, none⟩ v') g B { z with open_ := v' } E (O ++ [z.pl]) ∧ Bb g B w (w9.setCell ⟨g, 9, none⟩ v') ∧ (∃ c, w9.cell? ⟨g, 9, none⟩ = some c) ∧ w9.frozen? ⟨g, 9, none⟩ = false) := by
        refine hide fun v' w9 hown9 hgrow => ?_
        have hgrow' : (w5.alloc o8).grownBy w9 (Value.slice qo qn qc).ownBlock := ⟨hgrow.os, hgrow.tape, hgrow.output, hgrow.size, hgrow.block⟩
        have hb89 : Below B (w5.alloc o8) w9 := (Below.refl _ _).grown hgrow' (by simp; omega) (own_low ho5)
        have hre9 := (hre5.bu hba).below hb89 hB5.1
        have hk9 := entry_stay (hk5.alloc o8) (ho5.alloc o8) hgrow'
        have hlow : Bb g B w w9 := (((unhide HBUW4).bb (unhide HHB).2).trans (Bb.of (hba.mono hB5.2))).trans (Bb.of hb89)
        have hgB := hB5.1
        have hs9 : B ≤ w9.heap.size := by have := hb89.size; simp at this; omega
        refine ⟨⟨hre9.set9 v', ?_, ?_, hgB, by rw [size_put]; exact hs9⟩, hlow.put 9 _, ⟨_, hre9.cells.2.2.2.2.2.2.2.2.2⟩, hre9.frozen 9⟩
        · exact row_keep hk9 (fun k hk _ => Below.heap_setCell _ _ _ _ (by simp only; omega))
        · rw [show ({ z with open_ := v' } : Re).open_ = v' from rfl, ovals_snoc, List.length_append]
          exact row_keep hown9 (fun k hk _ => Below.heap_setCell _ _ _ _ (by simp only; omega))
      obtain ⟨i0, hi, hz0, hz1, hz2⟩ := info_parts infoPlace
      subst ho8
      clear hmv hre5 hk5 ho5 hB5 hba hov s1 s2 s3 s4 s5 s6 s7 s8
      go_upto_region 4 with fail
      go_cut [] (fun wc => ∃ v, RSt wc g B { z with open_ := v } E (O ++ [z.pl]) ∧ Bb g B w wc)
      case first =>
        go_region_law (refine step_append_own rfl (.tmp 18) (.tmp 23) 37 rfl B 33 i0 _ 4 32 Tryd.underlying37 hi hz0 hz1 hz2 rfl (by decide) (.slice qo qn qc) O.length (ovals O) (by simp [Act.eval]) (unhide HROW) ⟨w5.heap.size, 0, none⟩ 1 1 [.int .i64 z.main, .int .i64 z.deep, .int .i64 z.of_, .bool z.others] (by simp [Act.eval]) rfl (unhide HC1) (unhide HC2) (unhide HC3) (unhide HC4) (unhide HC5) ?_; intro v' w9 hown9 hgrow9; obtain ⟨hE1, hE2, ⟨q6, hE3⟩, hE4⟩ := unhide HFIN v' w9 hown9 hgrow9; obtain ⟨uo, un', uc', rfl⟩ := row_slice hown9; have HE1 := hide hE1; have HE2 := hide hE2; clear hE1 hE2 hown9 hgrow9)
        all_goals go_wp2_with fail
        all_goals go_meet
        all_goals exact ⟨_, unhide HE1, unhide HE2⟩
      case rest =>
        clear c5 c6 c7 c8 c9 c9a
        obtain ⟨v, hrs, hlow⟩ := hcut
        obtain ⟨X, hX⟩ : ∃ X : Re, X = { z with open_ := v } := ⟨_, rfl⟩
        rw [← hX] at hrs
        have htc : Lib.Utf8Tabs 0 1 wc := ⟨fun c hc => ((hlow.low (Nat.le_of_lt hrs.hB.1)).cell (p := ⟨0, c, none⟩) (by simp only; omega)).trans ((unhide HT).1 c hc), fun i hi => ⟨((hlow.low (Nat.le_of_lt hrs.hB.1)).cell (p := ⟨1, 2 * i, none⟩) (by simp only; omega)).trans ((unhide HT).2 i hi).1, ((hlow.low (Nat.le_of_lt hrs.hB.1)).cell (p := ⟨1, 2 * i + 1, none⟩) (by simp only; omega)).trans ((unhide HT).2 i hi).2⟩⟩
        have hXn : X.n = x.n := by rw [hX]; exact (unhide HZS).2.2.1
        have hXd : X.deep = x.deep := by rw [hX]; exact (unhide HZS).2.2.2.2.2.1
        have hXo : X.of_ = x.of_ := by rw [hX]; exact (unhide HZS).2.2.2.2.2.2.1
        have hXa : 0 ≤ X.at_ ∧ X.at_ + (X.rest.size : Int) ≤ 4000000 := by rw [hX]; exact ⟨hzb.1, by show z.at_ + (z.rest.size : Int) ≤ 4000000; have := hzb.2.1; omega⟩
        have hpl : z.pl = x.pl := by
          unfold Re.pl
          rw [(unhide HZS).2.2.2.2.1, (unhide HZS).2.2.2.2.2.1, (unhide HZS).2.2.2.2.2.2.1, (unhide HZS).2.2.2.2.2.2.2]
          rfl
        rw [hpl] at hrs
        have hXz : ({ Re.skip x.on.rest.size x.on with open_ := v } : Re) = X := by rw [hX, ← unhide HZ]
        have hrd : ∀ n, RSt (wc.drewN n) g B X E (O ++ [x.pl]) := fun n => ⟨hrs.re, hrs.kept, hrs.open_, hrs.hB⟩
        have htd : ∀ n, Lib.Utf8Tabs 0 1 (wc.drewN n) := fun n => htc
        obtain ⟨-, -, -, -, -, -, c6, c7, -⟩ := hrs.re.cells
        rw [hXd] at c6
        rw [hXo] at c7
        have HNT := hide (fun n => note_any g B X E (O ++ [x.pl]) x.of_ x.deep (wc.drewN n) (hrd n) h2 (htd n) hXa (by rw [hXn]; exact hn) hE)
        have HXN := hide hXn
        have HXZ := hide hXz
        have HLW := hide hlow
        clear hrs htc hXn hXd hXo hXa hpl hXz hrd htd hlow hX
        go_wp2
        go_quiet (fail)
        go_wp2_with fail
        refine (unhide HNT _).mono ?_
        rintro e w8 ⟨hex, hlow'⟩
        have hlow : Bb g B w w8 := (unhide HLW).trans ⟨hlow'.os, hlow'.tape, hlow'.output, hlow'.size, hlow'.block⟩
        clear hlow'
        rcases hex with ⟨a, hNe, rfl⟩ | ⟨y, mv, cm, v2, hNo, rfl, hrs⟩
        · have HNE := hide hNe
          clear hNe
          unfold fltP
          go_wp2
          simp only [bodyPost, true_and]
          exact ⟨Or.inr (Or.inr ⟨unhide HP, unhide HMV, v, Or.inl ⟨_, by rw [unhide HXZ]; exact unhide HNE, rfl⟩⟩), hlow⟩
        · rw [unhide HXN] at hrs
          rw [unhide HXN]
          have hre := hrs.re
          have hfin := hre.here x.n x.deep x.of_ false
          obtain ⟨-, -, -, -, -, d5, d6, d7, d8, -⟩ := hre.cells
          have f5 := hre.frozen 5
          have f6 := hre.frozen 6
          have f7 := hre.frozen 7
          have f8 := hre.frozen 8
          have HNO := hide hNo
          have HRS := hide hrs
          have HFF := hide hfin
          obtain ⟨q5, d5⟩ : ∃ q, w8.cell? ⟨g, 5, none⟩ = some q := ⟨_, d5⟩
          obtain ⟨q6, d6⟩ : ∃ q, w8.cell? ⟨g, 6, none⟩ = some q := ⟨_, d6⟩
          obtain ⟨q7, d7⟩ : ∃ q, w8.cell? ⟨g, 7, none⟩ = some q := ⟨_, d7⟩
          obtain ⟨q8, d8⟩ : ∃ q, w8.cell? ⟨g, 8, none⟩ = some q := ⟨_, d8⟩
          clear hNo hrs hre hfin c6 c7
          go_wp2
          go_end0
          refine ⟨Or.inr (Or.inr ⟨unhide HP, unhide HMV, v, Or.inr ⟨y, mv, cm, v2, by rw [unhide HXZ]; exact unhide HNO, rfl, ?_⟩⟩), below_here hlow _ _ _ _⟩
          have hgB := (unhide HRS).hB
          refine ⟨unhide HFF, row_keep (unhide HRS).kept (fun k hk _ => by rw [Below.heap_setCell _ _ _ _ (by simp only; omega), Below.heap_setCell _ _ _ _ (by simp only; omega), Below.heap_setCell _ _ _ _ (by simp only; omega), Below.heap_setCell _ _ _ _ (by simp only; omega)]), row_keep (unhide HRS).open_ (fun k hk _ => by rw [Below.heap_setCell _ _ _ _ (by simp only; omega), Below.heap_setCell _ _ _ _ (by simp only; omega), Below.heap_setCell _ _ _ _ (by simp only; omega), Below.heap_setCell _ _ _ _ (by simp only; omega)]), hgB.1, ?_⟩
          rw [size_put, size_put, size_put, size_put]
          exact hgB.2
end Go.Proofs.YtdibjdpnleepmacDoor
