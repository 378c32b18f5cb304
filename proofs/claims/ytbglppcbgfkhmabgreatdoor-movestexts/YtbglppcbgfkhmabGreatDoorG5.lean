/-
  gamelaw.MovesTexts, walked for whatever comes in.
-/
import Derived.Test.YtbglppcbgfkhmabGreatDoorJ40
import Derived.Test.YtbglppcbgfkhmabGreatDoorJ43
import Derived.Test.YtbglppcbgfkhmabGreatDoorJ47
import Derived.Test.YtbglppcbgfkhmabGreatDoorJ48
namespace Go.Proofs.YtbglppcbgfkhmabGreatDoor
open Go.RowKit

/-- The document's text, at a move of the list. -/
theorem rText_M {ps : List Pc} {dr : Bool} {lo : Nat} {li : Int} {re : Nat} {W' H' T' : Nat} {C A B : ByteArray} (hf : AtF ps W' H' T' C A B W' H' T') {m : Mv} (hm : m ∈ movesL W' H' T' C A B ps dr lo li re) (u : World) :
    Calls Tryz.prog 19 #[.agg #[.int .i64 (W' : Int), .int .i64 (H' : Int), .string C, .int .i64 (T' : Int), .string A, .string B], .agg #[.int .i64 m.f, .int .i64 (m.t : Int), .int .u8 (m.c : Int)]] u fun e w' => e = .returned (.string ⟨(txM W' C m).toArray⟩) ∧ Below u.heap.size u w' := by
  obtain ⟨f1, f2, f3⟩ := (mov_is hm).facts
  have h8 : C.size ≤ W' * 8 := by rw [hf.c]; exact Nat.mul_le_mul (Nat.le_refl _) hf.h1.2
  have hcc : m.c.toUInt8.toNat = m.c := u8_back f3
  unfold txM
  rcases f2 with h | ⟨h1, h2⟩
  · have := rText_drop W' H' T' C A B m.t m.c.toUInt8 u hf.w1 (by omega)
    rw [hcc] at this
    rw [h]
    exact this
  · obtain ⟨fr, hfr⟩ : ∃ fr : Nat, m.f = fr := ⟨m.f.toNat, by omega⟩
    have := rText_go W' H' T' C A B fr m.t m.c.toUInt8 u hf.w1 (by omega) (by omega) f1
    rw [hcc] at this
    rw [hfr]
    exact this
/-- What the document makes of a move of the list. -/
theorem made_P {W0 H0 T0 : Int} {C0 A0 B0 : List UInt8} {ps : List Pc} {lo re : Nat} {li pl : Int} {dr : Bool} {p : Po} (hat : atB W0 H0 C0 T0 A0 B0 ps lo li re pl p.W p.H p.C.data.toList p.T p.A.data.toList p.B.data.toList = true) {m : Mv} (hm : m ∈ movP ps dr lo li re p) (v0 v1 v2 v3 v4 v5 v6 v8 v9 v10 v11 v12 : Value) (u : World) :
    Calls Tryz.prog 15 #[.agg #[v0, v1, v2, v3, v4, v5, v6, .bool dr, v8, v9, v10, v11, v12], .agg #[.int .i64 p.W, .int .i64 p.H, .string p.C, .int .i64 p.T, .string p.A, .string p.B], .agg #[.int .i64 m.f, .int .i64 (m.t : Int), .int .u8 (m.c : Int)]] u fun e w' => e = .returned (.agg #[.int .i64 (behP dr p m).W, .int .i64 (behP dr p m).H, .string (behP dr p m).C, .int .i64 (behP dr p m).T, .string (behP dr p m).A, .string (behP dr p m).B]) ∧ Below u.heap.size u w' := by
  obtain ⟨W', H', T', hf⟩ := at_facts hat
  have hg := at_more hat hf
  rw [hf.movs] at hm
  have hmv := mov_is hm
  obtain ⟨f1, f2, f3⟩ := hmv.facts
  have hcc : m.c.toUInt8.toNat = m.c := u8_back f3
  have hs64 : p.C.size ≤ 64 := by rw [hf.c]; exact Nat.mul_le_mul hf.w1.2 hf.h1.2
  have hcell : ∀ i, i < p.C.size → cellB (cellN p.C i : Nat) = true ∧ cellN p.C i < 256 := fun i hi => hg.cell i (by rw [← hf.c]; exact hi)
  have horT : Ord (handOf T' p.A p.B).data.toList ∧ ∀ a ∈ (handOf T' p.A p.B).data.toList, capB a.toNat = true := by
    unfold handOf
    split
    · exact hg.oa
    · exact hg.ob
  have hfacts : capB (m.c.toUInt8.toNat : Int) = true ∧ ((m.f = -1 ∧ cellN p.C m.t = 46 ∧ m.c.toUInt8 ∈ (handOf T' p.A p.B).data.toList) ∨ (∃ fr : Nat, m.f = fr ∧ fr < p.C.size ∧ fr ≠ m.t)) := by
    cases hmv with
    | drop h1 h2 h3 h4 h5 =>
      obtain ⟨a, ha1, ha2⟩ := h5
      have hca : m.c.toUInt8 = a := UInt8.toNat_inj.1 (by rw [hcc, ha2])
      exact ⟨by rw [hca]; exact horT.2 a ha1, .inl ⟨h1, h3, by rw [hca]; exact ha1⟩⟩
    | go fr h1 h2 h3 h4 h5 h6 =>
      have hne : cellN p.C fr ≠ 46 := by
        intro e
        rw [e] at h4
        simp [ownB] at h4
      have hW2 : fr < W' * H' := by rw [← hf.c]; exact h2
      have hu := (up_facts (cellN p.C fr) (hcell fr h2).2 (hcell fr h2).1 hne).1
      have hft := can_ne hf.t1 hW2 hg.cell h4 h6
      refine ⟨?_, .inr ⟨fr, h1, h2, hft⟩⟩
      rw [hcc, h5]
      simp only [capB, Bool.and_eq_true, decide_eq_true_eq]
      omega
  have hmd := rMade_any W' H' T' p.C p.A p.B v0 v1 v2 v3 v4 v5 v6 v8 v9 v10 v11 v12 dr m.f m.t m.c.toUInt8 u hf.t1 hf.a hf.b hs64 f1 hfacts.1 horT.1 hcell hfacts.2
  rw [hcc, ← hf.w, ← hf.h, ← hf.t] at hmd
  refine hmd.mono fun e w' hh => ⟨hh.1.trans ?_, hh.2⟩
  have hT := hf.t
  have hTn : p.T.toNat = T' := by rw [hT]; rfl
  unfold behP
  rw [hTn]
  rcases (by have := hf.t1; omega : T' = 0 ∨ T' = 1) with rfl | rfl
  · have hT0 : p.T = 0 := hT
    rw [if_pos rfl, if_pos rfl, if_pos hT0, if_pos hT0]
    rfl
  · have hT1 : ¬ p.T = 0 := by rw [hT]; omega
    rw [if_neg (by omega), if_neg (by omega), if_neg hT1, if_neg hT1]
    rfl

set_option maxHeartbeats 2000000 in
theorem movesTexts_any (W0 H0 T0 : Int) (C0 A0 B0 : ByteArray) (ao : Option Addr) (cap : Nat) (ps : List Pc) (dr st : Bool) (lo re : Nat) (li pl : Int) (W H T : Int) (C A B : ByteArray) (f t : Int) (c : Nat) (s : ByteArray) (d : Int) (mx : Int) (w : World) (hm : w.cell? ⟨0, 0, none⟩ = some (.int .i64 mx)) (hC0 : C0.size ≤ maxLen) (hA0 : A0.size ≤ maxLen) (hB0 : B0.size ≤ maxLen) (hlo : lo < 256) (hre : re < 256) (h : isPcs w ao cap ps) (hC : C.size ≤ maxLen) (hA : A.size ≤ maxLen) (hB : B.size ≤ maxLen) :
    Calls Tryz.prog 4 #[.agg #[.int .i64 W0, .int .i64 H0, .string C0, .int .i64 T0, .string A0, .string B0, .slice ao ps.length cap, .bool dr, .int .u8 (lo : Int), .int .i64 li, .int .u8 (re : Int), .bool st, .int .i64 pl], .agg #[.int .i64 W, .int .i64 H, .string C, .int .i64 T, .string A, .string B], .agg #[.int .i64 f, .int .i64 t, .int .u8 (c : Int)], .string s, .int .i64 d] w fun e w' => e = .returned (.bool true) ∧ Below w.heap.size w w' := by
  have hps : ∀ u, Below w.heap.size w u → isPcs u ao cap ps := fun u hu => h.below hu (Nat.le_refl _)
  have hmu : ∀ u, Below w.heap.size w u → u.cell? ⟨0, 0, none⟩ = some (.int .i64 mx) := fun u hu => (hu.cell (p := ⟨0, 0, none⟩) (World.block_lt_of_cell? w ⟨0, 0, none⟩ hm)).trans hm
  have hOF := fun u (hu : Below w.heap.size w u) => rOf_any W0 H0 T0 C0 A0 B0 ao cap ps dr st lo re li pl W H T C A B u hA0 hB0 hlo hre (hps u hu) hA hB
  have hCK := fun u (hu : Below w.heap.size w u) => rCheckPosition_any W0 H0 T0 C0 A0 B0 ao cap ps dr st lo re li pl W H T C A B u hC0 hA0 hB0 hlo hre (hps u hu) hC hA hB
  cases hat : atB W0 H0 C0.data.toList T0 A0.data.toList B0.data.toList ps lo li re pl W H C.data.toList T A.data.toList B.data.toList with
  | false =>
    rw [hat] at hOF hCK
    exact texts_no (.int .i64 W0) (.int .i64 H0) (.string C0) (.int .i64 T0) (.string A0) (.string B0) (.slice ao ps.length cap) (.bool dr) (.int .u8 (lo : Int)) (.int .i64 li) (.int .u8 (re : Int)) (.bool st) (.int .i64 pl) W H T C A B f t c s d w
      (fun u hu => Text_err _ _ _ _ _ _ _ _ _ _ _ _ _ W H T C A B f t c 1 u rfl (fun v hv => check_no W0 H0 T0 C0 A0 B0 ao cap ps dr st lo re li pl W H T C A B f t c v hC0 hA0 hB0 hlo hre (hps v (hu.trans (hv.mono hu.size))) hC hA hB hat))
      (fun u hu => Read_no _ _ _ _ _ _ _ _ _ _ _ _ _ W H T C A B s u (fun v hv => hCK v (hu.trans (hv.mono hu.size))))
      (fun u hu => Count_no W0 H0 T0 C0 A0 B0 ao cap ps dr st lo re li pl W H T C A B d u hC0 hA0 hB0 hlo hre (hps u hu) hC hA hB hat) hOF
  | true =>
    rw [hat] at hOF hCK
    obtain ⟨W', H', T', hf⟩ := at_facts hat
    have hg := at_more hat hf
    obtain rfl := hf.w
    obtain rfl := hf.h
    obtain rfl := hf.t
    have h64 : C.size ≤ 64 := by rw [hf.c]; exact Nat.mul_le_mul hf.w1.2 hf.h1.2
    obtain ⟨p, hp⟩ : ∃ p : Po, p = ⟨W', H', C, T', A, B⟩ := ⟨_, rfl⟩
    have hpF : PoF ps p := by rw [hp]; exact ⟨W', H', T', hf⟩
    have hLe : movesL W' H' T' C A B ps dr lo li re = movP ps dr lo li re p := by rw [hp]; rfl
    have hatp : atB W0 H0 C0.data.toList T0 A0.data.toList B0.data.toList ps lo li re pl p.W p.H p.C.data.toList p.T p.A.data.toList p.B.data.toList = true := by rw [hp]; exact hat
    have hck := fun u (hu : Below w.heap.size w u) => check_ok W0 H0 T0 C0 A0 B0 ao cap ps dr st lo re li pl W' H' T' C A B f t c u hC0 hA0 hB0 hlo hre (hps u hu) hC hA hB hat W' H' T' hf
    have hRM := fun u (hu : Below w.heap.size w u) => rMoves_any W' H' T' C A B W0 H0 T0 C0 A0 B0 ao cap ps dr st lo re li pl u (hps u hu) hf.ok hf.t1 hf.a hf.b hf.w1 hf.h1 hf.c hg.cell hg.let_ hlo hre hg.loc hg.rec_ hg.li
    have hinj : ∀ x ∈ movesL W' H' T' C A B ps dr lo li re, ∀ y ∈ movesL W' H' T' C A B ps dr lo li re, txM W' C x = txM W' C y → x = y := fun x hx y hy e => txM_inj hf.w1 h64 (mov_is hx).facts (mov_is hy).facts e
    have hll : (movesL W' H' T' C A B ps dr lo li re).length ≤ 4608 := by rw [hLe]; exact mov_len hpF
    -- the ways, by the document
    have hPA : ∀ i : Nat, i ≤ 6 → ∀ u, Below w.heap.size w u → Calls Tryz.prog 20 #[.agg #[.int .i64 W0, .int .i64 H0, .string C0, .int .i64 T0, .string A0, .string B0, .slice ao ps.length cap, .bool dr, .int .u8 (lo : Int), .int .i64 li, .int .u8 (re : Int), .bool st, .int .i64 pl], .agg #[.int .i64 (W' : Int), .int .i64 (H' : Int), .string C, .int .i64 (T' : Int), .string A, .string B], .int .i64 (i : Int)] u fun e w' => e = .returned (.int .i64 (pathsN (nextP ps dr lo li re) i p : Nat)) ∧ Below u.heap.size u w' := fun i hi u hu => by
      have := paths_walk (fun q => atB W0 H0 C0.data.toList T0 A0.data.toList B0.data.toList ps lo li re pl q.W q.H q.C.data.toList q.T q.A.data.toList q.B.data.toList = true) (movP ps dr lo li re) (behP dr) (.int .i64 W0) (.int .i64 H0) (.string C0) (.int .i64 T0) (.string A0) (.string B0) (.slice ao ps.length cap) (.bool dr) (.int .u8 (lo : Int)) (.int .i64 li) (.int .u8 (re : Int)) (.bool st) (.int .i64 pl) w
        (fun q hq => mov_len (by obtain ⟨a1, a2, a3, hfq⟩ := at_facts hq; exact ⟨a1, a2, a3, hfq⟩))
        (fun q hq v hv => by
          obtain ⟨a1, a2, a3, hfq⟩ := at_facts hq
          have hgq := at_more hq hfq
          have := rMoves_any a1 a2 a3 q.C q.A q.B W0 H0 T0 C0 A0 B0 ao cap ps dr st lo re li pl v (hps v hv) hfq.ok hfq.t1 hfq.a hfq.b hfq.w1 hfq.h1 hfq.c hgq.cell hgq.let_ hlo hre hgq.loc hgq.rec_ hgq.li
          rw [← hfq.w, ← hfq.h, ← hfq.t] at this
          rw [hfq.movs]
          exact this)
        (fun q hq m hmq => ⟨at_beh hq hmq, fun v _ => made_P hq hmq _ _ _ _ _ _ _ _ _ _ _ _ v⟩) i hi p hatp u hu
      rw [hp] at this ⊢
      exact this
    have hMT := fun m (hmm : m ∈ movesL W' H' T' C A B ps dr lo li re) (u : World) => rText_M hf hmm u
    obtain ⟨S, E, hTX, hM0⟩ : ∃ (S : ByteArray) (E : Int), (∀ u, Below w.heap.size w u → Calls Tryz.prog 16 #[.agg #[.int .i64 W0, .int .i64 H0, .string C0, .int .i64 T0, .string A0, .string B0, .slice ao ps.length cap, .bool dr, .int .u8 (lo : Int), .int .i64 li, .int .u8 (re : Int), .bool st, .int .i64 pl], .agg #[.int .i64 (W' : Int), .int .i64 (H' : Int), .string C, .int .i64 (T' : Int), .string A, .string B], .agg #[.int .i64 f, .int .i64 t, .int .u8 (c : Int)]] u fun e w' => e = .returned (.tuple #[.string S, .int .i64 E]) ∧ Below u.heap.size u w') ∧
        ((inM f t c (movesL W' H' T' C A B ps dr lo li re) = true ∧ E = 0 ∧ ∀ u, Calls Tryz.prog 19 #[.agg #[.int .i64 (W' : Int), .int .i64 (H' : Int), .string C, .int .i64 (T' : Int), .string A, .string B], .agg #[.int .i64 f, .int .i64 t, .int .u8 (c : Int)]] u fun e w' => e = .returned (.string S) ∧ Below u.heap.size u w') ∨ (inM f t c (movesL W' H' T' C A B ps dr lo li re) = false ∧ E = 5 ∧ S = ⟨#[]⟩)) := by
      cases hin : inM f t c (movesL W' H' T' C A B ps dr lo li re) with
      | true =>
        rw [hin, if_pos rfl] at hck
        obtain ⟨m, hmem, he⟩ := List.any_eq_true.1 (show (movesL W' H' T' C A B ps dr lo li re).any (eqM f t c) = true from hin)
        unfold eqM at he
        simp only [Bool.and_eq_true, decide_eq_true_eq] at he
        obtain ⟨⟨hmf, hmt⟩, hmc⟩ := he
        subst hmf
        subst hmt
        subst hmc
        exact ⟨_, 0, fun u hu => Text_go _ _ _ _ _ _ _ _ _ _ _ _ _ _ _ _ C A B m.f m.t m.c _ u (fun v hv => hck v (hu.trans (hv.mono hu.size))) (fun v => text_M hf hmem v), .inl ⟨rfl, rfl, fun u => rText_M hf hmem u⟩⟩
      | false =>
        rw [hin, if_neg (by simp)] at hck
        exact ⟨⟨#[]⟩, 5, fun u hu => Text_err _ _ _ _ _ _ _ _ _ _ _ _ _ _ _ _ C A B f t c 5 u rfl (fun v hv => hck v (hu.trans (hv.mono hu.size))), .inr ⟨rfl, rfl, rfl⟩⟩
    have hRD := fun u (hu : Below w.heap.size w u) => Read_ok (.int .i64 W0) (.int .i64 H0) (.string C0) (.int .i64 T0) (.string A0) (.string B0) (.slice ao ps.length cap) (.bool dr) (.int .u8 (lo : Int)) (.int .i64 li) (.int .u8 (re : Int)) (.bool st) (.int .i64 pl) W' H' T' C A B s (movesL W' H' T' C A B ps dr lo li re) (txM W' C) u
      (fun v hv => hCK v (hu.trans (hv.mono hu.size)))
      (fun v hv => list_any W' H' T' C A B _ _ _ _ _ _ _ _ ao cap ps dr lo re li v (hps v (hu.trans (hv.mono hu.size))) hf.ok hlo hre hf.t1 hf.a hf.b hf.w1 hf.h1 hf.c)
      (fun m2 hm2 v => text_M hf hm2 v)
    have hRL := read_last (tx := txM W' C) (s := s) hinj
    have hPb : ∀ i : Nat, i ≤ 6 → pathsN (nextP ps dr lo li re) i p ≤ 800000 := fun i hi => by
      have := pathsN_le (nextP ps dr lo li re) i p
      omega
    obtain ⟨n1, g1, hCN, hRG, hCT⟩ : ∃ n1 g1 : Int, (∀ u, Below w.heap.size w u → Calls Tryz.prog 18 #[.agg #[.int .i64 W0, .int .i64 H0, .string C0, .int .i64 T0, .string A0, .string B0, .slice ao ps.length cap, .bool dr, .int .u8 (lo : Int), .int .i64 li, .int .u8 (re : Int), .bool st, .int .i64 pl], .agg #[.int .i64 (W' : Int), .int .i64 (H' : Int), .string C, .int .i64 (T' : Int), .string A, .string B], .int .i64 d] u fun e w' => e = .returned (.tuple #[.int .i64 n1, .int .i64 g1]) ∧ Below u.heap.size u w') ∧ (d < 0 ∨ 6 < d → n1 = 0 ∧ g1 = 4) ∧
        (∀ D : Nat, d = D → D ≤ 6 → ((∃ i : Nat, i ≤ D ∧ 100000 < pathsN (nextP ps dr lo li re) i p) ∧ n1 = 0 ∧ g1 = 2) ∨ ((∀ i : Nat, i ≤ D → pathsN (nextP ps dr lo li re) i p ≤ 100000) ∧ n1 = (pathsN (nextP ps dr lo li re) D p : Nat) ∧ g1 = 0)) := by
      by_cases hd : d < 0 ∨ 6 < d
      · exact ⟨0, 4, fun u hu => Count_range W0 H0 T0 C0 A0 B0 ao cap ps dr st lo re li pl W' H' T' C A B d u hC0 hA0 hB0 hlo hre (hps u hu) hC hA hB hat hd, fun _ => ⟨rfl, rfl⟩, fun D hD hD6 => by omega⟩
      · obtain ⟨D, hD⟩ : ∃ D : Nat, d = D := ⟨d.toNat, by omega⟩
        have hD6 : D ≤ 6 := by omega
        have hCO := fun u (hu : Below w.heap.size w u) => Count_ok W0 H0 T0 C0 A0 B0 ao cap ps dr st lo re li pl W' H' T' C A B D mx u (hmu u hu) hC0 hA0 hB0 hlo hre (hps u hu) hC hA hB hat ⟨W', H', T', hf⟩ hD6
        rw [← hp, ← hD] at hCO
        by_cases hmany : manyP ps dr lo li re p D
        · refine ⟨0, 2, fun u hu => (hCO u hu).mono fun e w' ⟨h1, h2⟩ => ⟨?_, h1⟩, fun h => absurd h hd, fun D' hD' _ => .inl ⟨?_, rfl, rfl⟩⟩
          · rcases h2 with ⟨_, h3⟩ | ⟨h2, _⟩
            · exact absurd hmany h3
            · exact h2
          · obtain rfl : D' = D := by omega
            obtain ⟨i, hi, hl⟩ := hmany
            exact ⟨i, hi, many_paths.2 hl⟩
        · refine ⟨((endsP ps dr lo li re D p).length : Nat), 0, fun u hu => (hCO u hu).mono fun e w' ⟨h1, h2⟩ => ⟨?_, h1⟩, fun h => absurd h hd, fun D' hD' _ => .inr ⟨?_, ?_, rfl⟩⟩
          · rcases h2 with ⟨h2, _⟩ | ⟨_, h3⟩
            · exact h2
            · exact absurd h3 hmany
          · obtain rfl : D' = D := by omega
            intro i hi
            rcases Nat.lt_or_ge 100000 (pathsN (nextP ps dr lo li re) i p) with hb | hb
            · exact absurd ⟨i, hi, many_paths.1 hb⟩ hmany
            · exact hb
          · obtain rfl : D' = D := by omega
            have hle : pathsN (nextP ps dr lo li re) D' p ≤ 100000 := by
              rcases Nat.lt_or_ge 100000 (pathsN (nextP ps dr lo li re) D' p) with hb | hb
              · exact absurd ⟨D', Nat.le_refl _, many_paths.1 hb⟩ hmany
              · exact hb
            rw [(paths_true D' p).1 hle]
    obtain ⟨ra, hra⟩ : ∃ ra, ra = readM (txM W' C) s (movesL W' H' T' C A B ps dr lo li re) := ⟨_, rfl⟩
    rw [← hra] at hRD hRL
    exact texts_yes (.int .i64 W0) (.int .i64 H0) (.string C0) (.int .i64 T0) (.string A0) (.string B0) (.slice ao ps.length cap) (.bool dr) (.int .u8 (lo : Int)) (.int .i64 li) (.int .u8 (re : Int)) (.bool st) (.int .i64 pl) W' H' T' C A B f t c s d (movesL W' H' T' C A B ps dr lo li re) (txM W' C) S E ra.1 ra.2 n1 g1 (fun i => pathsN (nextP ps dr lo li re) i p) w hll hTX hRD hCN hOF hRM hMT hM0 hRL hRG hPb hPA hCT
end Go.Proofs.YtbglppcbgfkhmabGreatDoor
