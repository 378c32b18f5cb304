/-
  Mathematics: by a move of the other one the winner does not win.
  The game's rules are such a game: the winner does not win by a move of the other one.
  The reference's In.
  gameref.Shows, over what is known of gameref.Ends, gameref.Moves, gameref.In and gameref.Made.
-/
import Derived.Test.YtlogengkhlmcbaaGreatDoorJ38
import Derived.Test.YtlogengkhlmcbaaGreatDoorJ23
import Derived.Test.YtlogengkhlmcbaaGreatDoorJ39
import Derived.Test.YtlogengkhlmcbaaGreatDoorJ37
import Derived.Test.YtlogengkhlmcbaaGreatDoorJ15
import Derived.Test.YtlogengkhlmcbaaGreatDoorJ13
import Derived.Test.YtlogengkhlmcbaaGreatDoorK4
import Derived.Test.YtlogengkhlmcbaaGreatDoorJ30
namespace Go.Proofs.YtlogengkhlmcbaaGreatDoor

theorem own_ne46 {T c : Nat} (h : ownB T c = true) : c ≠ 46 := by
  unfold ownB at h
  simp only [Bool.and_eq_true, Bool.not_eq_true', decide_eq_false_iff_not] at h
  exact h.1
theorem own_letter : ∀ l : Nat, l < 256 → capB (l : Int) = true → ∀ T : Nat, T ≤ 1 → ownB T (letN T l) = true ∧ ownB (1 - T) (letN T l) = false := by
  have h : ∀ l : Fin 256, capB ((l.val : Nat) : Int) = true → ∀ T : Fin 2, ownB T.val (letN T.val l.val) = true ∧ ownB (1 - T.val) (letN T.val l.val) = false := by decide +kernel
  intro l hl hc T hT
  exact h ⟨l, hl⟩ hc ⟨T, by omega⟩
theorem own_not_both : ∀ c : Nat, c < 256 → cellB (c : Int) = true → ∀ T : Nat, T ≤ 1 → ownB T c = true → ownB (1 - T) c = false := by
  have h : ∀ c : Fin 256, cellB ((c.val : Nat) : Int) = true → ∀ T : Fin 2, ownB T.val c.val = true → ownB (1 - T.val) c.val = false := by decide +kernel
  intro c hl hc T hT
  exact h ⟨c, hl⟩ hc ⟨T, by omega⟩

/-- What a move of T's does to the board. -/
structure Plied (W H T : Nat) (C C' : ByteArray) : Prop where
  less : ∀ i, i < W * H → ownB (1 - T) (cellN C' i) = true → cellN C' i = cellN C i
  kept : ∀ l : Nat, l < 256 → capB (l : Int) = true → (∃ i, i < W * H ∧ cellN C i = letN T l) → ∃ i, i < W * H ∧ cellN C' i = letN T l

theorem beh_cellN {C : ByteArray} {f : Int} {t : Nat} {x : UInt8} (hf : f = -1 ∨ (0 ≤ f ∧ f ≠ (t : Int))) {i : Nat} (hi : i < C.size) : cellN ⟨(behC C.data.toList f t x).toArray⟩ i = if (i : Int) = f then 46 else if i = t then x.toNat else cellN C i := by
  have hl : i < C.data.toList.length := by simpa using hi
  have h := behC_at (x := x) hf hl
  unfold cellN
  have e1 : (⟨(behC C.data.toList f t x).toArray⟩ : ByteArray).get! i = (behC C.data.toList f t x)[i]! := by
    show ((behC C.data.toList f t x).toArray)[i]! = _
    simp
  rw [e1, List.getElem!_eq_getElem?_getD, h]
  simp only [Option.getD_some]
  have e2 : C.get! i = C.data.toList[i] := by
    show C.data[i]! = _
    rw [getElem!_pos C.data i (by simpa using hi)]
    simp
  rw [e2]
  split
  · rfl
  · split <;> rfl

theorem move_plied {W H T : Nat} {C A B : ByteArray} {ps : List Pc} {dr : Bool} {m : Mv} (hT : T ≤ 1) (hC : C.size = W * H) (hv : ∀ c, c < W * H → cellB (cellN C c : Nat) = true ∧ cellN C c < 256) (hh : ∀ a ∈ (handOf T A B).data.toList, capB (a.toNat : Nat) = true) (hm : MvIs W H T C A B ps dr m) :
    Plied W H T C ⟨(behC C.data.toList m.f m.t (letN T m.c).toUInt8).toArray⟩ := by
  have h01 : 1 - T ≤ 1 := by omega
  cases hm with
  | drop h1 h2 h3 h4 h5 =>
    obtain ⟨a, ha, hca⟩ := h5
    have hcap := hh a ha
    have ha9 := UInt8.toNat_lt a
    have hx : ((letN T m.c).toUInt8).toNat = letN T m.c := by
      rw [hca]
      exact Nat.mod_eq_of_lt (letN_lt' T a)
    have hcell : ∀ i, i < W * H → cellN ⟨(behC C.data.toList m.f m.t (letN T m.c).toUInt8).toArray⟩ i = if i = m.t then letN T m.c else cellN C i := fun i hi => by
      rw [beh_cellN (.inl h1) (by omega), if_neg (by omega), hx]
    constructor
    · intro i hi ho
      rw [hcell i hi] at ho ⊢
      split at ho
      · rw [hca, (own_letter a.toNat ha9 hcap T hT).2] at ho
        exact absurd ho (by simp)
      · rename_i hne
        rw [if_neg hne]
    · rintro l hl hlc ⟨i, hi, hi2⟩
      have hne : i ≠ m.t := by
        rintro rfl
        rw [h3] at hi2
        exact own_ne46 (own_letter l hl hlc T hT).1 hi2.symm
      exact ⟨i, hi, by rw [hcell i hi, if_neg hne]; exact hi2⟩
  | go fr h1 h2 h3 h4 h5 h6 =>
    have hfr : fr < W * H := by omega
    have hft := can_ne hT hfr hv h4 h6
    obtain ⟨z, hz, hent, -⟩ := (goals_bit W H T C fr m.t _).1 h6
    have hown : letN T m.c = cellN C fr := by
      rw [h5]
      unfold ownB at h4
      simp only [Bool.and_eq_true, decide_eq_true_eq] at h4
      exact h4.2
    have hx : ((letN T m.c).toUInt8).toNat = cellN C fr := by
      rw [hown]
      exact Nat.mod_eq_of_lt (hv fr hfr).2
    have hcell : ∀ i, i < W * H → cellN ⟨(behC C.data.toList m.f m.t (letN T m.c).toUInt8).toArray⟩ i = if i = fr then 46 else if i = m.t then cellN C fr else cellN C i := fun i hi => by
      rw [beh_cellN (.inr ⟨by omega, by omega⟩) (by omega), hx, h1]
      simp only [Int.natCast_inj]
    have htn : ownB T (cellN C m.t) = false := by
      unfold entB at hent
      split at hent
      · rename_i h46
        rw [h46]
        rfl
      · simp only [Bool.and_eq_true] at hent
        have := own_not_both _ (hv m.t (by omega)).2 (hv m.t (by omega)).1 (1 - T) h01 hent.2
        rwa [show 1 - (1 - T) = T by omega] at this
    constructor
    · intro i hi ho
      rw [hcell i hi] at ho ⊢
      split at ho
      · exact absurd rfl (own_ne46 ho)
      · rename_i hne
        split at ho
        · rw [own_not_both _ (hv fr hfr).2 (hv fr hfr).1 T hT h4] at ho
          exact absurd ho (by simp)
        · rename_i hne2
          rw [if_neg hne, if_neg hne2]
    · rintro l hl hlc ⟨i, hi, hi2⟩
      have hne : i ≠ m.t := by
        rintro rfl
        rw [hi2, (own_letter l hl hlc T hT).1] at htn
        exact absurd htn (by simp)
      by_cases hif : i = fr
      · refine ⟨m.t, by omega, ?_⟩
        rw [hcell m.t (by omega), if_neg (fun e => hft e.symm), if_pos rfl, ← hif]
        exact hi2
      · exact ⟨i, hi, by rw [hcell i hi, if_neg hif, if_neg hne]; exact hi2⟩
theorem dch_zero {e1 e2 e3 e4 e5 e6 : Bool} {vo vm : Int} (ho : vo = 1 ∨ vo = 2) (hm : vm = 1 ∨ vm = 2) (h : dch e1 e2 e3 e4 e5 e6 vo vm = 0) : e1 = false ∧ e3 = false ∧ e5 = false := by
  unfold dch at h
  cases e1 <;> cases e2 <;> cases e3 <;> cases e4 <;> cases e5 <;> cases e6 <;> simp at h ⊢ <;> omega
theorem dch_odd {e1 e3 e5 : Bool} {vo vm : Int} : dch e1 false e3 false e5 false vo vm = vo ∨ dch e1 false e3 false e5 false vo vm = 0 := by
  unfold dch
  cases e1 <;> cases e3 <;> cases e5 <;> simp
/-- Behind a move of T's the other one has not won. -/
theorem plied_no {W H T : Nat} {C C' A' B' : ByteArray} {ps : List Pc} {dr st : Bool} {lo re : Nat} {li : Int} (hT : T ≤ 1) (hW : 1 ≤ W) (hH : 1 ≤ H) (hC : C.size = W * H) (hC' : C'.size = W * H) (hv : ∀ c, c < W * H → cellB (cellN C c : Nat) = true ∧ cellN C c < 256) (hv' : ∀ c, c < W * H → cellB (cellN C' c : Nat) = true ∧ cellN C' c < 256)
    (hlo8 : lo < 256) (hre8 : re < 256) (hloc : lo ≠ 0 → capB (lo : Int) = true) (hrec : re ≠ 0 → capB (re : Int) = true) (hli : li = 0 ∨ (2 ≤ li ∧ li ≤ 8)) (hd : decO W H T C lo li re = 0) (hp : Plied W H T C C') :
    outO W H (1 - T) C' A' B' ps dr st lo li re ≠ wonI (((1 - T : Nat) : Nat) : Int) := by
  have h01 : 1 - T ≤ 1 := by omega
  have hTT : 1 - (1 - T) = T := by omega
  rw [decO_ch] at hd
  obtain ⟨e1, e3, e5⟩ := dch_zero (wonI_ne _) (wonI_ne _) hd
  have a2 : (decide (lo ≠ 0) && !hasN C'.data.toList (letN (1 - (1 - T)) lo)) = false := by
    rw [hTT]
    by_cases q : lo = 0
    · simp [q]
    · have hl9 := letN_lt (T := T) hlo8
      have : hasN C.data.toList (letN T lo) = true := by
        simpa [q] using e1
      obtain ⟨i, hi, hi2⟩ := (has_iff C hl9).1 this
      obtain ⟨j, hj, hj2⟩ := hp.kept lo hlo8 (hloc q) ⟨i, by omega, hi2⟩
      have h3 := (has_iff C' hl9).2 ⟨j, by omega, hj2⟩
      rw [h3]
      simp
  have a4 : (decide (li ≠ 0) && hasLineB W H (1 - T) C' li) = false := by
    by_cases q : li = 0
    · simp [q]
    · obtain ⟨l, rfl⟩ : ∃ l : Nat, li = l := ⟨li.toNat, by omega⟩
      have hl8 : 1 ≤ l ∧ l ≤ 8 := by omega
      rw [lined_eq h01 hW hl8 hv] at e3
      rw [lined_eq h01 hW hl8 hv']
      have hlin : linedB W H (1 - T) C' l = false := by
        rw [Bool.eq_false_iff]
        intro hl
        rw [lined_iff hW] at hl
        obtain ⟨a, ha, d, hdd, hr⟩ := hl
        rw [row_iff hW ha] at hr
        have : linedB W H (1 - T) C l = true := by
          rw [lined_iff hW]
          refine ⟨a, ha, d, hdd, ?_⟩
          rw [row_iff hW ha]
          intro k hk
          obtain ⟨c, hc, x1, x2, x3⟩ := hr k hk
          refine ⟨c, hc, x1, x2, ?_⟩
          have ho : ownB (1 - T) (cellN C' c) = true := by
            rw [own_rown _ (hv' c hc).2 (hv' c hc).1 (1 - T) h01]
            simpa using x3
          rw [← hp.less c hc ho]
          exact x3
        rw [this] at e3
        simp at e3
        omega
      rw [hlin]
      simp
  have a6 : (decide (re ≠ 0) && hasN (lastR W (1 - T) C') (letN (1 - T) re)) = false := by
    by_cases q : re = 0
    · simp [q]
    · have hl9 := letN_lt (T := 1 - T) hre8
      have hno : hasN (lastR W (1 - T) C') (letN (1 - T) re) = false := by
        rw [Bool.eq_false_iff]
        intro hl
        obtain ⟨i, hi, hi2, hi3⟩ := (last_iff hW hH hC' hl9).1 hl
        have ho : ownB (1 - T) (cellN C' i) = true := by
          rw [hi3]
          exact (own_letter re hre8 (hrec q) (1 - T) h01).1
        have : hasN (lastR W (1 - T) C) (letN (1 - T) re) = true := (last_iff hW hH hC hl9).2 ⟨i, hi, hi2, by rw [← hp.less i hi ho]; exact hi3⟩
        rw [this] at e5
        simp [q] at e5
      rw [hno]
      simp
  have hne : wonI (1 - (((1 - T : Nat) : Nat) : Int)) ≠ wonI (((1 - T : Nat) : Nat) : Int) := by
    have : T = 0 ∨ T = 1 := by omega
    rcases this with rfl | rfl <;> decide
  have hdec : decO W H (1 - T) C' lo li re = wonI (1 - (((1 - T : Nat) : Nat) : Int)) ∨ decO W H (1 - T) C' lo li re = 0 := by
    rw [decO_ch, a2, a4, a6]
    exact dch_odd
  have h12 := wonI_ne (((1 - T : Nat) : Nat) : Int)
  unfold outO
  rcases hdec with h | h
  · have hz : ¬ wonI (1 - (((1 - T : Nat) : Nat) : Int)) = 0 := by
      have := wonI_ne (1 - (((1 - T : Nat) : Nat) : Int))
      omega
    rw [h, if_neg hz]
    exact hne
  · rw [if_pos h]
    split
    · split
      · exact hne
      · omega
    · omega
end Go.Proofs.YtlogengkhlmcbaaGreatDoor

namespace Go.Proofs.YtlogengkhlmcbaaGreatDoor
open Go.RowKit

/-- The outcome of a position. -/
def outP (ps : List Pc) (dr st : Bool) (lo : Nat) (li : Int) (re : Nat) (p : Po) : Int := outO p.W.toNat p.H.toNat p.T.toNat p.C p.A p.B ps dr st lo li re
theorem AtF.out {ps : List Pc} {dr st : Bool} {lo : Nat} {li : Int} {re : Nat} {p : Po} {W' H' T' : Nat} (h : AtF ps p.W p.H p.T p.C p.A p.B W' H' T') : outP ps dr st lo li re p = outO W' H' T' p.C p.A p.B ps dr st lo li re := by
  unfold outP
  rw [h.w, h.h, h.t]
  rfl
/-- A position of the rules. -/
def OkP (W0 H0 T0 : Int) (C0 A0 B0 : List UInt8) (ps : List Pc) (lo re : Nat) (li pl : Int) (p : Po) : Prop := atB W0 H0 C0 T0 A0 B0 ps lo li re pl p.W p.H p.C.data.toList p.T p.A.data.toList p.B.data.toList = true
theorem out_open {W H T : Nat} {C A B : ByteArray} {ps : List Pc} {dr st : Bool} {lo : Nat} {li : Int} {re : Nat} : outO W H T C A B ps dr st lo li re = 0 ↔ movesL W H T C A B ps dr lo li re ≠ [] := by
  unfold outO movesL
  split
  · split
    · rename_i h
      have hn : possL W H T C A B ps dr = [] := List.length_eq_zero_iff.1 h
      rw [hn]
      have := wonI_ne (1 - (T : Int))
      constructor
      · intro h1
        split at h1 <;> omega
      · intro h1
        exact absurd rfl h1
    · rename_i h
      exact ⟨fun _ e => h (by rw [e]; rfl), fun _ => rfl⟩
  · rename_i h
    exact ⟨fun h1 => absurd h1 h, fun h1 => absurd rfl h1⟩
theorem open_P {W0 H0 T0 : Int} {C0 A0 B0 : List UInt8} {ps : List Pc} {lo re : Nat} {li pl : Int} {dr st : Bool} {p : Po} (h : OkP W0 H0 T0 C0 A0 B0 ps lo re li pl p) : outP ps dr st lo li re p = 0 ↔ movP ps dr lo li re p ≠ [] := by
  obtain ⟨W', H', T', hf⟩ := at_facts h
  rw [hf.out, hf.movs]
  exact out_open
theorem duel_P {W0 H0 T0 : Int} {C0 A0 B0 : List UInt8} {ps : List Pc} {lo re : Nat} {li pl : Int} (dr st : Bool) (win : Int) (hwin : win = 0 ∨ win = 1) (hlo8 : lo < 256) (hre8 : re < 256) :
    Duel (OkP W0 H0 T0 C0 A0 B0 ps lo re li pl) (fun q => (movP ps dr lo li re q).map (behP dr q)) (fun q => outP ps dr st lo li re q == win + 1) (fun q => q.T == win) := by
  refine ⟨?_, ?_, ?_, ?_⟩
  · intro p hp q hq
    obtain ⟨m, hm, rfl⟩ := List.mem_map.1 hq
    exact at_beh hp hm
  · intro p hp hw
    have hw2 : outP ps dr st lo li re p = win + 1 := by simpa using hw
    have : movP ps dr lo li re p = [] := Classical.byContradiction fun h => by
      have h0 := (open_P (dr := dr) (st := st) hp).2 h
      omega
    show (movP ps dr lo li re p).map (behP dr p) = []
    rw [this]
    rfl
  · intro p hp q hq
    obtain ⟨m, hm, rfl⟩ := List.mem_map.1 hq
    obtain ⟨W', H', T', hf⟩ := at_facts hp
    have h1 := hf.t
    have h2 := hf.t1
    show ((1 - p.T) == win) = !(p.T == win)
    rw [Bool.eq_iff_iff]
    simp
    omega
  · intro p hp ht q hq
    obtain ⟨m, hm, rfl⟩ := List.mem_map.1 hq
    have hq2 := at_beh hp hm
    obtain ⟨W', H', T', hf⟩ := at_facts hp
    obtain ⟨W2, H2, T2, hf2⟩ := at_facts hq2
    have hg := at_more hp hf
    have hg2 := at_more hq2 hf2
    have h1 := hf.t
    have h2 := hf.t1
    have ht' : p.T ≠ win := by simpa using ht
    have eW : W2 = W' := by
      have a := hf.w
      have b : p.W = W2 := hf2.w
      omega
    have eH : H2 = H' := by
      have a := hf.h
      have b : p.H = H2 := hf2.h
      omega
    have eT : T2 = 1 - T' := by
      have b : 1 - p.T = T2 := hf2.t
      omega
    subst eW
    subst eH
    subst eT
    have hm2 := hm
    rw [hf.movs] at hm2
    have hd : decO W2 H2 T' p.C lo li re = 0 := by
      unfold movesL at hm2
      split at hm2
      · assumption
      · exact absurd hm2 (by simp)
    have hpl := move_plied hf.t1 hf.c hg.cell (fun a ha => by
      unfold handOf at ha
      split at ha
      · exact hg.oa.2 a ha
      · exact hg.ob.2 a ha) (mov_is hm2)
    have eT0 : p.T.toNat = T' := by omega
    have hC : (behP dr p m).C = ⟨(behC p.C.data.toList m.f m.t (letN T' m.c).toUInt8).toArray⟩ := by
      show (⟨(behC p.C.data.toList m.f m.t (letN p.T.toNat m.c).toUInt8).toArray⟩ : ByteArray) = _
      rw [eT0]
    rw [← hC] at hpl
    have hno := plied_no (A' := (behP dr p m).A) (B' := (behP dr p m).B) (ps := ps) (dr := dr) (st := st) hf.t1 hf.w1.1 hf.h1.1 hf.c hf2.c hg.cell hg2.cell hlo8 hre8 hg.loc hg.rec_ hg.li hd hpl
    rw [← hf2.out] at hno
    have hwi : wonI (((1 - T' : Nat) : Nat) : Int) = win + 1 := by
      unfold wonI
      split <;> omega
    rw [hwi] at hno
    simpa using hno
end Go.Proofs.YtlogengkhlmcbaaGreatDoor

namespace Go.Proofs.YtlogengkhlmcbaaGreatDoor
open Go.RowKit
attribute [local go_sem ↓] Go.wp_at_zero Go.wp_at_succ

set_option maxHeartbeats 4000000 in
set_option maxRecDepth 100000 in
theorem rIn_any (v : Value) (L : List Mv) (f t : Int) (c : Nat) (w : World) (h : isMvs w v L) :
    Calls Tryz.prog 20 #[v, .agg #[.int .i64 f, .int .i64 t, .int .u8 (c : Int)]] w fun e w' => e = .returned (.bool (inM f t c L)) ∧ Below w.heap.size w w' := by
  obtain ⟨ao, cap, rfl, hle, hmx, hcs⟩ := h
  obtain ⟨n, hn⟩ : ∃ n, n = L.length := ⟨_, rfl⟩
  rw [← hn] at hle ⊢
  unfold maxLen at hmx
  have hnx : n ≤ 9223372036854775807 := by omega
  have HN := hide hn
  have HCS := hide hcs
  clear hn hcs
  obtain ⟨R, hR⟩ : ∃ R, R = inM f t c L := ⟨_, rfl⟩
  rw [← hR]
  have HR := hide hR
  clear hR
  obtain ⟨wa, hwa⟩ : ∃ wa, wa = w.alloc (.cells #[.int .i64 f, .int .i64 t, .int .u8 (c : Int)] 29 (0, 0)) := ⟨_, rfl⟩
  have hba : Below w.heap.size w wa := by rw [hwa]; exact (Below.refl _ _).alloc (Nat.le_refl _) _
  have hbx : wa.heap[w.heap.size]? = some (.cells #[.int .i64 f, .int .i64 t, .int .u8 (c : Int)] 29 (0, 0)) := by rw [hwa]; exact heap_alloc_new w _
  have HBA := hide hba
  have HBX := hide hbx
  clear hba hbx
  go_enter Tryz.func20, Tryz.ntmps20
  go_wp2
  rw [← hwa]
  clear hwa
  go_loopw [5] (fun iv wr => ∃ k : Nat, iv = .int .i64 (k : Int) ∧ k ≤ n ∧ Hid (inM f t c (L.drop k) = R) ∧ wr.heap[w.heap.size]? = some (.cells #[.int .i64 f, .int .i64 t, .int .u8 (c : Int)] 29 (0, 0)) ∧ Below w.heap.size w wr) (fun iv _ => n - (intOf iv).toNat)
  case atStart => exact ⟨0, rfl, Nat.zero_le _, hide (unhide HR).symm, unhide HBX, unhide HBA⟩
  case round =>
    obtain ⟨k, rfl, hk, HK, hbx, hbw⟩ := hrel
    clear HBX HBA
    by_cases hlt : k < n
    · have hlti : (k : Int) < (n : Int) := by omega
      have hk0 : (0 : Int) ≤ (k : Int) := by omega
      have hkl : k < L.length := by rw [← unhide HN]; exact hlt
      obtain ⟨g, off, eg, hg, c0, c1, c2⟩ := unhide HCS k L[k] (List.getElem?_eq_getElem hkl)
      subst eg
      obtain ⟨m, hm⟩ : ∃ m, m = L[k] := ⟨_, rfl⟩
      rw [← hm] at c0 c1 c2
      have d0 := (hbw.cell (p := ⟨g, off + k * 3, none⟩) hg).trans c0
      have d1 := (hbw.cell (p := ⟨g, off + k * 3 + 1, none⟩) hg).trans c1
      have d2 := (hbw.cell (p := ⟨g, off + k * 3 + 2, none⟩) hg).trans c2
      have x0 : wr.cell? ⟨w.heap.size, 0, none⟩ = some (.int .i64 f) := cell_of_row _ _ _ _ _ _ hbx
      have x1 : wr.cell? ⟨w.heap.size, 1, none⟩ = some (.int .i64 t) := cell_of_row _ _ _ _ _ _ hbx
      have x2 : wr.cell? ⟨w.heap.size, 2, none⟩ = some (.int .u8 (c : Int)) := cell_of_row _ _ _ _ _ _ hbx
      have hst := unhide HK
      rw [List.drop_eq_getElem_cons hkl, ← hm] at hst
      unfold inM at hst
      rw [List.any_cons] at hst
      have he : ∀ u, (Op.equalIn 10000 29 (.agg #[.int .i64 m.f, .int .i64 (m.t : Int), .int .u8 (m.c : Int)]) (.agg #[.int .i64 f, .int .i64 t, .int .u8 (c : Int)])).run Tryz.prog u = .ok (eqM f t c m) u := fun u => by
        rw [eqMove]
        congr 1
        unfold eqM
        rw [Bool.eq_iff_iff]
        simp
        omega
      have HBX := hide hbx
      have HBW := hide hbw
      clear hm c0 c1 c2 hbx hbw
      generalize eqM f t c m = b at hst he
      cases b with
      | true =>
        rw [Bool.true_or] at hst
        have HST := hide hst
        clear hst
        go_wp2_with fail
        go_quiet (fail)
        go_wp2
        go_ret
        exact ⟨by rw [← unhide HST]; rfl, ⟨(unhide HBW).os, (unhide HBW).tape, (unhide HBW).output, (unhide HBW).size, (unhide HBW).block⟩⟩
      | false =>
        rw [Bool.false_or] at hst
        have HST := hide hst
        clear hst
        go_wp2_with fail
        go_quiet (fail)
        go_wp2
        go_roundw
        case rel => exact ⟨k + 1, by go_num, by omega, HST, unhide HBX, ⟨(unhide HBW).os, (unhide HBW).tape, (unhide HBW).output, (unhide HBW).size, (unhide HBW).block⟩⟩
        case measure => simp only [intOf]; omega
    · have hlti : ¬ (k : Int) < (n : Int) := by omega
      have hst := unhide HK
      rw [List.drop_eq_nil_of_le (by rw [← unhide HN]; omega)] at hst
      have HST := hide hst
      have HBW := hide hbw
      clear hst hbx hbw
      go_wp2
      go_ret
      exact ⟨by rw [← unhide HST]; rfl, unhide HBW⟩
end Go.Proofs.YtlogengkhlmcbaaGreatDoor

namespace Go.Proofs.YtlogengkhlmcbaaGreatDoor
open Go.RowKit
attribute [local go_sem ↓] Go.wp_at_zero Go.wp_at_succ

/-- The rules, the position and the cert in boxes. -/
structure RC (w : World) (v0 v1 v2 v3 v4 v5 v6 v7 v8 v9 v10 v11 v12 : Value) (p : Po) (s : Bool) (f t : Int) (c : Nat) (kv : Value) (u : World) : Prop where
  ru : isRu u w.heap.size v0 v1 v2 v3 v4 v5 v6 v7 v8 v9 v10 v11 v12
  pb : isPb u (w.heap.size + 1) p.W p.H p.T p.C p.A p.B
  cb : isCb u (w.heap.size + 1 + 1) s f t c kv
  bw : Below w.heap.size w u
  sz : w.heap.size + 3 ≤ u.heap.size
theorem RC.step {w : World} {v0 v1 v2 v3 v4 v5 v6 v7 v8 v9 v10 v11 v12 : Value} {p : Po} {s : Bool} {f t : Int} {c : Nat} {kv : Value} {u u' : World} (h : RC w v0 v1 v2 v3 v4 v5 v6 v7 v8 v9 v10 v11 v12 p s f t c kv u) (hb : Below u.heap.size u u') : RC w v0 v1 v2 v3 v4 v5 v6 v7 v8 v9 v10 v11 v12 p s f t c kv u' := by
  have h1 := h.sz
  have h2 := hb.size
  exact ⟨h.ru.below hb (by omega), h.pb.below hb (by omega), h.cb.below hb (by omega), h.bw.trans (hb.mono h.bw.size), by omega⟩

set_option maxHeartbeats 4000000 in
set_option maxRecDepth 100000 in
theorem shows_over (v0 v1 v2 v3 v4 v5 v6 v7 v8 v9 v10 v11 v12 : Value) (win o D : Int) (p : Po) (s : Bool) (f t : Int) (c : Nat) (no : Option Addr) (kl nc : Nat) (w : World) (hwin : win = 0 ∨ win = 1) (hod : o ≠ 0 ∨ D = 0)
    (hE : ∀ u, Below w.heap.size w u → Calls Tryz.prog 18 #[.agg #[v0, v1, v2, v3, v4, v5, v6, v7, v8, v9, v10, v11, v12], .agg #[.int .i64 p.W, .int .i64 p.H, .string p.C, .int .i64 p.T, .string p.A, .string p.B]] u fun e w' => e = .returned (.int .i64 o) ∧ Below u.heap.size u w') :
    Calls Tryz.prog 7 #[.agg #[v0, v1, v2, v3, v4, v5, v6, v7, v8, v9, v10, v11, v12], .agg #[.int .i64 p.W, .int .i64 p.H, .string p.C, .int .i64 p.T, .string p.A, .string p.B], .int .i64 D, .int .i64 win, .agg #[.bool s, .int .i64 f, .int .i64 t, .int .u8 (c : Int), .slice no kl nc]] w fun e w' => e = .returned (.bool (decide (o = win + 1) && (bareB s f t c && decide (kl = 0)))) ∧ Below w.heap.size w w' := by
  obtain ⟨w1, hw1⟩ : ∃ w1, w1 = w.alloc (.cells #[v0, v1, v2, v3, v4, v5, v6, v7, v8, v9, v10, v11, v12] 27 (0, 0)) := ⟨_, rfl⟩
  obtain ⟨w2, hw2⟩ : ∃ w2, w2 = w1.alloc (.cells #[.int .i64 p.W, .int .i64 p.H, .string p.C, .int .i64 p.T, .string p.A, .string p.B] 24 (0, 0)) := ⟨_, rfl⟩
  obtain ⟨w3, hw3⟩ : ∃ w3, w3 = w2.alloc (.cells #[.bool s, .int .i64 f, .int .i64 t, .int .u8 (c : Int), .slice no kl nc] 32 (0, 0)) := ⟨_, rfl⟩
  have hb1 : Below w.heap.size w w1 := by rw [hw1]; exact (Below.refl _ _).alloc (Nat.le_refl _) _
  have hb2 : Below w1.heap.size w1 w2 := by rw [hw2]; exact (Below.refl _ _).alloc (Nat.le_refl _) _
  have hb3 : Below w2.heap.size w2 w3 := by rw [hw3]; exact (Below.refl _ _).alloc (Nat.le_refl _) _
  have s1 : w1.heap.size = w.heap.size + 1 := by rw [hw1]; simp
  have s2 : w2.heap.size = w.heap.size + 1 + 1 := by rw [hw2]; simp [s1]
  have s3 : w3.heap.size = w.heap.size + 1 + 1 + 1 := by rw [hw3]; simp [s2]
  have hrc3 : RC w v0 v1 v2 v3 v4 v5 v6 v7 v8 v9 v10 v11 v12 p s f t c (.slice no kl nc) w3 :=
    ⟨isRu.below (isRu.below (show isRu w1 w.heap.size v0 v1 v2 v3 v4 v5 v6 v7 v8 v9 v10 v11 v12 by rw [hw1]; exact heap_alloc_new w _) hb2 (by omega)) hb3 (by omega), isPb.below (show isPb w2 (w.heap.size + 1) p.W p.H p.T p.C p.A p.B by rw [hw2, ← s1]; exact heap_alloc_new w1 _) hb3 (by omega), by rw [hw3, ← s2]; exact heap_alloc_new w2 _, (hb1.trans (hb2.mono (by omega))).trans (hb3.mono (by omega)), by omega⟩
  have HRC := hide hrc3
  have HW1 := hide hw1
  have HW2 := hide hw2
  have HW3 := hide hw3
  clear hw1 hw2 hw3 hb1 hb2 hb3 s1 s2 s3 hrc3
  obtain ⟨b, hb⟩ : ∃ b, b = (decide (f = 0) && decide (t = 0) && decide (c = 0)) := ⟨_, rfl⟩
  have heq : ∀ u, (Op.equalIn 10000 29 (.agg #[.int .i64 f, .int .i64 t, .int .u8 (c : Int)]) (.agg #[.int .i64 0, .int .i64 0, .int .u8 0])).run Tryz.prog u = .ok b u := fun u => by
    rw [eqMove, hb]
    congr 1
    rw [Bool.eq_iff_iff]
    simp
  unfold bareB
  rw [← hb]
  clear hb
  obtain ⟨q, hq⟩ : ∃ q : Int, win + 1 = q := ⟨_, rfl⟩
  rw [hq]
  have wq : IntKind.i64.wrap q = q := wrapS (by omega) (by omega)
  obtain ⟨z, hz⟩ : ∃ z : Bool, z = decide (kl = 0) := ⟨_, rfl⟩
  have hzk : ((kl : Int) == 0) = z := by rw [hz, Bool.eq_iff_iff]; simp
  rw [← hz]
  have hq0 : q ≠ 0 := by omega
  have HE := hide hE
  clear hE hz
  by_cases hoq : o = q
  · have hoqb : (o == q) = true := by simp [hoq]
    have hob : (o != 0) = true := by simp [hoq, hq0]
    rw [decide_eq_true hoq]
    clear hoq hod hq0
    cases s with
    | true =>
      go_enter Tryz.func7, Tryz.ntmps7
      go_wp2_with fail
      rw [← unhide HW1, ← unhide HW2, ← unhide HW3]
      refine (unhide HE _ (unhide HRC).bw).mono ?_
      rintro e w4 ⟨rfl, hb4⟩
      have HRC4 := hide ((unhide HRC).step hb4)
      clear HRC HE HW1 HW2 HW3 hb4
      obtain ⟨c0, c1, c2, c3, c4⟩ := (unhide HRC4).cb.all
      obtain ⟨r0, r1, r2, r3, r4, r5, r6, r7, r8, r9, r10, r11, r12⟩ := (unhide HRC4).ru.cells
      obtain ⟨p0, p1, p2, p3, p4, p5⟩ := (unhide HRC4).pb.all
      go_wp2
      go_ret
      exact ⟨rfl, (unhide HRC4).bw⟩
    | false =>
      cases b with
      | true =>
        go_enter Tryz.func7, Tryz.ntmps7
        go_wp2_with fail
        rw [← unhide HW1, ← unhide HW2, ← unhide HW3]
        refine (unhide HE _ (unhide HRC).bw).mono ?_
        rintro e w4 ⟨rfl, hb4⟩
        have HRC4 := hide ((unhide HRC).step hb4)
        clear HRC HE HW1 HW2 HW3 hb4
        obtain ⟨c0, c1, c2, c3, c4⟩ := (unhide HRC4).cb.all
        obtain ⟨r0, r1, r2, r3, r4, r5, r6, r7, r8, r9, r10, r11, r12⟩ := (unhide HRC4).ru.cells
        obtain ⟨p0, p1, p2, p3, p4, p5⟩ := (unhide HRC4).pb.all
        go_wp2
        go_ret
        exact ⟨by first | rfl | simp [hzk], (unhide HRC4).bw⟩
      | false =>
        go_enter Tryz.func7, Tryz.ntmps7
        go_wp2_with fail
        rw [← unhide HW1, ← unhide HW2, ← unhide HW3]
        refine (unhide HE _ (unhide HRC).bw).mono ?_
        rintro e w4 ⟨rfl, hb4⟩
        have HRC4 := hide ((unhide HRC).step hb4)
        clear HRC HE HW1 HW2 HW3 hb4
        obtain ⟨c0, c1, c2, c3, c4⟩ := (unhide HRC4).cb.all
        obtain ⟨r0, r1, r2, r3, r4, r5, r6, r7, r8, r9, r10, r11, r12⟩ := (unhide HRC4).ru.cells
        obtain ⟨p0, p1, p2, p3, p4, p5⟩ := (unhide HRC4).pb.all
        go_wp2
        go_ret
        exact ⟨rfl, (unhide HRC4).bw⟩
  · have hoqb : (o == q) = false := by simp [hoq]
    rw [decide_eq_false hoq]
    clear hoq hq0
    by_cases ho : o = 0
    · have hd0 : D = 0 := by
        rcases hod with h | h
        · exact absurd ho h
        · exact h
      have hob : (o != 0) = false := by simp [ho]
      have hdb : (D == 0) = true := by simp [hd0]
      clear ho hd0 hod
      cases s with
      | true =>
        go_enter Tryz.func7, Tryz.ntmps7
        go_wp2_with fail
        rw [← unhide HW1, ← unhide HW2, ← unhide HW3]
        refine (unhide HE _ (unhide HRC).bw).mono ?_
        rintro e w4 ⟨rfl, hb4⟩
        have HRC4 := hide ((unhide HRC).step hb4)
        clear HRC HE HW1 HW2 HW3 hb4
        obtain ⟨c0, c1, c2, c3, c4⟩ := (unhide HRC4).cb.all
        obtain ⟨r0, r1, r2, r3, r4, r5, r6, r7, r8, r9, r10, r11, r12⟩ := (unhide HRC4).ru.cells
        obtain ⟨p0, p1, p2, p3, p4, p5⟩ := (unhide HRC4).pb.all
        go_wp2
        go_ret
        exact ⟨rfl, (unhide HRC4).bw⟩
      | false =>
        go_enter Tryz.func7, Tryz.ntmps7
        go_wp2_with fail
        rw [← unhide HW1, ← unhide HW2, ← unhide HW3]
        refine (unhide HE _ (unhide HRC).bw).mono ?_
        rintro e w4 ⟨rfl, hb4⟩
        have HRC4 := hide ((unhide HRC).step hb4)
        clear HRC HE HW1 HW2 HW3 hb4
        obtain ⟨c0, c1, c2, c3, c4⟩ := (unhide HRC4).cb.all
        obtain ⟨r0, r1, r2, r3, r4, r5, r6, r7, r8, r9, r10, r11, r12⟩ := (unhide HRC4).ru.cells
        obtain ⟨p0, p1, p2, p3, p4, p5⟩ := (unhide HRC4).pb.all
        go_wp2
        go_ret
        exact ⟨rfl, (unhide HRC4).bw⟩
    · have hob : (o != 0) = true := by simp [ho]
      clear ho hod
      cases s with
      | true =>
        go_enter Tryz.func7, Tryz.ntmps7
        go_wp2_with fail
        rw [← unhide HW1, ← unhide HW2, ← unhide HW3]
        refine (unhide HE _ (unhide HRC).bw).mono ?_
        rintro e w4 ⟨rfl, hb4⟩
        have HRC4 := hide ((unhide HRC).step hb4)
        clear HRC HE HW1 HW2 HW3 hb4
        obtain ⟨c0, c1, c2, c3, c4⟩ := (unhide HRC4).cb.all
        obtain ⟨r0, r1, r2, r3, r4, r5, r6, r7, r8, r9, r10, r11, r12⟩ := (unhide HRC4).ru.cells
        obtain ⟨p0, p1, p2, p3, p4, p5⟩ := (unhide HRC4).pb.all
        go_wp2
        go_ret
        exact ⟨rfl, (unhide HRC4).bw⟩
      | false =>
        go_enter Tryz.func7, Tryz.ntmps7
        go_wp2_with fail
        rw [← unhide HW1, ← unhide HW2, ← unhide HW3]
        refine (unhide HE _ (unhide HRC).bw).mono ?_
        rintro e w4 ⟨rfl, hb4⟩
        have HRC4 := hide ((unhide HRC).step hb4)
        clear HRC HE HW1 HW2 HW3 hb4
        obtain ⟨c0, c1, c2, c3, c4⟩ := (unhide HRC4).cb.all
        obtain ⟨r0, r1, r2, r3, r4, r5, r6, r7, r8, r9, r10, r11, r12⟩ := (unhide HRC4).ru.cells
        obtain ⟨p0, p1, p2, p3, p4, p5⟩ := (unhide HRC4).pb.all
        go_wp2
        go_ret
        exact ⟨rfl, (unhide HRC4).bw⟩
end Go.Proofs.YtlogengkhlmcbaaGreatDoor
