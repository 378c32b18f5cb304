/-
  gamelaw.TableMakes, walked for whatever comes in.
-/
import Derived.Test.YtbijadnekoeofaaGreatDoorJ25
import Derived.Test.YtbijadnekoeofaaGreatDoorJ24
import Derived.Test.YtbijadnekoeofaaGreatDoorV33
import Derived.Test.YtbijadnekoeofaaGreatDoorJ43
import Derived.Test.YtbijadnekoeofaaGreatDoorJ44
import Derived.Test.YtbijadnekoeofaaGreatDoorT38
namespace Go.Proofs.YtbijadnekoeofaaGreatDoor
open Go.RowKit Go.Sort

theorem data_tstrT (C : ByteArray) (W H k : Nat) : (tstr C W H k).data.toList = tcells C.data.toList W H k (twd W H k) (W * H) := by simp [tstr]
/-- The whole board, not turned. -/
theorem tstr_none (C : ByteArray) (W H : Nat) (hC : C.size = W * H) : tstr C W H 0 = C := by
  apply ByteArray.ext
  apply Array.toList_inj.1
  rw [data_tstrT]
  apply List.ext_getElem?
  intro i
  unfold tcells
  rw [List.getElem?_map]
  by_cases hi : i < W * H
  · rw [List.getElem?_range hi]
    have hw : twd W H 0 = W := rfl
    have hl : i < C.data.toList.length := by rw [len_data, hC]; exact hi
    show some (tcell C.data.toList W H 0 (twd W H 0) i) = _
    unfold tcell
    rw [hw]
    have e : (srcY H 0 (i % W : Nat) (i / W : Nat) * W + srcX W 0 (i % W : Nat) (i / W : Nat)).toNat = i := by
      have h1 : srcY H 0 (i % W : Nat) (i / W : Nat) = (i / W : Nat) := rfl
      have h2 : srcX W 0 (i % W : Nat) (i / W : Nat) = (i % W : Nat) := rfl
      rw [h1, h2, ← Int.natCast_mul, ← Int.natCast_add, Int.toNat_natCast, Nat.mul_comm]
      exact Nat.div_add_mod _ _
    rw [e, List.getD_eq_getElem?_getD, List.getElem?_eq_getElem hl]
    rfl
  · rw [List.getElem?_eq_none (by simpa using hi), List.getElem?_eq_none (by rw [len_data, hC]; omega)]
    rfl
theorem wonI_12 (T : Int) : wonI T = 1 ∨ wonI T = 2 := by unfold wonI; split <;> simp
theorem dec_range (W H T : Nat) (C : ByteArray) (lo : Nat) (li : Int) (re : Nat) : decO W H T C lo li re = 0 ∨ decO W H T C lo li re = 1 ∨ decO W H T C lo li re = 2 := by
  unfold decO
  have h1 := wonI_12 (1 - (T : Int))
  have h2 := wonI_12 (T : Int)
  repeat' split
  all_goals first | (rcases h1 with h | h <;> rw [h] <;> simp; done) | (rcases h2 with h | h <;> rw [h] <;> simp; done) | simp
theorem out_range (W H T : Nat) (C A B : ByteArray) (ps : List Pc) (dr st : Bool) (lo : Nat) (li : Int) (re : Nat) : 0 ≤ outO W H T C A B ps dr st lo li re ∧ outO W H T C A B ps dr st lo li re ≤ 3 := by
  unfold outO
  have h1 := dec_range W H T C lo li re
  have h2 := wonI_12 (1 - (T : Int))
  repeat' split
  all_goals omega
theorem end_same {o T : Int} (h0 : o ≠ 0) (h1 : 0 ≤ o ∧ o ≤ 3) (hT : T = 0 ∨ T = 1) : endW o T = endV o T ∧ 1 ≤ endV o T := by
  unfold endW endV
  rcases hT with rfl | rfl <;> repeat' split
  all_goals omega
theorem ba_eq {a b : ByteArray} (h : a.data.toList = b.data.toList) : a = b := by
  cases a with | mk x => cases b with | mk y => simp only at h; rw [Array.toList_inj.1 h]
theorem okP_key {W0 H0 T0 : Int} {C0 A0 B0 : List UInt8} {ps : List Pc} {lo re : Nat} {li pl : Int} {p q : Po} (hp : OkP W0 H0 T0 C0 A0 B0 ps lo re li pl p) (hq : OkP W0 H0 T0 C0 A0 B0 ps lo re li pl q) (h : keyP p = keyP q) : p = q := by
  unfold OkP atB at hp hq
  simp only [Bool.and_eq_true, decide_eq_true_eq] at hp hq
  obtain ⟨⟨⟨⟨-, -⟩, h1⟩, h2⟩, -⟩ := hp
  obtain ⟨⟨⟨⟨-, -⟩, h3⟩, h4⟩, -⟩ := hq
  simp only [keyP, Prod.mk.injEq] at h
  obtain ⟨e1, e2, e3, e4⟩ := h
  have f1 := ba_eq e1
  have f3 := ba_eq e3
  have f4 := ba_eq e4
  cases p
  cases q
  simp only at *
  subst h1 h2 f1 e2 f3 f4
  subst h3 h4
  rfl

/-- The program's side, and the document's. -/
def tmP (nx : Po → List Po) (ev : Po → Int) (s : Po) (most : Nat) (c : Int) (ts : List (Po × Int × Int)) : Prop :=
  (c = 2 ∧ ts = [] ∧ ∃ i, most < (bfsN nx s i).length) ∨
  (c = 0 ∧ ∃ nds : List Nd, nds.map Nd.p = bfsN nx s nds.length ∧ nds.length ≤ most ∧ Cons nds.length (nxtG nx (bfsN nx s nds.length)) (v0G nx ev (bfsN nx s nds.length)) (aOf nds) ∧ (∀ (i : Nat) (n : Nd), nds[i]? = some n → 0 ≤ n.v ∧ 0 ≤ n.d) ∧
    PermIn 0 (nds.map enN).toArray.size (nds.map enN).toArray ts.toArray ∧ SortedIn (ltOf fun x y : Po × Int × Int => cmpP x.1 y.1) 0 (nds.map enN).toArray.size ts.toArray)
def tdP (nx : Po → List Po) (ev : Po → Int) (s : Po) (most : Nat) (c : Int) (ts : List (Po × Int × Int)) : Prop :=
  (c = 2 ∧ ts = [] ∧ ∃ i, most < (bfsN nx s i).length) ∨
  (c = 0 ∧ ∃ N D : Nat, N ≤ most ∧ (bfsN nx s N).length = N ∧ (∀ i, i < N → rds (nxtG nx (bfsN nx s N)) (v0G nx ev (bfsN nx s N)) (D + 1) i = rds (nxtG nx (bfsN nx s N)) (v0G nx ev (bfsN nx s N)) D i) ∧
    ts.Perm (enF (bfsN nx s N) (finR (rds (nxtG nx (bfsN nx s N)) (v0G nx ev (bfsN nx s N)) D))) ∧ ts.Pairwise ltE)
theorem both_same {nx : Po → List Po} {ev : Po → Int} {s : Po} {ok : Po → Prop} {most : Nat} (hs : ok s) (hstay : ∀ p, ok p → ∀ q ∈ nx p, ok q) (hkey : ∀ p q, ok p → ok q → keyP p = keyP q → p = q) (hev : ∀ p, ok p → nx p = [] → 1 ≤ ev p) :
    ∀ c ts c' ts', tmP nx ev s most c ts → tdP nx ev s most c' ts' → c = c' ∧ ts = ts' := by
  rintro c ts c' ts' (⟨rfl, rfl, i, hi⟩ | ⟨rfl, nds, h1, h2, h3, h4, h5, h6⟩) (⟨rfl, rfl, j, hj⟩ | ⟨rfl, N, D, g1, g2, g3, g4, g5⟩)
  · exact ⟨rfl, rfl⟩
  · exact absurd hi (bfs_never g2 g1 i)
  · exact absurd hj (bfs_never (by rw [← h1, List.length_map]) h2 j)
  · exact ⟨rfl, tables_same hs hstay hkey hev h1 h3 h4 h5 h6 g2 g3 g4 g5⟩

open Classical in
set_option maxHeartbeats 2000000 in
theorem tableMakes_any (W0 H0 T0 : Int) (C0 A0 B0 : ByteArray) (ao : Option Addr) (cap : Nat) (ps : List Pc) (dr st : Bool) (lo re : Nat) (li pl : Int) (most : Int) (mx : Int) (w : World) (hm : w.cell? ⟨0, 0, none⟩ = some (.int .i64 mx)) (hC0 : C0.size ≤ maxLen) (hA0 : A0.size ≤ maxLen) (hB0 : B0.size ≤ maxLen) (hlo : lo < 256) (hre : re < 256) (h : isPcs w ao cap ps) :
    Calls Tryz.prog 3 #[.agg #[.int .i64 W0, .int .i64 H0, .string C0, .int .i64 T0, .string A0, .string B0, .slice ao ps.length cap, .bool dr, .int .u8 (lo : Int), .int .i64 li, .int .u8 (re : Int), .bool st, .int .i64 pl], .int .i64 most] w fun e w' => e = .returned (.bool true) ∧ Below w.heap.size w w' := by
  have hps : ∀ u, Below w.heap.size w u → isPcs u ao cap ps := fun u hu => h.below hu (Nat.le_refl _)
  have hmx : ∀ u, Below w.heap.size w u → u.cell? ⟨0, 0, none⟩ = some (.int .i64 mx) := fun u hu => (hu.cell (p := ⟨0, 0, none⟩) (World.block_lt_of_cell? w ⟨0, 0, none⟩ hm)).trans hm
  have hCk := fun u (hu : Below w.heap.size w u) => rCheck_any W0 H0 T0 C0 A0 B0 ao cap ps dr st lo re li pl u hC0 hA0 hB0 hlo hre (hps u hu)
  have hRu := fun u (hu : Below w.heap.size w u) => gRules_any W0 H0 T0 C0 A0 B0 ao cap ps dr st lo re li pl u hA0 hB0 hlo hre (hps u hu)
  by_cases hgood : rulesB W0 H0 C0.data.toList T0 A0.data.toList B0.data.toList ps lo li re pl = true ∧ 1 ≤ most ∧ most ≤ 5000
  · obtain ⟨hR, hm1, hm5⟩ := hgood
    rw [hR] at hCk hRu
    obtain ⟨mn, rfl⟩ : ∃ mn : Nat, most = mn := ⟨most.toNat, by omega⟩
    have hat : atB W0 H0 C0.data.toList T0 A0.data.toList B0.data.toList ps lo li re pl W0 H0 C0.data.toList T0 A0.data.toList B0.data.toList = true := by
      have hR2 := hR
      unfold rulesB at hR2
      unfold atB
      simp only [Bool.and_eq_true, decide_eq_true_eq] at hR2 ⊢
      exact ⟨⟨⟨⟨hR, hR2.1.1.1.1.1.2⟩, trivial⟩, trivial⟩, hR2.1.1.1.1.2⟩
    let s : Po := ⟨W0, H0, C0, T0, A0, B0⟩
    let ok : Po → Prop := OkP W0 H0 T0 C0.data.toList A0.data.toList B0.data.toList ps lo re li pl
    let L : Po → List Mv := movP ps dr lo li re
    let beh : Po → Mv → Po := behP dr
    let o : Po → Int := outP ps dr st lo li re
    let nx : Po → List Po := fun p => if ok p then (L p).map (beh p) else []
    let ev : Po → Int := fun p => endV (o p) p.T
    have hs : ok s := hat
    have hnx : ∀ p, ok p → nx p = (L p).map (beh p) := fun p hp => if_pos hp
    have hPoF : ∀ q, ok q → PoF ps q := fun q hq => at_facts hq
    have hpo : ∀ q, ok q → q.ok := fun q hq => (hPoF q hq).ok
    have hlen : ∀ q, ok q → (L q).length ≤ 4608 := fun q hq => mov_len (hPoF q hq)
    have hlen2 : ∀ q, (nx q).length ≤ 4608 := fun q => by
      by_cases hq : ok q
      · rw [hnx q hq, List.length_map]; exact hlen q hq
      · show (if ok q then (L q).map (beh q) else []).length ≤ 4608
        rw [if_neg hq]; simp
    have hT : ∀ q, ok q → q.T = 0 ∨ q.T = 1 := fun q hq => by
      obtain ⟨W2, H2, T2, hf2⟩ := at_facts hq
      have h1 := hf2.t
      have h2 := hf2.t1
      omega
    have hst : ∀ q, ok q → ∀ m ∈ L q, ok (beh q m) := fun q hq m hmq => at_beh hq hmq
    have hstay : ∀ p, ok p → ∀ q ∈ nx p, ok q := fun p hp q hq => by
      rw [hnx p hp] at hq
      obtain ⟨m, hmq, rfl⟩ := List.mem_map.1 hq
      exact hst p hp m hmq
    have hOL : ∀ q, ok q → (o q = 0 ↔ L q ≠ []) := fun q hq => open_P hq
    have hnil : ∀ q, ok q → (nx q = [] ↔ o q ≠ 0) := fun q hq => by
      rw [hnx q hq, List.map_eq_nil_iff]
      have := hOL q hq
      constructor
      · intro e h0; exact this.1 h0 e
      · intro h0; exact Classical.byContradiction fun e => h0 (this.2 e)
    have hor : ∀ q, ok q → 0 ≤ o q ∧ o q ≤ 3 := fun q hq => by
      obtain ⟨W2, H2, T2, hf2⟩ := at_facts hq
      have := out_range W2 H2 T2 q.C q.A q.B ps dr st lo li re
      rw [← hf2.out] at this
      exact this
    have hv0 : ∀ p, ok p → endW (o p) p.T = if nx p = [] then ev p else 0 := fun p hp => by
      by_cases h0 : o p = 0
      · rw [if_neg (fun e => (hnil p hp).1 e h0), h0]; rfl
      · rw [if_pos ((hnil p hp).2 h0)]
        exact (end_same h0 (hor p hp) (hT p hp)).1
    have hev1 : ∀ p, ok p → nx p = [] → 1 ≤ ev p := fun p hp e => (end_same ((hnil p hp).1 e) (hor p hp) (hT p hp)).2
    have hkey : ∀ p q, ok p → ok q → keyP p = keyP q → p = q := fun p q hp hq e => okP_key hp hq e
    have hsz : ∀ q, ok q → q.C.size ≤ maxLen ∧ q.A.size ≤ maxLen ∧ q.B.size ≤ maxLen := fun q hq => ⟨(hpo q hq).c, (hpo q hq).a, (hpo q hq).b⟩
    -- the program's functions
    have hO : ∀ q, ok q → ∀ u, Below w.heap.size w u → Calls Tryz.prog 8 #[.agg #[.int .i64 W0, .int .i64 H0, .string C0, .int .i64 T0, .string A0, .string B0, .slice ao ps.length cap, .bool dr, .int .u8 (lo : Int), .int .i64 li, .int .u8 (re : Int), .bool st, .int .i64 pl], .agg #[.int .i64 q.W, .int .i64 q.H, .string q.C, .int .i64 q.T, .string q.A, .string q.B]] u fun e w' => e = .returned (.tuple #[.int .i64 (o q), .int .i64 0]) ∧ Below u.heap.size u w' := fun q hq u hu => by
      obtain ⟨W2, H2, T2, hf2⟩ := at_facts hq
      have := Outcome_ok W0 H0 T0 C0 A0 B0 ao cap ps dr st lo re li pl q.W q.H q.T q.C q.A q.B u hC0 hA0 hB0 hlo hre (hps u hu) (hsz q hq).1 (hsz q hq).2.1 (hsz q hq).2.2 hq W2 H2 T2 hf2
      rw [← hf2.out] at this
      exact this
    have hBe : ∀ q, ok q → ∀ m ∈ L q, ∀ u, Below w.heap.size w u → Calls Tryz.prog 26 #[.agg #[.int .i64 W0, .int .i64 H0, .string C0, .int .i64 T0, .string A0, .string B0, .slice ao ps.length cap, .bool dr, .int .u8 (lo : Int), .int .i64 li, .int .u8 (re : Int), .bool st, .int .i64 pl], .agg #[.int .i64 q.W, .int .i64 q.H, .string q.C, .int .i64 q.T, .string q.A, .string q.B], .agg #[.int .i64 m.f, .int .i64 (m.t : Int), .int .u8 (m.c : Int)]] u fun e w' => e = .returned (.agg #[.int .i64 (beh q m).W, .int .i64 (beh q m).H, .string (beh q m).C, .int .i64 (beh q m).T, .string (beh q m).A, .string (beh q m).B]) ∧ Below u.heap.size u w' := fun q hq m hmq u hu => behind_P (hPoF q hq) hmq _ _ _ _ _ _ _ _ _ _ _ _ mx u (hmx u hu)
    have hNx : ∀ q, ok q → ∀ u, Below w.heap.size w u → Calls Tryz.prog 35 #[.agg #[.int .i64 W0, .int .i64 H0, .string C0, .int .i64 T0, .string A0, .string B0, .slice ao ps.length cap, .bool dr, .int .u8 (lo : Int), .int .i64 li, .int .u8 (re : Int), .bool st, .int .i64 pl], .agg #[.int .i64 q.W, .int .i64 q.H, .string q.C, .int .i64 q.T, .string q.A, .string q.B]] u fun e w' => ∃ x y, e = .returned (.tuple #[x, y, .int .i64 0]) ∧ w'.ownsRow u.heap.size 24 6 y (nx q).length (povs (nx q)) ∧ Below u.heap.size u w' := fun q hq u hu => by
      refine (next_walk _ _ _ _ _ _ _ _ _ _ _ _ _ q (L q) (beh q) u (hlen q hq) (fun v hv => ?_) (fun v hv => ?_) (fun m hmq v hv => hBe q hq m hmq v (hu.trans (hv.mono hu.size)))).mono ?_
      · have := rCheckPosition_any W0 H0 T0 C0 A0 B0 ao cap ps dr st lo re li pl q.W q.H q.T q.C q.A q.B v hC0 hA0 hB0 hlo hre (hps v (hu.trans (hv.mono hu.size))) (hsz q hq).1 (hsz q hq).2.1 (hsz q hq).2.2
        have hq2 : atB W0 H0 C0.data.toList T0 A0.data.toList B0.data.toList ps lo li re pl q.W q.H q.C.data.toList q.T q.A.data.toList q.B.data.toList = true := hq
        rw [hq2] at this
        exact this
      · exact list_P dr lo li re (hPoF q hq) _ _ _ _ _ _ _ _ ao cap v (hps v (hu.trans (hv.mono hu.size))) hlo hre
      · rintro e w' ⟨x, y, he, -, hy, hb⟩
        refine ⟨x, y, he, ?_, hb⟩
        rw [hnx q hq, List.length_map]
        exact hy
    have hEv : ∀ q, ok q → nx q = [] → ∀ u, Below w.heap.size w u → Calls Tryz.prog 36 #[.agg #[.int .i64 W0, .int .i64 H0, .string C0, .int .i64 T0, .string A0, .string B0, .slice ao ps.length cap, .bool dr, .int .u8 (lo : Int), .int .i64 li, .int .u8 (re : Int), .bool st, .int .i64 pl], .agg #[.int .i64 q.W, .int .i64 q.H, .string q.C, .int .i64 q.T, .string q.A, .string q.B]] u fun e w' => e = .returned (.int .i64 (ev q)) ∧ Below u.heap.size u w' := fun q hq _ u hu =>
      valueAtEnd_any _ _ _ _ _ _ _ _ _ _ _ _ _ q.W q.H q.T q.C q.A q.B (o q) 0 u (hT q hq) (fun v hv => hO q hq v (hu.trans (hv.mono hu.size)))
    have hTu : ∀ u, Below w.heap.size w u → Calls Tryz.prog 34 #[.agg #[.int .i64 W0, .int .i64 H0, .string C0, .int .i64 T0, .string A0, .string B0], .int .i64 0] u fun e w' => e = .returned (.tuple #[.agg #[.int .i64 W0, .int .i64 H0, .string C0, .int .i64 T0, .string A0, .string B0], .int .i64 0]) ∧ Below u.heap.size u w' := fun u _ => by
      obtain ⟨W2, H2, T2, hf2⟩ := at_facts hat
      have ip := at_isPos hat hf2
      have := Turned_ok (k := 0) u (by omega) ip
      rw [tstr_none C0 W2 H2 ip.c] at this
      have e1 : (twd W2 H2 0 : Nat) = W2 := rfl
      have e2 : (thd W2 H2 0 : Nat) = H2 := rfl
      rw [e1, e2, ← hf2.w, ← hf2.h, ← hf2.t] at this
      exact this
    -- the document's
    have rO : ∀ q, ok q → ∀ u, Below w.heap.size w u → Calls Tryz.prog 20 #[.agg #[.int .i64 W0, .int .i64 H0, .string C0, .int .i64 T0, .string A0, .string B0, .slice ao ps.length cap, .bool dr, .int .u8 (lo : Int), .int .i64 li, .int .u8 (re : Int), .bool st, .int .i64 pl], .agg #[.int .i64 q.W, .int .i64 q.H, .string q.C, .int .i64 q.T, .string q.A, .string q.B]] u fun e w' => e = .returned (.int .i64 (o q)) ∧ Below u.heap.size u w' := fun q hq u hu => by
      obtain ⟨W2, H2, T2, hf2⟩ := at_facts hq
      have hg := at_more hq hf2
      have := rEnds_any W2 H2 T2 q.C q.A q.B W0 H0 T0 C0 A0 B0 ao cap ps dr st lo re li pl u (hps u hu) hf2.ok hf2.t1 hf2.a hf2.b hf2.w1 hf2.h1 hf2.c hg.cell hg.let_ hlo hre hg.loc hg.rec_ hg.li
      rw [← hf2.w, ← hf2.h, ← hf2.t, ← hf2.out] at this
      exact this
    have rL : ∀ q, ok q → ∀ u, Below w.heap.size w u → Calls Tryz.prog 18 #[.agg #[.int .i64 W0, .int .i64 H0, .string C0, .int .i64 T0, .string A0, .string B0, .slice ao ps.length cap, .bool dr, .int .u8 (lo : Int), .int .i64 li, .int .u8 (re : Int), .bool st, .int .i64 pl], .agg #[.int .i64 q.W, .int .i64 q.H, .string q.C, .int .i64 q.T, .string q.A, .string q.B]] u fun e w' => ∃ v, e = .returned v ∧ w'.ownsRow u.heap.size 45 3 v (L q).length (mvals (L q)) ∧ Below u.heap.size u w' := fun q hq u hu => by
      obtain ⟨W2, H2, T2, hf2⟩ := at_facts hq
      have hg := at_more hq hf2
      have := rMoves_any W2 H2 T2 q.C q.A q.B W0 H0 T0 C0 A0 B0 ao cap ps dr st lo re li pl u (hps u hu) hf2.ok hf2.t1 hf2.a hf2.b hf2.w1 hf2.h1 hf2.c hg.cell hg.let_ hlo hre hg.loc hg.rec_ hg.li
      rw [← hf2.movs, ← hf2.w, ← hf2.h, ← hf2.t] at this
      exact this
    have rB : ∀ q, ok q → ∀ m ∈ L q, ∀ u, Below w.heap.size w u → Calls Tryz.prog 19 #[.agg #[.int .i64 W0, .int .i64 H0, .string C0, .int .i64 T0, .string A0, .string B0, .slice ao ps.length cap, .bool dr, .int .u8 (lo : Int), .int .i64 li, .int .u8 (re : Int), .bool st, .int .i64 pl], .agg #[.int .i64 q.W, .int .i64 q.H, .string q.C, .int .i64 q.T, .string q.A, .string q.B], .agg #[.int .i64 m.f, .int .i64 (m.t : Int), .int .u8 (m.c : Int)]] u fun e w' => e = .returned (.agg #[.int .i64 (beh q m).W, .int .i64 (beh q m).H, .string (beh q m).C, .int .i64 (beh q m).T, .string (beh q m).A, .string (beh q m).B]) ∧ Below u.heap.size u w' := fun q hq m hmq u _ => made_P hq hmq _ _ _ _ _ _ _ _ _ _ _ _ u
    refine law_tm _ _ _ _ _ _ _ _ _ _ _ _ _ _ (tmP nx ev s mn) (tdP nx ev s mn) w (both_same hs hstay hkey hev1) (fun u hu => ?_) (fun u hu => ?_)
    · have hmk := make_walk nx ev ok s _ _ _ _ _ _ _ mn u (by omega) (by omega) hs hpo hstay hlen2 hev1 (fun v hv => hCk v (hu.trans (hv.mono hu.size))) (fun v hv => hTu v (hu.trans (hv.mono hu.size))) (fun p hp v hv => hNx p hp v (hu.trans (hv.mono hu.size))) (fun p hp hn v hv => hEv p hp hn v (hu.trans (hv.mono hu.size)))
      refine hmk.mono ?_
      rintro e w' ⟨hb, (⟨hbig, rfl⟩ | ⟨g, cp, nds, ts, rfl, hrow, h1, h2, -, h4, h5, h6, h7⟩)⟩
      · exact ⟨⟨_, _, [], rfl, ⟨rfl, .inl ⟨rfl, rfl⟩⟩, .inl ⟨rfl, rfl, hbig⟩⟩, hb⟩
      · exact ⟨⟨_, _, ts, rfl, hrow, .inr ⟨rfl, nds, h1, h2, h4, h5, h6, h7⟩⟩, hb⟩
    · have htd := tabled_walk nx ev ok L beh o s _ _ _ _ _ _ _ mn u (by omega) (by omega) hs hpo hT hstay hnx hlen hv0 hev1 hkey (fun v hv => hRu v (hu.trans (hv.mono hu.size))) (fun p hp v hv => rL p hp v (hu.trans (hv.mono hu.size))) (fun p hp m hmq v hv => rB p hp m hmq v (hu.trans (hv.mono hu.size))) (fun p hp v hv => rO p hp v (hu.trans (hv.mono hu.size)))
      refine htd.mono ?_
      rintro e w' ⟨hb, (⟨hbig, rfl⟩ | ⟨g, N, D, ts, rfl, hrow, h1, h2, h3, h4, h5⟩)⟩
      · exact ⟨⟨_, _, [], rfl, ⟨rfl, .inl ⟨rfl, rfl⟩⟩, .inl ⟨rfl, rfl, hbig⟩⟩, hb⟩
      · have htl : ts.length = N := by rw [h4.length_eq, enF_len, h2]
        exact ⟨⟨_, _, ts, rfl, by rw [htl]; exact hrow, .inr ⟨rfl, N, D, h1, h2, h3, h4, h5⟩⟩, hb⟩
  · have hno : rulesB W0 H0 C0.data.toList T0 A0.data.toList B0.data.toList ps lo li re pl = false ∨ most < 1 ∨ 5000 < most := by
      cases hR : rulesB W0 H0 C0.data.toList T0 A0.data.toList B0.data.toList ps lo li re pl with
      | false => exact .inl rfl
      | true =>
        right
        rw [hR] at hgood
        by_cases h1 : most < 1
        · exact .inl h1
        · exact .inr (by
            apply Classical.byContradiction
            intro h2
            exact hgood ⟨rfl, by omega, by omega⟩)
    refine law_tm _ _ _ _ _ _ _ _ _ _ _ _ _ _ (fun c ts => c = 1 ∧ ts = []) (fun c ts => c = 1 ∧ ts = []) w (fun c ts c' ts' h1 h2 => ⟨by rw [h1.1, h2.1], by rw [h1.2, h2.2]⟩) (fun u hu => ?_) (fun u hu => ?_)
    · refine (make_no _ _ _ _ _ _ _ _ _ _ _ _ _ _ most u ?_ (fun v hv => hCk v (hu.trans (hv.mono hu.size)))).mono ?_
      · rcases hno with h1 | h1
        · exact .inl (by rw [h1]; decide)
        · exact .inr h1
      · rintro e w' ⟨rfl, hb⟩
        exact ⟨⟨_, _, [], rfl, ⟨rfl, .inl ⟨rfl, rfl⟩⟩, rfl, rfl⟩, hb⟩
    · refine (tabled_no _ _ _ _ _ _ _ _ _ _ _ _ _ _ most u hno (fun v hv => hRu v (hu.trans (hv.mono hu.size)))).mono ?_
      rintro e w' ⟨rfl, hb⟩
      exact ⟨⟨_, _, [], rfl, ⟨rfl, .inl ⟨rfl, rfl⟩⟩, rfl, rfl⟩, hb⟩
end Go.Proofs.YtbijadnekoeofaaGreatDoor
