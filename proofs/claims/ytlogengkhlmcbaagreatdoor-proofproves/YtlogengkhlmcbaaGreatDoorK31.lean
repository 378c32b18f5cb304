/-
  gamelaw.ProofProves, walked for whatever comes in.
-/
import Derived.Test.YtlogengkhlmcbaaGreatDoorJ28
import Derived.Test.YtlogengkhlmcbaaGreatDoorJ32
import Derived.Test.YtlogengkhlmcbaaGreatDoorJ33
import Derived.Test.YtlogengkhlmcbaaGreatDoorJ37
import Derived.Test.YtlogengkhlmcbaaGreatDoorJ40
import Derived.Test.YtlogengkhlmcbaaGreatDoorJ30
import Derived.Test.YtlogengkhlmcbaaGreatDoorJ42
import Derived.Test.YtlogengkhlmcbaaGreatDoorK4
import Derived.Test.YtlogengkhlmcbaaGreatDoorV33
namespace Go.Proofs.YtlogengkhlmcbaaGreatDoor
open Go.RowKit

set_option maxHeartbeats 2000000 in
theorem proofProves_any (W0 H0 T0 : Int) (C0 A0 B0 : ByteArray) (ao : Option Addr) (cap : Nat) (ps : List Pc) (dr st : Bool) (lo re : Nat) (li pl : Int) (p : Po) (d : Int) (x : Ct) (no : Option Addr) (nc k : Nat) (mx : Int) (w : World) (hm : w.cell? ⟨0, 0, none⟩ = some (.int .i64 mx)) (hC0 : C0.size ≤ maxLen) (hA0 : A0.size ≤ maxLen) (hB0 : B0.size ≤ maxLen) (hlo : lo < 256) (hre : re < 256) (h : isPcs w ao cap ps) (hC : p.C.size ≤ maxLen) (hA : p.A.size ≤ maxLen) (hB : p.B.size ≤ maxLen) (hxc : x.c < 256) (hx : isCts k w w.heap.size no nc x.ks) :
    Calls Tryz.prog 3 #[.agg #[.int .i64 W0, .int .i64 H0, .string C0, .int .i64 T0, .string A0, .string B0, .slice ao ps.length cap, .bool dr, .int .u8 (lo : Int), .int .i64 li, .int .u8 (re : Int), .bool st, .int .i64 pl], .agg #[.int .i64 p.W, .int .i64 p.H, .string p.C, .int .i64 p.T, .string p.A, .string p.B], .int .i64 d, .agg #[.bool x.s, .int .i64 x.f, .int .i64 x.t, .int .u8 (x.c : Int), .slice no x.ks.length nc]] w fun e w' => e = .returned (.bool true) ∧ Below w.heap.size w w' := by
  have hps : ∀ u, Below w.heap.size w u → isPcs u ao cap ps := fun u hu => h.below hu (Nat.le_refl _)
  have hmx : ∀ u, Below w.heap.size w u → u.cell? ⟨0, 0, none⟩ = some (.int .i64 mx) := fun u hu => (hu.cell (p := ⟨0, 0, none⟩) (World.block_lt_of_cell? w ⟨0, 0, none⟩ hm)).trans hm
  -- what CheckPosition and Of say
  have hCP := fun u (hu : Below w.heap.size w u) => rCheckPosition_any W0 H0 T0 C0 A0 B0 ao cap ps dr st lo re li pl p.W p.H p.T p.C p.A p.B u hC0 hA0 hB0 hlo hre (hps u hu) hC hA hB
  have hOf := fun u (hu : Below w.heap.size w u) => rOf_any W0 H0 T0 C0 A0 B0 ao cap ps dr st lo re li pl p.W p.H p.T p.C p.A p.B u hA0 hB0 hlo hre (hps u hu) hA hB
  have hck := fun (E : Int) (hE : ∀ u, Below w.heap.size w u → Calls Tryz.prog 22 #[.agg #[.int .i64 W0, .int .i64 H0, .string C0, .int .i64 T0, .string A0, .string B0, .slice ao ps.length cap, .bool dr, .int .u8 (lo : Int), .int .i64 li, .int .u8 (re : Int), .bool st, .int .i64 pl], .agg #[.int .i64 p.W, .int .i64 p.H, .string p.C, .int .i64 p.T, .string p.A, .string p.B]] u fun e w' => e = .returned (.int .i64 E) ∧ Below u.heap.size u w') (u : World) (hu : Below w.heap.size w u) =>
    pcheck_any (.int .i64 W0) (.int .i64 H0) (.string C0) (.int .i64 T0) (.string A0) (.string B0) (.slice ao ps.length cap) (.bool dr) (.int .u8 (lo : Int)) (.int .i64 li) (.int .u8 (re : Int)) (.bool st) (.int .i64 pl) p d E u (fun v hv => hE v (hu.trans (hv.mono hu.size)))
  cases hat : atB W0 H0 C0.data.toList T0 A0.data.toList B0.data.toList ps lo li re pl p.W p.H p.C.data.toList p.T p.A.data.toList p.B.data.toList with
  | false =>
    rw [hat] at hCP hOf
    have hc1 := hck 1 hCP
    have e1 : pchE 1 d = 1 := by unfold pchE; rw [if_pos (by omega)]
    rw [e1] at hc1
    refine law_err (.int .i64 W0) (.int .i64 H0) (.string C0) (.int .i64 T0) (.string A0) (.string B0) (.slice ao ps.length cap) (.bool dr) (.int .u8 (lo : Int)) (.int .i64 li) (.int .u8 (re : Int)) (.bool st) (.int .i64 pl) p d x.s x.f x.t x.c (.slice no x.ks.length nc) 1 false w (.inl ⟨rfl, rfl⟩) (fun u hu => ?_) (fun u hu => ?_) hOf
    · exact prove_no _ _ _ _ _ _ _ _ _ _ _ _ _ p d 1 u (by omega) (fun v hv => hc1 v (hu.trans (hv.mono hu.size)))
    · exact pCheck_any _ _ _ _ _ _ _ _ _ _ _ _ _ p d 1 x.s x.f x.t x.c _ false u (fun v hv => hc1 v (hu.trans (hv.mono hu.size))) (fun e => by omega)
  | true =>
    rw [hat] at hCP hOf
    have hc0 := hck 0 hCP
    by_cases hd : 0 ≤ d ∧ d ≤ 9
    · have e0 : pchE 0 d = 0 := by unfold pchE; rw [if_neg (by omega), if_pos hd]
      rw [e0] at hc0
      obtain ⟨dn, rfl⟩ : ∃ dn : Nat, d = dn := ⟨d.toNat, by omega⟩
      have hd9 : dn ≤ 9 := by omega
      obtain ⟨W', H', T', hf⟩ := at_facts hat
      have hwin : p.T = 0 ∨ p.T = 1 := by
        have h1 := hf.t
        have h2 := hf.t1
        omega
      -- the game
      let ok : Po → Prop := OkP W0 H0 T0 C0.data.toList A0.data.toList B0.data.toList ps lo re li pl
      let L : Po → List Mv := movP ps dr lo li re
      let beh : Po → Mv → Po := behP dr
      let o : Po → Int := outP ps dr st lo li re
      have hp : ok p := hat
      have D : Duel ok (fun q => (L q).map (beh q)) (fun q => o q == p.T + 1) (fun q => q.T == p.T) := duel_P dr st p.T hwin hlo hre
      have hPoF : ∀ q, ok q → PoF ps q := fun q hq => at_facts hq
      have hpo : ∀ q, ok q → q.ok := fun q hq => (hPoF q hq).ok
      have hlen : ∀ q, ok q → (L q).length ≤ 4608 := fun q hq => mov_len (hPoF q hq)
      have hc8 : ∀ q, ok q → ∀ m ∈ L q, m.c < 256 := fun q hq m hmq => by
        obtain ⟨W2, H2, T2, hf2⟩ := at_facts hq
        have hm2 : m ∈ movP ps dr lo li re q := hmq
        rw [hf2.movs] at hm2
        exact (mov_is hm2).facts.2.2
      have hOL : ∀ q, ok q → (o q = 0 ↔ L q ≠ []) := fun q hq => open_P hq
      have hst : ∀ q, ok q → ∀ m ∈ L q, ok (beh q m) := fun q hq m hmq => at_beh hq hmq
      have hsz : ∀ q, ok q → q.C.size ≤ maxLen ∧ q.A.size ≤ maxLen ∧ q.B.size ≤ maxLen := fun q hq => ⟨(hpo q hq).c, (hpo q hq).a, (hpo q hq).b⟩
      -- the program's functions
      have hO : ∀ q, ok q → ∀ u, Below w.heap.size w u → Calls Tryz.prog 47 #[.agg #[.int .i64 W0, .int .i64 H0, .string C0, .int .i64 T0, .string A0, .string B0, .slice ao ps.length cap, .bool dr, .int .u8 (lo : Int), .int .i64 li, .int .u8 (re : Int), .bool st, .int .i64 pl], .agg #[.int .i64 q.W, .int .i64 q.H, .string q.C, .int .i64 q.T, .string q.A, .string q.B]] u fun e w' => e = .returned (.tuple #[.int .i64 (o q), .int .i64 0]) ∧ Below u.heap.size u w' := fun q hq u hu => by
        obtain ⟨W2, H2, T2, hf2⟩ := at_facts hq
        have := Outcome_ok W0 H0 T0 C0 A0 B0 ao cap ps dr st lo re li pl q.W q.H q.T q.C q.A q.B u hC0 hA0 hB0 hlo hre (hps u hu) (hsz q hq).1 (hsz q hq).2.1 (hsz q hq).2.2 hq W2 H2 T2 hf2
        rw [← hf2.out] at this
        exact this
      have hLm : ∀ q, ok q → ∀ u, Below w.heap.size w u → Calls Tryz.prog 24 #[.agg #[.int .i64 W0, .int .i64 H0, .string C0, .int .i64 T0, .string A0, .string B0, .slice ao ps.length cap, .bool dr, .int .u8 (lo : Int), .int .i64 li, .int .u8 (re : Int), .bool st, .int .i64 pl], .agg #[.int .i64 q.W, .int .i64 q.H, .string q.C, .int .i64 q.T, .string q.A, .string q.B]] u fun e w' => ∃ v, e = .returned (.tuple #[v, .int .i64 0]) ∧ w'.ownsRow u.heap.size 29 3 v (L q).length (mvals (L q)) ∧ Below u.heap.size u w' := fun q hq u hu => by
        obtain ⟨W2, H2, T2, hf2⟩ := at_facts hq
        have := Moves_ok W0 H0 T0 C0 A0 B0 ao cap ps dr st lo re li pl q.W q.H q.T q.C q.A q.B u hC0 hA0 hB0 hlo hre (hps u hu) (hsz q hq).1 (hsz q hq).2.1 (hsz q hq).2.2 hq W2 H2 T2 hf2
        rw [← hf2.movs] at this
        exact this
      have hBe : ∀ q, ok q → ∀ m ∈ L q, ∀ u, Below w.heap.size w u → Calls Tryz.prog 49 #[.agg #[.int .i64 W0, .int .i64 H0, .string C0, .int .i64 T0, .string A0, .string B0, .slice ao ps.length cap, .bool dr, .int .u8 (lo : Int), .int .i64 li, .int .u8 (re : Int), .bool st, .int .i64 pl], .agg #[.int .i64 q.W, .int .i64 q.H, .string q.C, .int .i64 q.T, .string q.A, .string q.B], .agg #[.int .i64 m.f, .int .i64 (m.t : Int), .int .u8 (m.c : Int)]] u fun e w' => e = .returned (.agg #[.int .i64 (beh q m).W, .int .i64 (beh q m).H, .string (beh q m).C, .int .i64 (beh q m).T, .string (beh q m).A, .string (beh q m).B]) ∧ Below u.heap.size u w' := fun q hq m hmq u hu => behind_P (hPoF q hq) hmq _ _ _ _ _ _ _ _ _ _ _ _ mx u (hmx u hu)
      have hNx : ∀ q, ok q → ∀ u, Below w.heap.size w u → Calls Tryz.prog 28 #[.agg #[.int .i64 W0, .int .i64 H0, .string C0, .int .i64 T0, .string A0, .string B0, .slice ao ps.length cap, .bool dr, .int .u8 (lo : Int), .int .i64 li, .int .u8 (re : Int), .bool st, .int .i64 pl], .agg #[.int .i64 q.W, .int .i64 q.H, .string q.C, .int .i64 q.T, .string q.A, .string q.B]] u fun e w' => ∃ x y, e = .returned (.tuple #[x, y, .int .i64 0]) ∧ w'.ownsRow u.heap.size 29 3 x (L q).length (mvals (L q)) ∧ w'.ownsRow u.heap.size 24 6 y (L q).length (povs ((L q).map (beh q))) ∧ Below u.heap.size u w' := fun q hq u hu => by
        refine next_walk _ _ _ _ _ _ _ _ _ _ _ _ _ q (L q) (beh q) u (hlen q hq) (fun v hv => ?_) (fun v hv => ?_) (fun m hmq v hv => hBe q hq m hmq v (hu.trans (hv.mono hu.size)))
        · have := rCheckPosition_any W0 H0 T0 C0 A0 B0 ao cap ps dr st lo re li pl q.W q.H q.T q.C q.A q.B v hC0 hA0 hB0 hlo hre (hps v (hu.trans (hv.mono hu.size))) (hsz q hq).1 (hsz q hq).2.1 (hsz q hq).2.2
          have hq2 : atB W0 H0 C0.data.toList T0 A0.data.toList B0.data.toList ps lo li re pl q.W q.H q.C.data.toList q.T q.A.data.toList q.B.data.toList = true := hq
          rw [hq2] at this
          exact this
        · exact list_P dr lo li re (hPoF q hq) _ _ _ _ _ _ _ _ ao cap v (hps v (hu.trans (hv.mono hu.size))) hlo hre
      -- the document's
      have rO : ∀ q, ok q → ∀ u, Below w.heap.size w u → Calls Tryz.prog 18 #[.agg #[.int .i64 W0, .int .i64 H0, .string C0, .int .i64 T0, .string A0, .string B0, .slice ao ps.length cap, .bool dr, .int .u8 (lo : Int), .int .i64 li, .int .u8 (re : Int), .bool st, .int .i64 pl], .agg #[.int .i64 q.W, .int .i64 q.H, .string q.C, .int .i64 q.T, .string q.A, .string q.B]] u fun e w' => e = .returned (.int .i64 (o q)) ∧ Below u.heap.size u w' := fun q hq u hu => by
        obtain ⟨W2, H2, T2, hf2⟩ := at_facts hq
        have hg := at_more hq hf2
        have := rEnds_any W2 H2 T2 q.C q.A q.B W0 H0 T0 C0 A0 B0 ao cap ps dr st lo re li pl u (hps u hu) hf2.ok hf2.t1 hf2.a hf2.b hf2.w1 hf2.h1 hf2.c hg.cell hg.let_ hlo hre hg.loc hg.rec_ hg.li
        rw [← hf2.w, ← hf2.h, ← hf2.t, ← hf2.out] at this
        exact this
      have rL : ∀ q, ok q → ∀ u, Below w.heap.size w u → Calls Tryz.prog 19 #[.agg #[.int .i64 W0, .int .i64 H0, .string C0, .int .i64 T0, .string A0, .string B0, .slice ao ps.length cap, .bool dr, .int .u8 (lo : Int), .int .i64 li, .int .u8 (re : Int), .bool st, .int .i64 pl], .agg #[.int .i64 q.W, .int .i64 q.H, .string q.C, .int .i64 q.T, .string q.A, .string q.B]] u fun e w' => ∃ v, e = .returned v ∧ w'.ownsRow u.heap.size 29 3 v (L q).length (mvals (L q)) ∧ Below u.heap.size u w' := fun q hq u hu => by
        obtain ⟨W2, H2, T2, hf2⟩ := at_facts hq
        have hg := at_more hq hf2
        have := rMoves_any W2 H2 T2 q.C q.A q.B W0 H0 T0 C0 A0 B0 ao cap ps dr st lo re li pl u (hps u hu) hf2.ok hf2.t1 hf2.a hf2.b hf2.w1 hf2.h1 hf2.c hg.cell hg.let_ hlo hre hg.loc hg.rec_ hg.li
        rw [← hf2.movs, ← hf2.w, ← hf2.h, ← hf2.t] at this
        exact this
      have rB : ∀ q, ok q → ∀ m ∈ L q, ok (beh q m) ∧ ∀ u, Below w.heap.size w u → Calls Tryz.prog 21 #[.agg #[.int .i64 W0, .int .i64 H0, .string C0, .int .i64 T0, .string A0, .string B0, .slice ao ps.length cap, .bool dr, .int .u8 (lo : Int), .int .i64 li, .int .u8 (re : Int), .bool st, .int .i64 pl], .agg #[.int .i64 q.W, .int .i64 q.H, .string q.C, .int .i64 q.T, .string q.A, .string q.B], .agg #[.int .i64 m.f, .int .i64 (m.t : Int), .int .u8 (m.c : Int)]] u fun e w' => e = .returned (.agg #[.int .i64 (beh q m).W, .int .i64 (beh q m).H, .string (beh q m).C, .int .i64 (beh q m).T, .string (beh q m).A, .string (beh q m).B]) ∧ Below u.heap.size u w' := fun q hq m hmq => ⟨hst q hq m hmq, fun u _ => made_P hq hmq _ _ _ _ _ _ _ _ _ _ _ _ u⟩
      -- the hunt
      obtain ⟨most, hmost⟩ : ∃ most, most = (dn + 1) / 2 := ⟨_, rfl⟩
      have hm9 : most ≤ 9 := by omega
      have hND : ∀ (hb g u0 : Nat) (v0 : World), Below w.heap.size w v0 → v0.heap.size = u0 → u0 ≤ g → hb ≠ g → ∀ (mo : Nat) (q : Po), ok q → mo ≤ 9 → ∀ u, Below u0 v0 u → isHu u hb g (.int .i64 W0) (.int .i64 H0) (.string C0) (.int .i64 T0) (.string A0) (.string B0) (.slice ao ps.length cap) (.bool dr) (.int .u8 (lo : Int)) (.int .i64 li) (.int .u8 (re : Int)) (.bool st) (.int .i64 pl) p.T → knows u g 262144 (huntF ok (fun q => (L q).map (beh q)) (fun q => o q == p.T + 1) (fun q => q.T == p.T)) → Calls Tryz.prog 12 #[.pointer (some ⟨hb, 0, none⟩), .agg #[.int .i64 q.W, .int .i64 q.H, .string q.C, .int .i64 q.T, .string q.A, .string q.B], .int .i64 (mo : Int)] u (NeedP (fun q => (L q).map (beh q)) (fun q => o q == p.T + 1) (fun q => q.T == p.T) q mo g (huntF ok (fun q => (L q).map (beh q)) (fun q => o q == p.T + 1) (fun q => q.T == p.T)) u) := fun hb g u0 v0 hv0 hs hg hne mo q hq hmo u hu hH hK => by
        subst hs
        exact need_walk ok L beh o _ _ _ _ _ _ _ _ _ _ _ _ _ p.T hb g v0 hwin D hg hne hpo hlen (fun q hq u hu => hO q hq u (hv0.trans (hu.mono hv0.size))) (fun q hq u hu => hLm q hq u (hv0.trans (hu.mono hv0.size))) (fun q hq m hmq u hu => hBe q hq m hmq u (hv0.trans (hu.mono hv0.size))) 100 mo q hq hmo (by split <;> omega) u hu hH hK
      have hown : winsN (fun q => (L q).map (beh q)) (fun q => o q == p.T + 1) (fun q => q.T == p.T) dn p = ownN (fun q => (L q).map (beh q)) (fun q => o q == p.T + 1) (fun q => q.T == p.T) most p := by
        have ht : (p.T == p.T) = true := by simp
        rw [(wins_eq D dn p hp).1 ht, ← hmost]
        unfold ownN
        rw [if_pos (show (fun q : Po => q.T == p.T) p = true from ht)]
      have hP : ∀ u, Below w.heap.size w u → Calls Tryz.prog 4 #[.agg #[.int .i64 W0, .int .i64 H0, .string C0, .int .i64 T0, .string A0, .string B0, .slice ao ps.length cap, .bool dr, .int .u8 (lo : Int), .int .i64 li, .int .u8 (re : Int), .bool st, .int .i64 pl], .agg #[.int .i64 p.W, .int .i64 p.H, .string p.C, .int .i64 p.T, .string p.A, .string p.B], .int .i64 (dn : Int)] u (PvP (fun n x => shN L beh o p.T n p x) (2 * most - 1) (ownN (fun q => (L q).map (beh q)) (fun q => o q == p.T + 1) (fun q => q.T == p.T) most p) u) := fun u hu => by
        refine prove_yes _ _ _ _ _ _ _ _ _ _ _ _ _ _ _ _ p dn most 101 _ (huntF ok (fun q => (L q).map (beh q)) (fun q => o q == p.T + 1) (fun q => q.T == p.T)) _ u hd9 hmost (fun r hr h1 => own_le D hr hp h1) (fun q _ _ => fnd_zero q) (fun v hv => hc0 v (hu.trans (hv.mono hu.size))) (fun hb g v hv hg hne hH hK => hND hb g _ u hu rfl hg hne most p hp hm9 v hv hH hK) (fun h1 hb g v hv hg hne hH hK => ?_)
        have ht : (p.T == p.T) = true := by simp
        have := cert_walk ok L beh o _ _ _ _ _ _ _ _ _ _ _ _ _ p.T hb g u D hg hne hlen hc8 (fun mo q hq hmo v hv hH hK => hND hb g _ u hu rfl hg hne mo q hq hmo v hv hH hK) (fun q hq v hv => hNx q hq v (hu.trans (hv.mono hu.size))) 100 most p hp hm9 (by split <;> omega) h1 v hv hH hK
        rw [ht, if_pos rfl] at this
        exact this
      have hSh : ∀ (y : Ct) (yo : Option Addr) (yc dd B : Nat) (u : World), Below w.heap.size w u → B ≤ u.heap.size → isCts dd u B yo yc y.ks → y.c < 256 → Calls Tryz.prog 7 #[.agg #[.int .i64 W0, .int .i64 H0, .string C0, .int .i64 T0, .string A0, .string B0, .slice ao ps.length cap, .bool dr, .int .u8 (lo : Int), .int .i64 li, .int .u8 (re : Int), .bool st, .int .i64 pl], .agg #[.int .i64 p.W, .int .i64 p.H, .string p.C, .int .i64 p.T, .string p.A, .string p.B], .int .i64 (dn : Int), .int .i64 p.T, .agg #[.bool y.s, .int .i64 y.f, .int .i64 y.t, .int .u8 (y.c : Int), .slice yo y.ks.length yc]] u fun e w' => e = .returned (.bool (shN L beh o p.T dn p y)) ∧ Below u.heap.size u w' := fun y yo yc dd B u hu hB hy hyc => shows_walk ok L beh o _ _ _ _ _ _ _ _ _ _ _ _ _ p.T w hwin hlen hOL rO rL rB dn hd9 p hp y yo yc dd B u hu hB hy hyc
      have hK : ∀ u, Below w.heap.size w u → Calls Tryz.prog 5 #[.agg #[.int .i64 W0, .int .i64 H0, .string C0, .int .i64 T0, .string A0, .string B0, .slice ao ps.length cap, .bool dr, .int .u8 (lo : Int), .int .i64 li, .int .u8 (re : Int), .bool st, .int .i64 pl], .agg #[.int .i64 p.W, .int .i64 p.H, .string p.C, .int .i64 p.T, .string p.A, .string p.B], .int .i64 (dn : Int), .agg #[.bool x.s, .int .i64 x.f, .int .i64 x.t, .int .u8 (x.c : Int), .slice no x.ks.length nc]] u fun e w' => e = .returned (.tuple #[.bool (shN L beh o p.T dn p x), .int .i64 0]) ∧ Below u.heap.size u w' := fun u hu =>
        pCheck_any _ _ _ _ _ _ _ _ _ _ _ _ _ p dn 0 x.s x.f x.t x.c _ (shN L beh o p.T dn p x) u (fun v hv => hc0 v (hu.trans (hv.mono hu.size))) (fun _ v hv => shown_walk ok L beh o _ _ _ _ _ _ _ _ _ _ _ _ _ p.T w hwin hO hLm (fun q hq m hmq => ⟨hst q hq m hmq, fun u hu => hBe q hq m hmq u hu⟩) dn hd9 p hp x no nc k w.heap.size v (hu.trans (hv.mono hu.size)) (hu.trans (hv.mono hu.size)).size (isCts.below (hu.trans (hv.mono hu.size)) (Nat.le_refl _) _ _ _ _ hx) hxc)
      have hWi : ∀ u, Below w.heap.size w u → Calls Tryz.prog 8 #[.agg #[.int .i64 W0, .int .i64 H0, .string C0, .int .i64 T0, .string A0, .string B0, .slice ao ps.length cap, .bool dr, .int .u8 (lo : Int), .int .i64 li, .int .u8 (re : Int), .bool st, .int .i64 pl], .agg #[.int .i64 p.W, .int .i64 p.H, .string p.C, .int .i64 p.T, .string p.A, .string p.B], .int .i64 (dn : Int), .int .i64 p.T] u fun e w' => e = .returned (.bool (ownN (fun q => (L q).map (beh q)) (fun q => o q == p.T + 1) (fun q => q.T == p.T) most p)) ∧ Below u.heap.size u w' := fun u hu => by
        have := wins_walk ok L beh o _ _ _ _ _ _ _ _ _ _ _ _ _ p.T w hwin hlen hOL rO rL rB dn hd9 p hp u hu
        rw [hown] at this
        exact this
      have hS := fun u (hu : Below w.heap.size w u) => hSh x no nc k w.heap.size u hu hu.size (isCts.below hu (Nat.le_refl _) _ _ _ _ hx) hxc
      have hSX : ∀ (xs : Bool) (xf xt : Int) (xc : Nat) (xks : List Ct) (yo : Option Addr) (yc dd : Nat) (w4 : World), Below w.heap.size w w4 → xc < 256 → isCts dd w4 w4.heap.size yo yc xks → (∀ n, 2 * most - 1 ≤ n → shN L beh o p.T n p (.mk xs xf xt xc xks) = true) → ∀ u, Below w4.heap.size w4 u → Calls Tryz.prog 7 #[.agg #[.int .i64 W0, .int .i64 H0, .string C0, .int .i64 T0, .string A0, .string B0, .slice ao ps.length cap, .bool dr, .int .u8 (lo : Int), .int .i64 li, .int .u8 (re : Int), .bool st, .int .i64 pl], .agg #[.int .i64 p.W, .int .i64 p.H, .string p.C, .int .i64 p.T, .string p.A, .string p.B], .int .i64 (dn : Int), .int .i64 p.T, .agg #[.bool xs, .int .i64 xf, .int .i64 xt, .int .u8 (xc : Int), .slice yo xks.length yc]] u fun e w' => e = .returned (.bool true) ∧ Below u.heap.size u w' := fun xs xf xt xc xks yo yc dd w4 h4 hc hk hs u hu => by
        have := hSh (.mk xs xf xt xc xks) yo yc dd w4.heap.size u (h4.trans (hu.mono h4.size)) hu.size (isCts.below hu (Nat.le_refl _) _ _ _ _ hk) hc
        rw [hs dn (by omega)] at this
        exact this
      cases hw1 : ownN (fun q => (L q).map (beh q)) (fun q => o q == p.T + 1) (fun q => q.T == p.T) most p with
      | false =>
        rw [hw1] at hP hWi
        exact law_okF _ _ _ _ _ _ _ _ _ _ _ _ _ p dn x.s x.f x.t x.c _ _ _ _ w hd9 hP hK hOf hS hWi hSX
      | true =>
        rw [hw1] at hP hWi
        exact law_okT _ _ _ _ _ _ _ _ _ _ _ _ _ p dn x.s x.f x.t x.c _ _ _ _ w hd9 hP hK hOf hS hWi hSX
    · have e4 : pchE 0 d = 4 := by unfold pchE; rw [if_neg (by omega), if_neg hd]
      rw [e4] at hc0
      refine law_err (.int .i64 W0) (.int .i64 H0) (.string C0) (.int .i64 T0) (.string A0) (.string B0) (.slice ao ps.length cap) (.bool dr) (.int .u8 (lo : Int)) (.int .i64 li) (.int .u8 (re : Int)) (.bool st) (.int .i64 pl) p d x.s x.f x.t x.c (.slice no x.ks.length nc) 4 true w (.inr ⟨rfl, rfl, by omega⟩) (fun u hu => ?_) (fun u hu => ?_) hOf
      · exact prove_no _ _ _ _ _ _ _ _ _ _ _ _ _ p d 4 u (by omega) (fun v hv => hc0 v (hu.trans (hv.mono hu.size)))
      · exact pCheck_any _ _ _ _ _ _ _ _ _ _ _ _ _ p d 4 x.s x.f x.t x.c _ false u (fun v hv => hc0 v (hu.trans (hv.mono hu.size))) (fun e => by omega)
end Go.Proofs.YtlogengkhlmcbaaGreatDoor
