/-
  gamekeep.TableTrue, walked for whatever comes in.
-/
import Derived.Test.YtbijadnekoeofaaGreatDoorJ38
import Derived.Test.YtbijadnekoeofaaGreatDoorJ21
import Derived.Test.YtbijadnekoeofaaGreatDoorU9
namespace Go.Proofs.YtbijadnekoeofaaGreatDoor
open Go.RowKit Go.Sort

theorem endV_range {o T : Int} (hT : T = 0 ∨ T = 1) : 1 ≤ endV o T ∧ endV o T ≤ 3 ∧ (endV o T ≠ 3 → o ≠ 3) := by
  unfold endV
  rcases hT with rfl | rfl <;> repeat' split
  all_goals omega
theorem inM_mem {m : Mv} {l : List Mv} (h : m ∈ l) : inM m.f (m.t : Int) m.c l = true := by
  unfold inM
  rw [List.any_eq_true]
  exact ⟨m, h, by simp [eqM]⟩

open Classical in
set_option maxHeartbeats 2000000 in
theorem tableTrue_any (W0 H0 T0 : Int) (C0 A0 B0 : ByteArray) (ao : Option Addr) (cap : Nat) (ps : List Pc) (dr st : Bool) (lo re : Nat) (li pl : Int) (most : Int) (mx : Int) (w : World) (hm : w.cell? ⟨0, 0, none⟩ = some (.int .i64 mx)) (hC0 : C0.size ≤ maxLen) (hA0 : A0.size ≤ maxLen) (hB0 : B0.size ≤ maxLen) (hlo : lo < 256) (hre : re < 256) (h : isPcs w ao cap ps) :
    Calls Tryz.prog 4 #[.agg #[.int .i64 W0, .int .i64 H0, .string C0, .int .i64 T0, .string A0, .string B0, .slice ao ps.length cap, .bool dr, .int .u8 (lo : Int), .int .i64 li, .int .u8 (re : Int), .bool st, .int .i64 pl], .int .i64 most] w fun e w' => e = .returned (.bool true) ∧ Below w.heap.size w w' := by
  have hps : ∀ u, Below w.heap.size w u → isPcs u ao cap ps := fun u hu => h.below hu (Nat.le_refl _)
  have hmx : ∀ u, Below w.heap.size w u → u.cell? ⟨0, 0, none⟩ = some (.int .i64 mx) := fun u hu => (hu.cell (p := ⟨0, 0, none⟩) (World.block_lt_of_cell? w ⟨0, 0, none⟩ hm)).trans hm
  have hCk := fun u (hu : Below w.heap.size w u) => rCheck_any W0 H0 T0 C0 A0 B0 ao cap ps dr st lo re li pl u hC0 hA0 hB0 hlo hre (hps u hu)
  by_cases hgood : rulesB W0 H0 C0.data.toList T0 A0.data.toList B0.data.toList ps lo li re pl = true ∧ 1 ≤ most ∧ most ≤ 5000
  · obtain ⟨hR, hm1, hm5⟩ := hgood
    rw [hR] at hCk
    obtain ⟨mn, rfl⟩ : ∃ mn : Nat, most = mn := ⟨most.toNat, by omega⟩
    have hat : atB W0 H0 C0.data.toList T0 A0.data.toList B0.data.toList ps lo li re pl W0 H0 C0.data.toList T0 A0.data.toList B0.data.toList = true := by
      have hR2 := hR
      unfold rulesB at hR2
      unfold atB
      simp only [Bool.and_eq_true, decide_eq_true_eq] at hR2 ⊢
      exact ⟨⟨⟨⟨hR, hR2.1.1.1.1.1.2⟩, trivial⟩, trivial⟩, hR2.1.1.1.1.2⟩
    let s : Po := ⟨W0, H0, C0, T0, A0, B0⟩
    let ok : Po → Prop := OkP W0 H0 T0 C0.data.toList A0.data.toList B0.data.toList ps lo re li pl
    let L : Po → List Mv := movP ps dr lo li re
    let beh : Po → Mv → Po := behP dr
    let o : Po → Int := outP ps dr st lo li re
    let nx : Po → List Po := fun p => if ok p then (L p).map (beh p) else []
    let ev : Po → Int := fun p => endV (o p) p.T
    have hs : ok s := hat
    have hnx : ∀ p, ok p → nx p = (L p).map (beh p) := fun p hp => if_pos hp
    have hPoF : ∀ q, ok q → PoF ps q := fun q hq => at_facts hq
    have hpo : ∀ q, ok q → q.ok := fun q hq => (hPoF q hq).ok
    have hlen : ∀ q, ok q → (L q).length ≤ 4608 := fun q hq => mov_len (hPoF q hq)
    have hlen2 : ∀ q, (nx q).length ≤ 4608 := fun q => by
      by_cases hq : ok q
      · rw [hnx q hq, List.length_map]; exact hlen q hq
      · show (if ok q then (L q).map (beh q) else []).length ≤ 4608
        rw [if_neg hq]; simp
    have hT : ∀ q, ok q → q.T = 0 ∨ q.T = 1 := fun q hq => by
      obtain ⟨W2, H2, T2, hf2⟩ := at_facts hq
      have h1 := hf2.t
      have h2 := hf2.t1
      omega
    have hst : ∀ q, ok q → ∀ m ∈ L q, ok (beh q m) := fun q hq m hmq => at_beh hq hmq
    have hstay : ∀ p, ok p → ∀ q ∈ nx p, ok q := fun p hp q hq => by
      rw [hnx p hp] at hq
      obtain ⟨m, hmq, rfl⟩ := List.mem_map.1 hq
      exact hst p hp m hmq
    have hOL : ∀ q, ok q → (o q = 0 ↔ L q ≠ []) := fun q hq => open_P hq
    have hnil : ∀ q, ok q → (nx q = [] ↔ o q ≠ 0) := fun q hq => by
      rw [hnx q hq, List.map_eq_nil_iff]
      have := hOL q hq
      constructor
      · intro e h0; exact this.1 h0 e
      · intro h0; exact Classical.byContradiction fun e => h0 (this.2 e)
    have hor : ∀ q, ok q → 0 ≤ o q ∧ o q ≤ 3 := fun q hq => by
      obtain ⟨W2, H2, T2, hf2⟩ := at_facts hq
      have := out_range W2 H2 T2 q.C q.A q.B ps dr st lo li re
      rw [← hf2.out] at this
      exact this
    have hv0 : ∀ p, ok p → endW (o p) p.T = if nx p = [] then ev p else 0 := fun p hp => by
      by_cases h0 : o p = 0
      · rw [if_neg (fun e => (hnil p hp).1 e h0), h0]; rfl
      · rw [if_pos ((hnil p hp).2 h0)]
        exact (end_same h0 (hor p hp) (hT p hp)).1
    have hev1 : ∀ p, ok p → nx p = [] → 1 ≤ ev p := fun p hp e => (end_same ((hnil p hp).1 e) (hor p hp) (hT p hp)).2
    have hkey : ∀ p q, ok p → ok q → keyP p = keyP q → p = q := fun p q hp hq e => okP_key hp hq e
    have hsz : ∀ q, ok q → q.C.size ≤ maxLen ∧ q.A.size ≤ maxLen ∧ q.B.size ≤ maxLen := fun q hq => ⟨(hpo q hq).c, (hpo q hq).a, (hpo q hq).b⟩
    -- the program's functions
    have hO : ∀ q, ok q → ∀ u, Below w.heap.size w u → Calls Tryz.prog 8 #[.agg #[.int .i64 W0, .int .i64 H0, .string C0, .int .i64 T0, .string A0, .string B0, .slice ao ps.length cap, .bool dr, .int .u8 (lo : Int), .int .i64 li, .int .u8 (re : Int), .bool st, .int .i64 pl], .agg #[.int .i64 q.W, .int .i64 q.H, .string q.C, .int .i64 q.T, .string q.A, .string q.B]] u fun e w' => e = .returned (.tuple #[.int .i64 (o q), .int .i64 0]) ∧ Below u.heap.size u w' := fun q hq u hu => by
      obtain ⟨W2, H2, T2, hf2⟩ := at_facts hq
      have := Outcome_ok W0 H0 T0 C0 A0 B0 ao cap ps dr st lo re li pl q.W q.H q.T q.C q.A q.B u hC0 hA0 hB0 hlo hre (hps u hu) (hsz q hq).1 (hsz q hq).2.1 (hsz q hq).2.2 hq W2 H2 T2 hf2
      rw [← hf2.out] at this
      exact this
    have hBe : ∀ q, ok q → ∀ m ∈ L q, ∀ u, Below w.heap.size w u → Calls Tryz.prog 26 #[.agg #[.int .i64 W0, .int .i64 H0, .string C0, .int .i64 T0, .string A0, .string B0, .slice ao ps.length cap, .bool dr, .int .u8 (lo : Int), .int .i64 li, .int .u8 (re : Int), .bool st, .int .i64 pl], .agg #[.int .i64 q.W, .int .i64 q.H, .string q.C, .int .i64 q.T, .string q.A, .string q.B], .agg #[.int .i64 m.f, .int .i64 (m.t : Int), .int .u8 (m.c : Int)]] u fun e w' => e = .returned (.agg #[.int .i64 (beh q m).W, .int .i64 (beh q m).H, .string (beh q m).C, .int .i64 (beh q m).T, .string (beh q m).A, .string (beh q m).B]) ∧ Below u.heap.size u w' := fun q hq m hmq u hu => behind_P (hPoF q hq) hmq _ _ _ _ _ _ _ _ _ _ _ _ mx u (hmx u hu)
    have hNx2 : ∀ q, ok q → ∀ u, Below w.heap.size w u → Calls Tryz.prog 35 #[.agg #[.int .i64 W0, .int .i64 H0, .string C0, .int .i64 T0, .string A0, .string B0, .slice ao ps.length cap, .bool dr, .int .u8 (lo : Int), .int .i64 li, .int .u8 (re : Int), .bool st, .int .i64 pl], .agg #[.int .i64 q.W, .int .i64 q.H, .string q.C, .int .i64 q.T, .string q.A, .string q.B]] u fun e w' => ∃ x y, e = .returned (.tuple #[x, y, .int .i64 0]) ∧ w'.ownsRow u.heap.size 45 3 x (L q).length (mvals (L q)) ∧ w'.ownsRow u.heap.size 24 6 y (L q).length (povs ((L q).map (beh q))) ∧ Below u.heap.size u w' := fun q hq u hu => by
      refine next_walk _ _ _ _ _ _ _ _ _ _ _ _ _ q (L q) (beh q) u (hlen q hq) (fun v hv => ?_) (fun v hv => ?_) (fun m hmq v hv => hBe q hq m hmq v (hu.trans (hv.mono hu.size)))
      · have := rCheckPosition_any W0 H0 T0 C0 A0 B0 ao cap ps dr st lo re li pl q.W q.H q.T q.C q.A q.B v hC0 hA0 hB0 hlo hre (hps v (hu.trans (hv.mono hu.size))) (hsz q hq).1 (hsz q hq).2.1 (hsz q hq).2.2
        have hq2 : atB W0 H0 C0.data.toList T0 A0.data.toList B0.data.toList ps lo li re pl q.W q.H q.C.data.toList q.T q.A.data.toList q.B.data.toList = true := hq
        rw [hq2] at this
        exact this
      · exact list_P dr lo li re (hPoF q hq) _ _ _ _ _ _ _ _ ao cap v (hps v (hu.trans (hv.mono hu.size))) hlo hre
    have hNx : ∀ q, ok q → ∀ u, Below w.heap.size w u → Calls Tryz.prog 35 #[.agg #[.int .i64 W0, .int .i64 H0, .string C0, .int .i64 T0, .string A0, .string B0, .slice ao ps.length cap, .bool dr, .int .u8 (lo : Int), .int .i64 li, .int .u8 (re : Int), .bool st, .int .i64 pl], .agg #[.int .i64 q.W, .int .i64 q.H, .string q.C, .int .i64 q.T, .string q.A, .string q.B]] u fun e w' => ∃ x y, e = .returned (.tuple #[x, y, .int .i64 0]) ∧ w'.ownsRow u.heap.size 24 6 y (nx q).length (povs (nx q)) ∧ Below u.heap.size u w' := fun q hq u hu => by
      refine (hNx2 q hq u hu).mono ?_
      rintro e w' ⟨x, y, he, -, hy, hb⟩
      refine ⟨x, y, he, ?_, hb⟩
      rw [hnx q hq, List.length_map]
      exact hy
    have hEv : ∀ q, ok q → nx q = [] → ∀ u, Below w.heap.size w u → Calls Tryz.prog 36 #[.agg #[.int .i64 W0, .int .i64 H0, .string C0, .int .i64 T0, .string A0, .string B0, .slice ao ps.length cap, .bool dr, .int .u8 (lo : Int), .int .i64 li, .int .u8 (re : Int), .bool st, .int .i64 pl], .agg #[.int .i64 q.W, .int .i64 q.H, .string q.C, .int .i64 q.T, .string q.A, .string q.B]] u fun e w' => e = .returned (.int .i64 (ev q)) ∧ Below u.heap.size u w' := fun q hq _ u hu =>
      valueAtEnd_any _ _ _ _ _ _ _ _ _ _ _ _ _ q.W q.H q.T q.C q.A q.B (o q) 0 u (hT q hq) (fun v hv => hO q hq v (hu.trans (hv.mono hu.size)))
    have hTu : ∀ u, Below w.heap.size w u → Calls Tryz.prog 34 #[.agg #[.int .i64 W0, .int .i64 H0, .string C0, .int .i64 T0, .string A0, .string B0], .int .i64 0] u fun e w' => e = .returned (.tuple #[.agg #[.int .i64 W0, .int .i64 H0, .string C0, .int .i64 T0, .string A0, .string B0], .int .i64 0]) ∧ Below u.heap.size u w' := fun u _ => by
      obtain ⟨W2, H2, T2, hf2⟩ := at_facts hat
      have ip := at_isPos hat hf2
      have := Turned_ok (k := 0) u (by omega) ip
      rw [tstr_none C0 W2 H2 ip.c] at this
      have e1 : (twd W2 H2 0 : Nat) = W2 := rfl
      have e2 : (thd W2 H2 0 : Nat) = H2 := rfl
      rw [e1, e2, ← hf2.w, ← hf2.h, ← hf2.t] at this
      exact this
    have hMo : ∀ q, ok q → ∀ u, Below w.heap.size w u → Calls Tryz.prog 9 #[.agg #[.int .i64 W0, .int .i64 H0, .string C0, .int .i64 T0, .string A0, .string B0, .slice ao ps.length cap, .bool dr, .int .u8 (lo : Int), .int .i64 li, .int .u8 (re : Int), .bool st, .int .i64 pl], .agg #[.int .i64 q.W, .int .i64 q.H, .string q.C, .int .i64 q.T, .string q.A, .string q.B]] u fun e w' => ∃ v, e = .returned (.tuple #[v, .int .i64 0]) ∧ w'.ownsRow u.heap.size 45 3 v (L q).length (mvals (L q)) ∧ Below u.heap.size u w' := fun q hq u hu => by
      obtain ⟨W2, H2, T2, hf2⟩ := at_facts hq
      have := Moves_ok W0 H0 T0 C0 A0 B0 ao cap ps dr st lo re li pl q.W q.H q.T q.C q.A q.B u hC0 hA0 hB0 hlo hre (hps u hu) (hsz q hq).1 (hsz q hq).2.1 (hsz q hq).2.2 hq W2 H2 T2 hf2
      rw [← hf2.movs] at this
      exact this
    have hAp : ∀ q, ok q → ∀ m ∈ L q, ∀ u, Below w.heap.size w u → Calls Tryz.prog 10 #[.agg #[.int .i64 W0, .int .i64 H0, .string C0, .int .i64 T0, .string A0, .string B0, .slice ao ps.length cap, .bool dr, .int .u8 (lo : Int), .int .i64 li, .int .u8 (re : Int), .bool st, .int .i64 pl], .agg #[.int .i64 q.W, .int .i64 q.H, .string q.C, .int .i64 q.T, .string q.A, .string q.B], .agg #[.int .i64 m.f, .int .i64 (m.t : Int), .int .u8 (m.c : Int)]] u fun e w' => e = .returned (.tuple #[.agg #[.int .i64 (beh q m).W, .int .i64 (beh q m).H, .string (beh q m).C, .int .i64 (beh q m).T, .string (beh q m).A, .string (beh q m).B], .int .i64 0]) ∧ Below u.heap.size u w' := fun q hq m hmq u hu => by
      obtain ⟨W2, H2, T2, hf2⟩ := at_facts hq
      refine Apply_go W0 H0 T0 C0 A0 B0 ao cap ps dr st lo re li pl q.W q.H q.T q.C q.A q.B m.f m.t m.c _ _ _ _ _ _ u (fun v hv => ?_) (fun v hv => hBe q hq m hmq v (hu.trans (hv.mono hu.size)))
      have := check_ok W0 H0 T0 C0 A0 B0 ao cap ps dr st lo re li pl q.W q.H q.T q.C q.A q.B m.f m.t m.c v hC0 hA0 hB0 hlo hre (hps v (hu.trans (hv.mono hu.size))) (hsz q hq).1 (hsz q hq).2.1 (hsz q hq).2.2 hq W2 H2 T2 hf2
      have hm2 : m ∈ movP ps dr lo li re q := hmq
      rw [hf2.movs] at hm2
      rw [inM_mem hm2, if_pos rfl] at this
      exact this
    refine tableTrue_walk nx ev ok L beh o s _ _ _ _ _ _ _ (mn : Int) w hpo hT hnx hlen (fun p hp => ⟨fun e => (hnil p hp).1 e, fun e => Classical.byContradiction fun h0 => e ((hnil p hp).2 h0), fun e => by rw [hv0 p hp, if_pos e], fun e3 _ => (endV_range (hT p hp)).2.2 e3⟩) (fun u hu => ?_) (fun lo' ln lc bl ts v hv hrow htl htok htb p hp hex u hu => ?_) (fun p hp u hu => hMo p hp u hu) (fun p hp m hmq u hu => hAp p hp m hmq u hu) (fun p hp u hu => hO p hp u hu)
    · have hmk := make_walk nx ev ok s _ _ _ _ _ _ _ mn u (by omega) (by omega) hs hpo hstay hlen2 hev1 (fun v hv => hCk v (hu.trans (hv.mono hu.size))) (fun v hv => hTu v (hu.trans (hv.mono hu.size))) (fun p hp v hv => hNx p hp v (hu.trans (hv.mono hu.size))) (fun p hp hn v hv => hEv p hp hn v (hu.trans (hv.mono hu.size)))
      refine hmk.mono ?_
      rintro e w' ⟨hb, (⟨hbig, rfl⟩ | ⟨g, cp, nds, ts, rfl, hrow, h1, h2, -, h4, h5, h6, h7⟩)⟩
      · exact ⟨⟨_, _, [], rfl, ⟨rfl, .inl ⟨rfl, rfl⟩⟩, .inl ⟨by omega, rfl⟩⟩, hb⟩
      · refine ⟨⟨_, _, ts, rfl, hrow, .inr ⟨rfl, tab_of hs hstay (fun p hp hn => ⟨hev1 p hp hn, (endV_range (hT p hp)).2.1⟩) (by omega) h1 h4 h5 h6, fun p hp => ?_⟩⟩, hb⟩
        have hper : ts.Perm (nds.map enN) := by
          obtain ⟨k1, -, k3⟩ := h6
          have e1 : ts.toArray.extract 0 (nds.map enN).toArray.size = ts.toArray := by rw [← k1]; exact Array.extract_size
          have e2 : (nds.map enN).toArray.extract 0 (nds.map enN).toArray.size = (nds.map enN).toArray := Array.extract_size
          rw [e1, e2] at k3
          exact k3
        obtain ⟨x, hx, rfl⟩ := List.mem_map.1 hp
        obtain ⟨nd, hnd, rfl⟩ := List.mem_map.1 (hper.subset hx)
        have hin : nd.p ∈ nds.map Nd.p := List.mem_map.2 ⟨nd, hnd, rfl⟩
        rw [h1] at hin
        exact bfs_ok hs hstay _ nd.p hin
    · have hwu : Below w.heap.size w u := hv.trans (hu.mono hv.size)
      exact best_walk _ _ _ _ _ _ _ _ _ _ _ _ _ (.slice lo' ln lc) bl ts p (L p) (beh p) u (row_same hrow (fun g hg => hu.block g (row_block hrow hg).2)) htl htok htb (hpo p hp) (fun m hmq => hpo _ (hst p hp m hmq)) (hlen p hp) hex (fun v2 hv2 => hCk v2 (hwu.trans (hv2.mono hwu.size))) (fun v2 hv2 => hNx2 p hp v2 (hwu.trans (hv2.mono hwu.size)))
  · have hno : rulesB W0 H0 C0.data.toList T0 A0.data.toList B0.data.toList ps lo li re pl = false ∨ most < 1 ∨ 5000 < most := by
      cases hR : rulesB W0 H0 C0.data.toList T0 A0.data.toList B0.data.toList ps lo li re pl with
      | false => exact .inl rfl
      | true =>
        right
        rw [hR] at hgood
        by_cases h1 : most < 1
        · exact .inl h1
        · exact .inr (by
            apply Classical.byContradiction
            intro h2
            exact hgood ⟨rfl, by omega, by omega⟩)
    refine tableTrue_walk (fun _ => []) (fun _ => 0) (fun _ => False) (fun _ => []) (fun p _ => p) (fun _ => 0) ⟨W0, H0, C0, T0, A0, B0⟩ _ _ _ _ _ _ _ most w (fun _ hp => hp.elim) (fun _ hp => hp.elim) (fun _ hp => hp.elim) (fun _ hp => hp.elim) (fun _ hp => hp.elim) (fun u hu => ?_) (fun _ _ _ _ _ _ _ _ _ _ _ _ hp => hp.elim) (fun _ hp => hp.elim) (fun _ hp => hp.elim) (fun _ hp => hp.elim)
    refine (make_no _ _ _ _ _ _ _ _ _ _ _ _ _ _ most u ?_ (fun v hv => hCk v (hu.trans (hv.mono hu.size)))).mono ?_
    · rcases hno with h1 | h1
      · exact .inl (by rw [h1]; decide)
      · exact .inr h1
    · rintro e w' ⟨rfl, hb⟩
      exact ⟨⟨_, _, [], rfl, ⟨rfl, .inl ⟨rfl, rfl⟩⟩, .inl ⟨by omega, rfl⟩⟩, hb⟩
end Go.Proofs.YtbijadnekoeofaaGreatDoor
