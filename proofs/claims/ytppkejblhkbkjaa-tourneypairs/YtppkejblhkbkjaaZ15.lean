/-
  package tourney, walked: meets.
-/
import Derived.Test.YtppkejblhkbkjaaZ14
namespace Go.Proofs.Ytppkejblhkbkjaa
open Go.RowKit Tu
attribute [local go_sem ↓] Go.wp_at_zero Go.wp_at_succ

/-- Labels of players below sixty. -/
def Lb (tn : Nat → Tn) : Prop := (∀ x a, tn x = .vert a → a < 60) ∧ ∀ x a b, tn x = .edge a b → a < 60 ∧ b < 60
theorem Lb.put {tn : Nat → Tn} (h : Lb tn) {v a : Nat} (ha : a < 60) : Lb (updT tn v (.vert a)) := by
  refine ⟨fun x b e => ?_, fun x b c e => ?_⟩
  · by_cases hx : x = v
    · subst hx
      rw [updT_same] at e
      injection e with e
      omega
    · rw [updT_other _ _ hx] at e; exact h.1 x b e
  · by_cases hx : x = v
    · subst hx
      rw [updT_same] at e
      cases e
    · rw [updT_other _ _ hx] at e; exact h.2 x b c e
theorem Lb.join {tn : Nat → Tn} (h : Lb tn) {K : Nat → Bool} {a b : Nat} (ha : a < 60) (hb : b < 60) : Lb (jT tn K a b) := by
  refine ⟨fun x c e => ?_, fun x c d e => ?_⟩
  · unfold jT at e
    split at e
    · cases e
    · exact h.1 x c e
  · unfold jT at e
    split at e
    · injection e with e1 e2; omega
    · exact h.2 x c d e
/-- What meets leaves where the root has no partner yet. -/
structure MeN (t g r n : Nat) (ok bar : Nat → Nat → Bool) (M : Nat → Option Nat) (Q : List Nat) (qv : Value) (i o : Nat) (W W' : World) : Prop where
  ex : ∃ (S' : Nat → Bool) (tn' : Nat → Tn) (B' ρ' : Nat → Nat) (Q' : List Nat) (qv' : Value), FI n ok M r S' tn' B' ρ' (Q ++ Q') i (o + 1) ∧ isTq W' t g r S' tn' B' (Q ++ Q') qv' ∧ Lb tn' ∧ Nx W qv qv'
  pr : isPr W' g n bar M
  fr : Fr t qv W W'
/-- .. and where it has found one. -/
structure MeY (g r n : Nat) (ok bar : Nat → Nat → Bool) (M : Nat → Option Nat) (W W' : World) : Prop where
  ex : ∃ M' : Nat → Option Nat, Mt n ok M' ∧ (∀ x, M x ≠ none → M' x ≠ none) ∧ M' r ≠ none ∧ isPr W' g n bar M'
  fr : Gb g W W'
def MeE (t g r n : Nat) (ok bar : Nat → Nat → Bool) (M : Nat → Option Nat) (Q : List Nat) (qv : Value) (i o : Nat) (W : World) (e : Ending) (W' : World) : Prop :=
  (e = .returned (.bool false) ∧ MeN t g r n ok bar M Q qv i o W W') ∨ (e = .returned (.bool true) ∧ MeY g r n ok bar M W W')

set_option maxHeartbeats 4000000 in
set_option maxRecDepth 100000 in
/-- Nothing is done: they are barred, or of one group. -/
theorem meets_same (W : World) (t g r n x o : Nat) (bar : Nat → Nat → Bool) (M : Nat → Option Nat) (S : Nat → Bool) (tn : Nat → Tn) (B : Nat → Nat) (qv : Value) (Q : List Nat) (hT : isTq W t g r S tn B Q qv) (hP : isPr W g n bar M) (hx60 : x < 60) (ho60 : o < 60) (hc : bar x o = true ∨ B x = B o) :
    Calls Try.prog 38 #[.pointer (some ⟨t, 0, none⟩), .int .i64 (x : Int), .int .i64 (o : Int)] W fun e W' => e = .returned (.bool false) ∧ Below W.heap.size W W' := by
  have d0 := hT.te.p_
  have d1 := hP.bar x o hx60 ho60
  have d2 := hT.te.ba x hx60
  have d3 := hT.te.ba o ho60
  have hxi : (x : Int) < 60 := by omega
  have hx0 : (0 : Int) ≤ (x : Int) := by omega
  have hoi : (o : Int) < 60 := by omega
  have ho0 : (0 : Int) ≤ (o : Int) := by omega
  have HB : Hid (∀ k, Below W.heap.size W (W.drewN k)) := hide (fun k => below_drewN (Below.refl _ _) k)
  clear hT hP
  cases hb : bar x o with
  | true =>
    rw [hb] at d1
    clear hc hb
    go_enter Try.func38, Try.ntmps38
    go_wp2_with fail
    go_quiet (fail)
    go_wp2
    go_ret
    exact ⟨rfl, unhide HB _⟩
  | false =>
    have hbb : B x = B o := hc.resolve_left (by rw [hb]; simp)
    rw [hb] at d1
    rw [hbb] at d2
    have he : (((B o : Nat) : Int) == (B o : Int)) = true := by simp
    clear hc hb hbb
    go_enter Try.func38, Try.ntmps38
    go_wp2_with fail
    go_quiet (fail)
    go_wp2
    go_ret
    exact ⟨rfl, unhide HB _⟩

set_option maxHeartbeats 4000000 in
set_option maxRecDepth 100000 in
/-- Both are spare: groups are joined. -/
theorem meets_join (W : World) (t g r n x o i : Nat) (ok bar : Nat → Nat → Bool) (M : Nat → Option Nat) (S : Nat → Bool) (tn : Nat → Tn) (B ρ : Nat → Nat) (qv : Value) (Q : List Nat) (hn : n ≤ 60) (hs : ∀ x y, ok x y = ok y x) (hgt : g < t) (hT : isTq W t g r S tn B Q qv) (hP : isPr W g n bar M) (hF : FI n ok M r S tn B ρ Q i o) (hL : Lb tn) (hi : Q[i]? = some x) (hx60 : x < 60) (ho60 : o < 60) (hb : bar x o = false) (hne0 : ¬ B x = B o) (hok : ok x o = true) (hso : S o = true) :
    Calls Try.prog 38 #[.pointer (some ⟨t, 0, none⟩), .int .i64 (x : Int), .int .i64 (o : Int)] W (MeE t g r n ok bar M Q qv i o W) := by
  have hsx : S x = true := (hF.qm x).1 (List.mem_of_getElem? hi)
  have HL := hide hL
  have HI := hide hi
  have HO := hide hok
  have HS := hide hs
  have HSX := hide hsx
  have HSO := hide hso
  clear hL hi hok hs hsx hso
  have d0 := hT.te.p_
  have d1 := hP.bar x o hx60 ho60
  have d2 := hT.te.ba x hx60
  have d3 := hT.te.ba o ho60
  have hxi : (x : Int) < 60 := by omega
  have hx0 : (0 : Int) ≤ (x : Int) := by omega
  have hoi : (o : Int) < 60 := by omega
  have ho0 : (0 : Int) ≤ (o : Int) := by omega
  have hne : ¬ B x = B o := hne0
  have he : (((B x : Nat) : Int) == (B o : Int)) = false := by simp; omega
  rw [hb] at d1
  have HK : Hid (∀ k, Below W.heap.size W (W.drewN k) ∧ isTq (W.drewN k) t g r S tn B Q qv ∧ isPr (W.drewN k) g n bar M) := hide (fun k => by
    have hbk : Below W.heap.size W (W.drewN k) := below_drewN (Below.refl _ _) k
    exact ⟨hbk, hT.below hbk, hP.keep (hbk.block g hP.lt)⟩)
  have hpm : ∀ y, M o = some y → y < n := fun y e => hF.ti.mt.lt2 e
  have HF := hide hF
  clear hT hP hb hne0 hF
  generalize B x = bx at d2 he hne
  generalize B o = bo at d3 he hne
  clear hne
  go_enter Try.func38, Try.ntmps38
  go_wp2_with fail
  go_quiet (fail)
  obtain ⟨hb1, hT1, hP1⟩ := unhide HK nq
  clear HK d0 d1 d2 d3 he
  generalize W.drewN nq = W1 at *
  have e0 := hT1.te.p_
  have e1 := hP1.par o ho60
  have e2 := hT1.te.sp o ho60
  rw [unhide HSO] at e2
  generalize pI (M o) = z at e1
  have HJ := hide (join_any hn (unhide HF).ti W1 t g x o bar Q qv hT1 hP1 hgt (unhide HSX) (unhide HSO) (unhide HF).qn (unhide HF).qm)
  have HB1 := hide hb1
  clear hT1 hP1 hb1 hpm
  go_wp2_with fail
  refine (unhide HJ).mono ?_
  rintro e W2 ⟨rfl, m, J, K, L, qv', j1, j2, j3, j4, j5, j6, j7⟩
  have HE : Hid (MeN t g r n ok bar M Q qv i o W W2) := hide (by
    have hb1 := unhide HB1
    refine ⟨⟨_, _, _, ρ, L, qv', (unhide HF).join (unhide HS) (unhide HI) j1 (unhide HO) j2 j3, j4, (unhide HL).join hx60 ho60, ?_⟩, j5, ?_⟩
    · rcases j6 with j6 | ⟨q, j6, hq⟩
      · exact .inl j6
      · exact .inr ⟨q, j6, Nat.le_trans hb1.size hq⟩
    · exact (Fr.of_below hb1).trans (.inl rfl) j7)
  clear j1 j2 j3 j4 j5 j6 j7 HJ HB1
  go_wp2
  go_ret
  exact .inl ⟨rfl, unhide HE⟩

set_option maxHeartbeats 4000000 in
set_option maxRecDepth 100000 in
/-- The other one's partner is reached, or has been. -/
theorem meets_reach (W : World) (t g r n x o i v : Nat) (ok bar : Nat → Nat → Bool) (M : Nat → Option Nat) (S : Nat → Bool) (tn : Nat → Tn) (B ρ : Nat → Nat) (qv : Value) (Q : List Nat) (hn : n ≤ 60) (hs : ∀ x y, ok x y = ok y x) (hgt : g < t) (hT : isTq W t g r S tn B Q qv) (hP : isPr W g n bar M) (hF : FI n ok M r S tn B ρ Q i o) (hL : Lb tn) (hi : Q[i]? = some x) (hx60 : x < 60) (ho60 : o < 60) (hb : bar x o = false) (hne0 : ¬ B x = B o) (hok : ok x o = true) (hso : S o = false) (hmo : M o = some v) :
    Calls Try.prog 38 #[.pointer (some ⟨t, 0, none⟩), .int .i64 (x : Int), .int .i64 (o : Int)] W (MeE t g r n ok bar M Q qv i o W) := by
  have HL := hide hL
  have HI := hide hi
  have HO := hide hok
  have HS := hide hs
  have HSO := hide hso
  have HMO := hide hmo
  clear hL hi hok hs hso hmo
  have d0 := hT.te.p_
  have d1 := hP.bar x o hx60 ho60
  have d2 := hT.te.ba x hx60
  have d3 := hT.te.ba o ho60
  have hxi : (x : Int) < 60 := by omega
  have hx0 : (0 : Int) ≤ (x : Int) := by omega
  have hoi : (o : Int) < 60 := by omega
  have ho0 : (0 : Int) ≤ (o : Int) := by omega
  have hne : ¬ B x = B o := hne0
  have he : (((B x : Nat) : Int) == (B o : Int)) = false := by simp; omega
  rw [hb] at d1
  have HK : Hid (∀ k, Below W.heap.size W (W.drewN k) ∧ isTq (W.drewN k) t g r S tn B Q qv ∧ isPr (W.drewN k) g n bar M) := hide (fun k => by
    have hbk : Below W.heap.size W (W.drewN k) := below_drewN (Below.refl _ _) k
    exact ⟨hbk, hT.below hbk, hP.keep (hbk.block g hP.lt)⟩)
  have hpm : ∀ y, M o = some y → y < n := fun y e => hF.ti.mt.lt2 e
  have HF := hide hF
  clear hT hP hb hne0 hF
  generalize B x = bx at d2 he hne
  generalize B o = bo at d3 he hne
  clear hne
  go_enter Try.func38, Try.ntmps38
  go_wp2_with fail
  go_quiet (fail)
  obtain ⟨hb1, hT1, hP1⟩ := unhide HK nq
  clear HK d0 d1 d2 d3 he
  generalize W.drewN nq = W1 at *
  have hv60 : v < 60 := Nat.lt_of_lt_of_le (hpm v (unhide HMO)) hn
  have e0 := hT1.te.p_
  have e1 := hP1.par o ho60
  have e2 := hT1.te.sp o ho60
  have e3 := hT1.te.sp v hv60
  rw [unhide HSO] at e2
  rw [unhide HMO] at e1
  have e1' : W1.cell? ⟨g, 3601 + o, none⟩ = some (.int .i64 (v : Int)) := e1
  have hvi : (v : Int) < 60 := by omega
  have hv0 : (0 : Int) ≤ (v : Int) := by omega
  have hvn : ((v : Int) == -1) = false := by simp
  have HB1 := hide hb1
  clear e1 hpm
  cases hsv : S v with
  | true =>
    rw [hsv] at e3
    have HE : Hid (MeN t g r n ok bar M Q qv i o W W1) := hide (by
      refine ⟨⟨S, tn, B, ρ, [], qv, ?_, ?_, unhide HL, .inl rfl⟩, hP1, Fr.of_below hb1⟩
      · rw [List.append_nil]
        exact (unhide HF).skip (unhide HS) (unhide HI) (.inr (.inr ⟨unhide HSO, v, unhide HMO, hsv⟩))
      · rw [List.append_nil]; exact hT1)
    clear hT1 hP1 hb1 hsv HB1
    go_wp2
    go_ret
    exact .inl ⟨rfl, unhide HE⟩
  | false =>
    rw [hsv] at e3
    have hQl : Q.length ≤ 1000 := by have := (unhide HF).len; omega
    have hRE := reach_any W1 t g r v (.vert x) S tn B Q qv hT1 hv60 hQl
    have f1 : tA (.vert x) = (x : Int) := rfl
    have f2 : tB (.vert x) = -1 := rfl
    rw [f1, f2] at hRE
    have HRE := hide hRE
    have HSV := hide hsv
    have HP1 := hide hP1
    have HT1 := hide hT1
    clear hRE f1 f2 hsv hP1 hT1 hb1
    go_wp2_with fail
    refine (unhide HRE).mono ?_
    rintro e W2 ⟨rfl, qv', j1, j2, j3⟩
    have HE : Hid (MeN t g r n ok bar M Q qv i o W W2) := hide (by
      have hb1 := unhide HB1
      have htg := (unhide HT1).te.ne (unhide HP1)
      refine ⟨⟨_, _, _, _, [v], qv', (unhide HF).reach (unhide HS) (unhide HI) (unhide HSV) (unhide HSO) (unhide HMO) (unhide HO), j1, (unhide HL).put hx60, ?_⟩, (unhide HP1).keep (j3.block g (unhide HP1).lt (fun e => htg e.symm) (fun e => by have := (unhide HT1).row.lt g e; omega)), ?_⟩
      · rcases j2 with j2 | ⟨q, j2, hq⟩
        · exact .inl j2
        · exact .inr ⟨q, j2, Nat.le_trans hb1.size hq⟩
      · exact (Fr.of_below hb1).trans (.inl rfl) j3)
    clear j1 j2 j3 HRE HB1
    go_wp2
    go_ret
    exact .inl ⟨rfl, unhide HE⟩

set_option maxHeartbeats 4000000 in
set_option maxRecDepth 100000 in
/-- The other one has no partner: the root finds one. -/
theorem meets_give (W : World) (t g r n x o i : Nat) (ok bar : Nat → Nat → Bool) (M : Nat → Option Nat) (S : Nat → Bool) (tn : Nat → Tn) (B ρ : Nat → Nat) (qv : Value) (Q : List Nat) (hn : n ≤ 60) (hs : ∀ x y, ok x y = ok y x) (hir : ∀ x, ok x x = false) (hT : isTq W t g r S tn B Q qv) (hP : isPr W g n bar M) (hF : FI n ok M r S tn B ρ Q i o) (hL : Lb tn) (hi : Q[i]? = some x) (hx60 : x < 60) (hon : o < n) (ho60 : o < 60) (hb : bar x o = false) (hne0 : ¬ B x = B o) (hok : ok x o = true) (hso : S o = false) (hmo : M o = none) :
    Calls Try.prog 38 #[.pointer (some ⟨t, 0, none⟩), .int .i64 (x : Int), .int .i64 (o : Int)] W (MeE t g r n ok bar M Q qv i o W) := by
  have hsx : S x = true := (hF.qm x).1 (List.mem_of_getElem? hi)
  obtain ⟨pre, p1, p2, -⟩ := hF.ti.seg x hsx r (hF.ti.toRoot hsx)
  have hor : o ≠ r := fun e => by rw [e, hF.ti.rS] at hso; cases hso
  obtain ⟨f', g1, g2, g3, g4⟩ := augment hs hir hF.ti.mt p1 p2 hF.ti.rM hF.ti.rn hmo hon hor hok
  have HG1 := hide g1
  have HG := hide (And.intro g2 (And.intro g3 g4))
  have HL := hide hL
  have HSO := hide hso
  have HMO := hide hmo
  clear hL hi hok hs hsx hso hmo p1 p2 g1 g2 g3 g4 hor hir
  have d0 := hT.te.p_
  have d1 := hP.bar x o hx60 ho60
  have d2 := hT.te.ba x hx60
  have d3 := hT.te.ba o ho60
  have hxi : (x : Int) < 60 := by omega
  have hx0 : (0 : Int) ≤ (x : Int) := by omega
  have hoi : (o : Int) < 60 := by omega
  have ho0 : (0 : Int) ≤ (o : Int) := by omega
  have hne : ¬ B x = B o := hne0
  have he : (((B x : Nat) : Int) == (B o : Int)) = false := by simp; omega
  rw [hb] at d1
  have HK : Hid (∀ k, Below W.heap.size W (W.drewN k) ∧ isTq (W.drewN k) t g r S tn B Q qv ∧ isPr (W.drewN k) g n bar M) := hide (fun k => by
    have hbk : Below W.heap.size W (W.drewN k) := below_drewN (Below.refl _ _) k
    exact ⟨hbk, hT.below hbk, hP.keep (hbk.block g hP.lt)⟩)
  have hpm : ∀ y, M o = some y → y < n := fun y e => hF.ti.mt.lt2 e
  have HF := hide hF
  clear hT hP hb hne0 hF
  generalize B x = bx at d2 he hne
  generalize B o = bo at d3 he hne
  clear hne
  go_enter Try.func38, Try.ntmps38
  go_wp2_with fail
  go_quiet (fail)
  obtain ⟨hb1, hT1, hP1⟩ := unhide HK nq
  clear HK d0 d1 d2 d3 he
  generalize W.drewN nq = W1 at *
  have e0 := hT1.te.p_
  have e1 := hP1.par o ho60
  have e2 := hT1.te.sp o ho60
  rw [unhide HSO] at e2
  rw [unhide HMO] at e1
  have e1' : W1.cell? ⟨g, 3601 + o, none⟩ = some (.int .i64 (-1)) := e1
  have HGI := hide (give_any (unhide HG1) W1 t g n r bar S B qv hP1 hT1.te hx60 ho60 (fun a b e => Nat.lt_of_lt_of_le ((unhide HF).ti.mt.lt2 e) hn) (unhide HL).1 (unhide HL).2)
  have htg := hT1.te.ne hP1
  have HT1 := hide hT1.te
  have HB1 := hide hb1
  clear e1 hpm hT1 hP1 hb1
  go_wp2_with fail
  refine (unhide HGI).mono ?_
  rintro e W2 ⟨rfl, j1, j2⟩
  have ht2 := (unhide HT1).gb j2 htg
  have k0 := ht2.p_
  have k1 := j1.par o ho60
  have k2 := j1.fz (3601 + o)
  generalize pI (f' o) = z at k1
  have HE : Hid (MeY g r n ok bar M W (W2.setCell ⟨g, 3601 + o, none⟩ (.int .i64 (x : Int)))) := hide (by
    refine ⟨⟨_, (unhide HG).1, (unhide HG).2.1, (unhide HG).2.2, j1.put ho60⟩, ((Gb.of_below (unhide HB1)).trans j2).trans (Gb.set _ _)⟩)
  clear j1 j2 ht2 HGI e0 e2 e1'
  go_wp2
  go_ret
  exact .inr ⟨rfl, unhide HE⟩

/-- meets, whole. -/
theorem meets_any (W : World) (t g r n x o i : Nat) (ok bar : Nat → Nat → Bool) (M : Nat → Option Nat) (S : Nat → Bool) (tn : Nat → Tn) (B ρ : Nat → Nat) (qv : Value) (Q : List Nat) (hn : n ≤ 60) (hs : ∀ x y, ok x y = ok y x) (hir : ∀ x, ok x x = false) (hbar : ∀ x y, x < n → y < n → x ≠ y → ok x y = !bar x y) (hgt : g < t) (hT : isTq W t g r S tn B Q qv) (hP : isPr W g n bar M) (hF : FI n ok M r S tn B ρ Q i o) (hL : Lb tn) (hi : Q[i]? = some x) (hon : o < n) :
    Calls Try.prog 38 #[.pointer (some ⟨t, 0, none⟩), .int .i64 (x : Int), .int .i64 (o : Int)] W (MeE t g r n ok bar M Q qv i o W) := by
  have hsx : S x = true := (hF.qm x).1 (List.mem_of_getElem? hi)
  have hxn := hF.ti.lt x hsx
  have hx60 : x < 60 := by omega
  have ho60 : o < 60 := by omega
  have same : (bar x o = true ∨ B x = B o) → (ok x o = false ∨ B x = B o) → Calls Try.prog 38 #[.pointer (some ⟨t, 0, none⟩), .int .i64 (x : Int), .int .i64 (o : Int)] W (MeE t g r n ok bar M Q qv i o W) := fun h1 h2 => by
    refine (meets_same W t g r n x o bar M S tn B qv Q hT hP hx60 ho60 h1).mono ?_
    rintro e W' ⟨rfl, hb⟩
    refine .inl ⟨rfl, ⟨S, tn, B, ρ, [], qv, ?_, ?_, hL, .inl rfl⟩, hP.keep (hb.block g hP.lt), Fr.of_below hb⟩
    · rw [List.append_nil]
      exact hF.skip hs hi (h2.elim .inl (fun e => .inr (.inl e)))
    · rw [List.append_nil]; exact hT.below hb
  by_cases hB : B x = B o
  · exact same (.inr hB) (.inr hB)
  · have hxo : x ≠ o := fun e => hB (by rw [e])
    have hk := hbar x o hxn hon hxo
    cases hb : bar x o with
    | true => exact same (.inl hb) (.inl (by rw [hk, hb]; rfl))
    | false =>
      have hok : ok x o = true := by rw [hk, hb]; rfl
      cases hso : S o with
      | true => exact meets_join W t g r n x o i ok bar M S tn B ρ qv Q hn hs hgt hT hP hF hL hi hx60 ho60 hb hB hok hso
      | false =>
        cases hmo : M o with
        | none => exact meets_give W t g r n x o i ok bar M S tn B ρ qv Q hn hs hir hT hP hF hL hi hx60 hon ho60 hb hB hok hso hmo
        | some v => exact meets_reach W t g r n x o i v ok bar M S tn B ρ qv Q hn hs hgt hT hP hF hL hi hx60 ho60 hb hB hok hso hmo
end Go.Proofs.Ytppkejblhkbkjaa
