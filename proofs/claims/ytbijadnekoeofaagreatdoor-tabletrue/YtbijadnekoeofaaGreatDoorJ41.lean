/-
  gamekeep.ends, walked: by best moves the game is over when it must be.
  gamekeep.TableTrue: plain mathematics of what is looked at behind a position.
-/
import Derived.Test.YtbijadnekoeofaaGreatDoorJ40
import Derived.Test.YtbijadnekoeofaaGreatDoorJ38
namespace Go.Proofs.YtbijadnekoeofaaGreatDoor
open Go.RowKit
attribute [local go_sem ↓] Go.wp_at_zero Go.wp_at_succ

theorem fstE_val {V : Po → Int × Int} {p : Po} : ∀ {ts : List (Po × Int × Int)}, (∀ x ∈ ts, x.2 = V x.1) → p ∈ ts.map (fun x => x.1) → fstE ts p = some (V p)
  | [], _, h => by simp at h
  | x :: l, hv, h => by
    unfold fstE
    by_cases hx : x.1 = p
    · rw [if_pos hx, hv x (by simp), hx]
    · rw [if_neg hx]
      refine fstE_val (fun y hy => hv y (by simp [hy])) ?_
      rw [List.map_cons, List.mem_cons] at h
      rcases h with h | h
      · exact absurd h.symm hx
      · exact h
theorem gS_val {V : Po → Int × Int} {p : Po} {ts : List (Po × Int × Int)} {dom : List Po} (hv : ∀ x ∈ ts, x.2 = V x.1) (h : p ∈ ts.map (fun x => x.1)) (hd : p ∈ dom) : gS dom ts p = ((V p).1, (V p).2, true) := by
  unfold gS
  rw [if_pos hd, fstE_val hv h]
  rfl
section
variable {nx : Po → List Po} {ev : Po → Int} {s : Po} {ts : List (Po × Int × Int)} {V : Po → Int × Int}
/-- A best move there is, as long as it is not over. -/
theorem Tab.leads (h : Tab nx ev s ts V) {p : Po} (hp : p ∈ ts.map (fun x => x.1)) (hv : (V p).1 ≠ 3) (hd : 0 < (V p).2) : nx p ≠ [] ∧ ∃ q ∈ nx p, leadsB ((V p).1, (V p).2, true) ((V q).1, (V q).2, true) = true := by
  have hne : nx p ≠ [] := fun e => by rw [h.over p hp e] at hd; simp at hd
  refine ⟨hne, ?_⟩
  rcases h.play p hp hne with ⟨a, ⟨q, hq, b, c⟩, -⟩ | ⟨a, b, q, hq, c⟩ | ⟨a, -⟩
  · refine ⟨q, hq, ?_⟩
    unfold leadsB
    simp only [a, if_true, Bool.and_eq_true, decide_eq_true_eq]
    omega
  · refine ⟨q, hq, ?_⟩
    have := (b q hq).1
    unfold leadsB
    rw [a]
    simp only [show ¬ ((2 : Int) = 1) by omega, if_false, if_true, Bool.and_eq_true, decide_eq_true_eq]
    omega
  · rw [a] at hv; simp at hv
theorem leads_one {c d : Int × Int × Bool} (h : leadsB c d = true) (hc : c.1 ≠ 3) : d.2.1 + 1 = c.2.1 ∧ d.1 ≠ 3 := by
  unfold leadsB at h
  by_cases h1 : c.1 = 1
  · rw [if_pos h1] at h
    simp only [Bool.and_eq_true, decide_eq_true_eq] at h
    omega
  · rw [if_neg h1] at h
    by_cases h2 : c.1 = 2
    · rw [if_pos h2] at h
      simp only [Bool.and_eq_true, decide_eq_true_eq] at h
      omega
    · rw [if_neg h2, if_neg hc] at h
      cases h
/-- It is over. -/
theorem Tab.ends (h : Tab nx ev s ts V) {p : Po} (hp : p ∈ ts.map (fun x => x.1)) (hv : (V p).1 ≠ 3) (hd : (V p).2 = 0) : nx p = [] ∧ ev p ≠ 3 := by
  have hb := fun q (hq : q ∈ ts.map (fun x => x.1)) => h.bd q hq
  have hn : nx p = [] := Classical.byContradiction fun hne => by
    rcases h.play p hp hne with ⟨a, ⟨q, hq, b, c⟩, -⟩ | ⟨a, b, q, hq, c⟩ | ⟨a, -⟩
    · have := (hb q (h.cl p hp q hq)).2.2.1
      omega
    · have := (hb q (h.cl p hp q hq)).2.2.1
      omega
    · rw [a] at hv; simp at hv
  refine ⟨hn, fun e => hv ?_⟩
  rw [h.over p hp hn]
  exact e
/-- Where it stands, and that it stands nowhere ahead. -/
theorem Tab.first (h : Tab nx ev s ts V) {p : Po} (hp : p ∈ ts.map (fun x => x.1)) : ∃ k : Nat, ts[k]? = some (p, (V p).1, (V p).2) ∧ ∀ (j : Nat) (x : Po × Int × Int), j < k → ts[j]? = some x → x.1 ≠ p := by
  refine ⟨_, h.at_ hp, fun j x hj hx e => ?_⟩
  have : (ts.map (fun x => x.1))[j]? = some p := by rw [List.getElem?_map, hx, ← e]; rfl
  have := idx_of h.nd this
  omega
end
theorem field_dist (a0 a1 a2 a3 a4 a5 a6 a7 : Value) (u : World) : (Instr.field 34 (.agg #[a0, a1, a2, a3, a4, a5, a6, a7]) 2).run Tryz.prog u = .ok a7 u := by kernel_rfl
theorem entFind : ∀ args (u : World), (callFunc 27 args).run Tryz.prog u = .ok (.enter 27 args) u := enters_of Tryz.func27 (by kernel_rfl) rfl

set_option maxHeartbeats 4000000 in
set_option maxRecDepth 100000 in
theorem ends_walk (nx : Po → List Po) (ev : Po → Int) (ok : Po → Prop) (L : Po → List Mv) (beh : Po → Mv → Po) (o : Po → Int) (s : Po) (v6 v7 v8 v9 v10 v11 v12 : Value) (lo : Option Addr) (ln lc bl : Nat) (ts : List (Po × Int × Int)) (V : Po → Int × Int) (w : World) (hl : w.ownsRow bl 34 8 (.slice lo ln lc) ts.length (evs ts)) (hT : Tab nx ev s ts V) (hpok : ∀ p ∈ ts.map (fun x => x.1), ok p) (hnx : ∀ p, ok p → nx p = (L p).map (beh p)) (hend : ∀ p, ok p → nx p = [] → o p ≠ 0 ∧ (ev p ≠ 3 → o p ≠ 3))
    (hBe : ∀ p, ok p → (∃ m ∈ L p, (fun m => leadsB (gS ((L p).map (beh p) ++ [p]) ts p) (gS ((L p).map (beh p) ++ [p]) ts (beh p m))) m = true) → ∀ u, Below w.heap.size w u → Calls Tryz.prog 28 #[.agg #[.int .i64 s.W, .int .i64 s.H, .string s.C, .int .i64 s.T, .string s.A, .string s.B, v6, v7, v8, v9, v10, v11, v12], .slice lo ln lc, .agg #[.int .i64 p.W, .int .i64 p.H, .string p.C, .int .i64 p.T, .string p.A, .string p.B]] u (BeE (L p) (fun m => leadsB (gS ((L p).map (beh p) ++ [p]) ts p) (gS ((L p).map (beh p) ++ [p]) ts (beh p m))) u))
    (hAp : ∀ p, ok p → ∀ m ∈ L p, ∀ u, Below w.heap.size w u → Calls Tryz.prog 10 #[.agg #[.int .i64 s.W, .int .i64 s.H, .string s.C, .int .i64 s.T, .string s.A, .string s.B, v6, v7, v8, v9, v10, v11, v12], .agg #[.int .i64 p.W, .int .i64 p.H, .string p.C, .int .i64 p.T, .string p.A, .string p.B], .agg #[.int .i64 m.f, .int .i64 (m.t : Int), .int .u8 (m.c : Int)]] u fun e w' => e = .returned (.tuple #[.agg #[.int .i64 (beh p m).W, .int .i64 (beh p m).H, .string (beh p m).C, .int .i64 (beh p m).T, .string (beh p m).A, .string (beh p m).B], .int .i64 0]) ∧ Below u.heap.size u w')
    (hO : ∀ p, ok p → ∀ u, Below w.heap.size w u → Calls Tryz.prog 8 #[.agg #[.int .i64 s.W, .int .i64 s.H, .string s.C, .int .i64 s.T, .string s.A, .string s.B, v6, v7, v8, v9, v10, v11, v12], .agg #[.int .i64 p.W, .int .i64 p.H, .string p.C, .int .i64 p.T, .string p.A, .string p.B]] u fun e w' => e = .returned (.tuple #[.int .i64 (o p), .int .i64 0]) ∧ Below u.heap.size u w') :
    Calls Tryz.prog 11 #[.agg #[.int .i64 s.W, .int .i64 s.H, .string s.C, .int .i64 s.T, .string s.A, .string s.B, v6, v7, v8, v9, v10, v11, v12], .slice lo ln lc] w fun e w' => e = .returned (.bool true) ∧ Below w.heap.size w w' := by
  obtain ⟨w1, hw1⟩ : ∃ w1, w1 = w.alloc (.cells #[.int .i64 s.W, .int .i64 s.H, .string s.C, .int .i64 s.T, .string s.A, .string s.B, v6, v7, v8, v9, v10, v11, v12] 27 (0, 0)) := ⟨_, rfl⟩
  obtain ⟨w2, hw2⟩ : ∃ w2, w2 = w1.alloc (.cells #[.slice lo ln lc] 28 (0, 0)) := ⟨_, rfl⟩
  obtain ⟨w3, hw3⟩ : ∃ w3, w3 = w2.alloc (.cells #[.int .i64 s.W, .int .i64 s.H, .string s.C, .int .i64 s.T, .string s.A, .string s.B] 24 (0, 0)) := ⟨_, rfl⟩
  have hb1 : Below w.heap.size w w1 := by rw [hw1]; exact (Below.refl _ _).alloc (Nat.le_refl _) _
  have hb2 : Below w1.heap.size w1 w2 := by rw [hw2]; exact (Below.refl _ _).alloc (Nat.le_refl _) _
  have hb3 : Below w2.heap.size w2 w3 := by rw [hw3]; exact (Below.refl _ _).alloc (Nat.le_refl _) _
  have s1 : w1.heap.size = w.heap.size + 1 := by rw [hw1]; simp
  have s2 : w2.heap.size = w.heap.size + 1 + 1 := by rw [hw2]; simp [s1]
  have s3 : w3.heap.size = w2.heap.size + 1 := by rw [hw3]; simp
  have hru2 : isRu w2 w.heap.size (.int .i64 s.W) (.int .i64 s.H) (.string s.C) (.int .i64 s.T) (.string s.A) (.string s.B) (v6) (v7) (v8) (v9) (v10) (v11) (v12) := isRu.below (show isRu w1 w.heap.size (.int .i64 s.W) (.int .i64 s.H) (.string s.C) (.int .i64 s.T) (.string s.A) (.string s.B) (v6) (v7) (v8) (v9) (v10) (v11) (v12) by rw [hw1]; exact heap_alloc_new w _) hb2 (by omega)
  have hlb2 : w2.heap[w.heap.size + 1]? = some (.cells #[.slice lo ln lc] 28 (0, 0)) := by rw [hw2, ← s1]; exact heap_alloc_new w1 _
  have hpb3 : isPb w3 w2.heap.size s.W s.H s.T s.C s.A s.B := by rw [hw3]; exact heap_alloc_new w2 _
  have hbw2 : Below w.heap.size w w2 := hb1.trans (hb2.mono hb1.size)
  have HFR : Hid (∀ u, Below w2.heap.size w2 u → isRu u w.heap.size (.int .i64 s.W) (.int .i64 s.H) (.string s.C) (.int .i64 s.T) (.string s.A) (.string s.B) (v6) (v7) (v8) (v9) (v10) (v11) (v12) ∧ u.cell? ⟨w.heap.size + 1, 0, none⟩ = some (.slice lo ln lc) ∧ Below w.heap.size w u) := hide (fun u hu => by
    have hlu := (hu.block (w.heap.size + 1) (by omega)).trans hlb2
    exact ⟨hru2.below hu (by omega), by simp [World.cell?, hlu], hbw2.trans (hu.mono (by omega))⟩)
  have hb23 : Below w2.heap.size w2 w3 := hb3
  have HFI : Hid (∀ q, q ∈ ts.map (fun x => x.1) → ∀ u, Below w2.heap.size w2 u → Calls Tryz.prog 27 #[.agg #[.int .i64 q.W, .int .i64 q.H, .string q.C, .int .i64 q.T, .string q.A, .string q.B], .pointer (some ⟨w.heap.size + 1, 0, none⟩)] u fun e w' => e = .returned (.agg #[.int .i64 q.W, .int .i64 q.H, .string q.C, .int .i64 q.T, .string q.A, .string q.B, .int .i64 (V q).1, .int .i64 (V q).2]) ∧ Below u.heap.size u w') := hide (fun q hq u hu => by
    obtain ⟨k, hk, hf⟩ := hT.first hq
    obtain ⟨-, hlu, hbu⟩ := unhide HFR u hu
    exact find_any (w.heap.size + 1) bl (.slice lo ln lc) ts q (V q).1 (V q).2 k u (row_same hl (fun g hg => hbu.block g (row_block hl hg).2)) hlu hT.len.1 hk hf)
  obtain ⟨x0, x1, x2, x3, x4, x5, x6, x7, x8, x9, x10, x11, x12⟩ := hru2.cells
  obtain ⟨p0, p1, p2, p3, p4, p5⟩ := hpb3.all
  have hmf : ∀ (fn : Fn) (first cap : Array Value) (u : World), (Instr.makeFunc fn first cap).run Tryz.prog u = .ok (.func fn first cap) u := fun _ _ _ _ => rfl
  have hent := entFind
  have HT := hide hT
  have HPOK := hide hpok
  have HNX := hide hnx
  have HEND := hide hend
  have HBE := hide hBe
  have HAP := hide hAp
  have HO := hide hO
  have HW1 := hide hw1
  have HW2 := hide hw2
  have HW3 := hide hw3
  have HB23 := hide hb23
  have HPB3 := hide hpb3
  have HS3 := hide s3
  have HF0 := hide (unhide HFI s hT.st w3 hb23)
  have hbds := hT.bd s hT.st
  obtain ⟨v0, hv0⟩ : ∃ v0, v0 = (V s).1 := ⟨_, rfl⟩
  obtain ⟨d0, hd0⟩ : ∃ d0, d0 = (V s).2 := ⟨_, rfl⟩
  rw [← hv0, ← hd0] at HF0 hbds
  have HV0 := hide hv0
  have HD0 := hide hd0
  clear hl hT hpok hnx hend hBe hAp hO hw1 hw2 hw3 hb1 hb2 hb3 s1 s2 s3 hru2 hlb2 hpb3 hbw2 hb23 hv0 hd0
  go_enter Tryz.func11, Tryz.ntmps11
  go_upto_region 2 with fail
  rw [← unhide HW1, ← unhide HW2]
  go_upto_region 3 with fail
  rw [← unhide HW3]
  clear HW1 HW2 HW3 x0 x1 x2 x3 x4 x5 x6 x7 x8 x9 x10 x11 x12
  go_wp2_with fail
  refine (unhide HF0).mono ?_
  rintro e w4 ⟨rfl, hb4⟩
  obtain ⟨w5, hw5⟩ : ∃ w5, w5 = w4.alloc (.cells #[.int .i64 s.W, .int .i64 s.H, .string s.C, .int .i64 s.T, .string s.A, .string s.B, .int .i64 v0, .int .i64 d0] 34 (0, 0)) := ⟨_, rfl⟩
  have hb5 : Below w4.heap.size w4 w5 := by rw [hw5]; exact (Below.refl _ _).alloc (Nat.le_refl _) _
  have heb : isEb w5 w4.heap.size s v0 d0 := by rw [hw5]; exact heap_alloc_new w4 _
  obtain ⟨y0, y1, y2, y3, y4, y5, y6, y7⟩ := heb.all
  have hs3 := unhide HS3
  have z4 := hb4.size
  have hb35 : Below w3.heap.size w3 w5 := hb4.trans (hb5.mono z4)
  have hb25 : Below w2.heap.size w2 w5 := (unhide HB23).trans (hb35.mono (by omega))
  have hpb5 := (unhide HPB3).below hb35 (by omega)
  have HB25 := hide hb25
  have HPB5 := hide hpb5
  have HW5 := hide hw5
  clear hw5 hb4 hb5 heb hs3 z4 hb35 hb25 hpb5 p0 p1 p2 p3 p4 p5 HF0
  go_upto_region 4 with fail
  rw [← unhide HW5]
  clear HW5
  by_cases h3 : v0 = 3
  · have h3b : (v0 == 3) = true := by simp [h3]
    have HBF := hide (unhide HFR w5 (unhide HB25)).2.2
    clear h3
    go_wp2
    go_ret
    exact ⟨rfl, unhide HBF⟩
  · have h3b : (v0 == 3) = false := by simp [h3]
    obtain ⟨dn, hdn⟩ : ∃ dn : Nat, d0 = dn := ⟨d0.toNat, by omega⟩
    subst hdn
    have HI0 : Hid (s ∈ ts.map (fun x => x.1) ∧ (V s).1 ≠ 3 ∧ (V s).2 = (dn : Int)) := hide ⟨(unhide HT).st, by rw [← unhide HV0]; exact h3, (unhide HD0).symm⟩
    clear h3
    go_wp2
    go_loopw [8] (fun dv wr => ∃ (d : Nat) (p : Po), d ≤ dn ∧ dv = .int .i64 (d : Int) ∧ Hid (p ∈ ts.map (fun x => x.1) ∧ (V p).1 ≠ 3 ∧ (V p).2 = (d : Int)) ∧ Hid (isPb wr w2.heap.size p.W p.H p.T p.C p.A p.B) ∧ Hid (Below w2.heap.size w2 wr)) (fun dv _ => (intOf dv).toNat)
    case atStart => exact ⟨dn, s, Nat.le_refl _, rfl, HI0, HPB5, HB25⟩
    case round =>
      obtain ⟨d, p, hd, rfl, HIN, HPB, HBR⟩ := hrel
      rename World => wr
      clear HI0 HPB5 HB25 y0 y1 y2 y3 y4 y5 y6 y7
      obtain ⟨hpin, hpv, hpd⟩ := unhide HIN
      have hokp := unhide HPOK p hpin
      obtain ⟨hru, hlr, hbw⟩ := unhide HFR wr (unhide HBR)
      obtain ⟨x0, x1, x2, x3, x4, x5, x6, x7, x8, x9, x10, x11, x12⟩ := hru.cells
      obtain ⟨p0, p1, p2, p3, p4, p5⟩ := (unhide HPB).all
      by_cases hd0 : 0 < d
      · have hdi : (0 : Int) < (d : Int) := by omega
        obtain ⟨hne, q0, hq0, hld⟩ := (unhide HT).leads hpin hpv (by omega)
        have hnxp := unhide HNX p hokp
        have hdomp : p ∈ (L p).map (beh p) ++ [p] := by simp
        have hgv : ∀ q ∈ nx p, gS ((L p).map (beh p) ++ [p]) ts q = ((V q).1, (V q).2, true) := fun q hq => gS_val (unhide HT).val ((unhide HT).cl p hpin q hq) (by rw [← hnxp]; exact List.mem_append_left _ hq)
        have hgp : gS ((L p).map (beh p) ++ [p]) ts p = ((V p).1, (V p).2, true) := gS_val (unhide HT).val hpin hdomp
        have hex : ∃ m ∈ L p, (fun m => leadsB (gS ((L p).map (beh p) ++ [p]) ts p) (gS ((L p).map (beh p) ++ [p]) ts (beh p m))) m = true := by
          rw [hnxp] at hq0
          obtain ⟨m, hm, rfl⟩ := List.mem_map.1 hq0
          refine ⟨m, hm, ?_⟩
          show leadsB _ _ = true
          rw [hgp, hgv _ (by rw [hnxp]; exact List.mem_map.2 ⟨m, hm, rfl⟩)]
          exact hld
        have HB1 := hide (unhide HBE p hokp hex wr hbw)
        have HGV := hide hgv
        have HGP := hide hgp
        have HNXP := hide hnxp
        have HPIN := hide hpin
        have HPV := hide hpv
        have HPD := hide hpd
        have HOKP := hide hokp
        clear hpin hpv hpd hokp hru hbw hne hq0 hld hnxp hdomp hgv hgp hex HIN
        go_wp2_with fail
        refine (unhide HB1).mono ?_
        rintro e wb ⟨⟨m, hm, hlm, rfl⟩, hbb⟩
        obtain ⟨q, hq⟩ : ∃ q, q = beh p m := ⟨_, rfl⟩
        have hqn : q ∈ nx p := by rw [unhide HNXP, hq]; exact List.mem_map.2 ⟨m, hm, rfl⟩
        have hqin := (unhide HT).cl p (unhide HPIN) q hqn
        have hlm2 : leadsB ((V p).1, (V p).2, true) ((V q).1, (V q).2, true) = true := by
          have h1 : leadsB (gS ((L p).map (beh p) ++ [p]) ts p) (gS ((L p).map (beh p) ++ [p]) ts (beh p m)) = true := hlm
          rw [← hq, unhide HGP, unhide HGV q hqn] at h1
          exact h1
        obtain ⟨hq1, hq2⟩ := leads_one hlm2 (unhide HPV)
        obtain ⟨e1, he1⟩ : ∃ e1 : Nat, d = e1 + 1 := ⟨d - 1, by omega⟩
        have hqd : (V q).2 = (e1 : Int) := by
          have h1 : (V q).2 + 1 = (V p).2 := hq1
          rw [unhide HPD] at h1
          omega
        have hqv : (V q).1 ≠ 3 := hq2
        obtain ⟨wc, hwc⟩ : ∃ wc, wc = wb.alloc (.cells #[.int .i64 m.f, .int .i64 (m.t : Int), .int .u8 (m.c : Int)] 45 (0, 0)) := ⟨_, rfl⟩
        have hbc : Below wb.heap.size wb wc := by rw [hwc]; exact (Below.refl _ _).alloc (Nat.le_refl _) _
        have hmb : isMb wc wb.heap.size m.f (m.t : Int) (m.c : Int) := by rw [hwc]; exact heap_alloc_new wb _
        have hpl := (unhide HPB).lt
        have hbrc : Below wr.heap.size wr wc := hbb.trans (hbc.mono hbb.size)
        have hb2c : Below w2.heap.size w2 wc := (unhide HBR).trans (hbrc.mono (by omega))
        obtain ⟨hruc, -, hbwc⟩ := unhide HFR wc hb2c
        have hpbc := (unhide HPB).below hbrc hpl
        have HA1 : Hid (Calls Tryz.prog 10 #[.agg #[.int .i64 s.W, .int .i64 s.H, .string s.C, .int .i64 s.T, .string s.A, .string s.B, v6, v7, v8, v9, v10, v11, v12], .agg #[.int .i64 p.W, .int .i64 p.H, .string p.C, .int .i64 p.T, .string p.A, .string p.B], .agg #[.int .i64 m.f, .int .i64 (m.t : Int), .int .u8 (m.c : Int)]] wc fun e w' => e = .returned (.tuple #[.agg #[.int .i64 q.W, .int .i64 q.H, .string q.C, .int .i64 q.T, .string q.A, .string q.B], .int .i64 0]) ∧ Below wc.heap.size wc w') := hide (by
          have := unhide HAP p (unhide HOKP) m hm wc hbwc
          rw [← hq] at this
          exact this)
        clear x0 x1 x2 x3 x4 x5 x6 x7 x8 x9 x10 x11 x12 p0 p1 p2 p3 p4 p5
        obtain ⟨x0, x1, x2, x3, x4, x5, x6, x7, x8, x9, x10, x11, x12⟩ := hruc.cells
        obtain ⟨p0, p1, p2, p3, p4, p5⟩ := hpbc.all
        obtain ⟨m0, m1, m2⟩ := hmb.all
        have HWC := hide hwc
        have HB2C := hide hb2c
        have HPBC := hide hpbc
        have HQI := hide hqin
        have HQD := hide hqd
        have HQV := hide hqv
        have HE1 := hide he1
        clear hm hlm hq hqn hqin hlm2 hq1 hq2 he1 hqd hqv hwc hbc hmb hpl hbrc hb2c hruc hbwc hpbc hbb HB1 HGV HGP HNXP HPIN HPV HPD HOKP
        go_upto_region 10 with fail
        rw [← unhide HWC]
        clear HWC hlr
        go_wp2_with fail
        refine (unhide HA1).mono ?_
        rintro e wd ⟨rfl, hbd⟩
        obtain ⟨we, hwe⟩ : ∃ we, we = wd.alloc (.cells #[.int .i64 q.W, .int .i64 q.H, .string q.C, .int .i64 q.T, .string q.A, .string q.B] 24 (0, 0)) := ⟨_, rfl⟩
        have hbe : Below wd.heap.size wd we := by rw [hwe]; exact (Below.refl _ _).alloc (Nat.le_refl _) _
        have hqb : isPb we wd.heap.size q.W q.H q.T q.C q.A q.B := by rw [hwe]; exact heap_alloc_new wd _
        have hpl := (unhide HPBC).lt
        have hbce : Below wc.heap.size wc we := hbd.trans (hbe.mono hbd.size)
        have hb2e : Below w2.heap.size w2 we := (unhide HB2C).trans (hbce.mono (by omega))
        have hpbe := (unhide HPBC).below hbce hpl
        have HF1 := hide (unhide HFI q (unhide HQI) we hb2e)
        obtain ⟨qv, hqv⟩ : ∃ qv, qv = (V q).1 := ⟨_, rfl⟩
        rw [← hqv, unhide HQD] at HF1
        have hde : (d : Int) - 1 = (e1 : Int) := by have := unhide HE1; omega
        have hee : ((e1 : Int) != (e1 : Int)) = false := by simp
        have we1 : IntKind.i64.wrap (e1 : Int) = (e1 : Int) := by unfold IntKind.wrap; simp [IntKind.signed, IntKind.bits]; omega
        clear x0 x1 x2 x3 x4 x5 x6 x7 x8 x9 x10 x11 x12 p0 p1 p2 p3 p4 p5 m0 m1 m2
        obtain ⟨p0, p1, p2, p3, p4, p5⟩ := hqb.all
        have HWE := hide hwe
        have HB2E := hide hb2e
        have HQB := hide hqb
        have HPBE := hide hpbe
        have HWD : Hid (w2.heap.size < wd.heap.size) := hide (by have := hbd.size; omega)
        clear hwe hbe hqb hpl hbce hb2e hpbe hbd hqv HA1
        go_upto_region 11 with fail
        rw [← unhide HWE]
        clear HWE
        go_wp2_with fail
        refine (unhide HF1).mono ?_
        rintro e wf ⟨rfl, hbf⟩
        have hqbf := (unhide HQB).below hbf (unhide HQB).lt
        have hpbf := (unhide HPBE).below hbf (unhide HPBE).lt
        have hb2f : Below w2.heap.size w2 wf := (unhide HB2E).trans (hbf.mono (by have := (unhide HPBE).lt; omega))
        clear p0 p1 p2 p3 p4 p5
        obtain ⟨p0, p1, p2, p3, p4, p5⟩ := hqbf.all
        obtain ⟨c0, c1, c2, c3, c4, c5⟩ := hpbf.all
        have f0 := hpbf.frozenT 0
        have f1 := hpbf.frozenT 1
        have f2 := hpbf.frozenT 2
        have f3 := hpbf.frozenT 3
        have f4 := hpbf.frozenT 4
        have f5 := hpbf.frozenT 5
        have HP2 := hide (hpbf.setAllT q.W q.H q.T q.C q.A q.B)
        have HB2 := hide (below_setT hb2f (Nat.le_refl _) (.int .i64 q.W) (.int .i64 q.H) (.string q.C) (.int .i64 q.T) (.string q.A) (.string q.B))
        have HIN2 : Hid (q ∈ ts.map (fun x => x.1) ∧ (V q).1 ≠ 3 ∧ (V q).2 = (e1 : Int)) := hide ⟨unhide HQI, unhide HQV, unhide HQD⟩
        have hed : e1 ≤ dn := by have := unhide HE1; omega
        have hed2 : e1 < d := by have := unhide HE1; omega
        have hfd := fun u => field_dist (.int .i64 q.W) (.int .i64 q.H) (.string q.C) (.int .i64 q.T) (.string q.A) (.string q.B) (.int .i64 qv) (.int .i64 (e1 : Int)) u
        clear hqbf hpbf hb2f hbf HF1 HQB HPBE HB2E
        go_wp2
        go_roundw
        case rel => exact ⟨e1, q, hed, by go_num, HIN2, HP2, HB2⟩
        case measure => simp only [intOf]; omega
      · have hdi : ¬ (0 : Int) < (d : Int) := by omega
        obtain ⟨hn, hev⟩ := (unhide HT).ends hpin hpv (by omega)
        obtain ⟨ho0, ho3⟩ := unhide HEND p hokp hn
        have ho3' := ho3 hev
        have HO1 := hide (unhide HO p hokp wr hbw)
        obtain ⟨op, hop⟩ : ∃ op, op = o p := ⟨_, rfl⟩
        rw [← hop] at HO1 ho0 ho3'
        have hb0 : (op != 0) = true := by simp [ho0]
        have hb3 : (op != 3) = true := by simp [ho3']
        have HBW := hide hbw
        clear hpin hpv hpd hokp hru hlr hbw hn hev ho0 ho3 ho3' hop HIN
        go_wp2_with fail
        refine (unhide HO1).mono ?_
        rintro e wz ⟨rfl, hbz⟩
        have HBZ : Hid (Below w.heap.size w wz) := hide ((unhide HBW).trans (hbz.mono (unhide HBW).size))
        clear hbz
        go_wp2
        go_ret
        exact ⟨rfl, unhide HBZ⟩
end Go.Proofs.YtbijadnekoeofaaGreatDoor

namespace Go.Proofs.YtbijadnekoeofaaGreatDoor

/-- The least and the greatest distance, how many are lost, how many are even. -/
structure LG (V : Po → Int × Int) (qs : List Po) (le gr lo ev : Int) : Prop where
  le1 : (le = 1073741824 ∧ ∀ q ∈ qs, (V q).1 ≠ 2) ∨ ∃ q ∈ qs, (V q).1 = 2 ∧ le = (V q).2
  le2 : ∀ q ∈ qs, (V q).1 = 2 → le ≤ (V q).2
  gr0 : 0 ≤ gr ∧ gr ≤ 5000
  gr1 : gr = 0 ∨ ∃ q ∈ qs, gr = (V q).2
  gr2 : ∀ q ∈ qs, (V q).1 ≠ 2 → (V q).1 ≠ 3 → (V q).2 ≤ gr
  lo0 : 0 ≤ lo ∧ lo ≤ qs.length
  lo1 : lo = 0 ↔ ∀ q ∈ qs, (V q).1 ≠ 2
  ev0 : 0 ≤ ev ∧ ev ≤ qs.length
  ev1 : ev = 0 ↔ ∀ q ∈ qs, (V q).1 ≠ 3
section
variable {V : Po → Int × Int} {qs : List Po} {le gr lo ev : Int} {q : Po}
theorem LG.start : LG V [] 1073741824 0 0 0 := ⟨.inl ⟨rfl, by simp⟩, by simp, by omega, .inl rfl, by simp, by simp, by simp, by simp, by simp⟩
theorem LG.le_le (h : LG V qs le gr lo ev) (hb : ∀ q ∈ qs, 0 ≤ (V q).2 ∧ (V q).2 ≤ 5000) : 0 ≤ le ∧ le ≤ 1073741824 := by
  rcases h.le1 with ⟨h1, -⟩ | ⟨q, hq, -, h1⟩
  · omega
  · have := hb q hq; omega
theorem LG.lost (h : LG V qs le gr lo ev) (hq : (V q).1 = 2) (hb : 0 ≤ (V q).2 ∧ (V q).2 ≤ 5000) : LG V (qs ++ [q]) (if (V q).2 < le then (V q).2 else le) gr (lo + 1) ev := by
  refine ⟨?_, ?_, h.gr0, ?_, ?_, ?_, ?_, ?_, ?_⟩
  · right
    split
    · exact ⟨q, by simp, hq, rfl⟩
    · rename_i hlt
      rcases h.le1 with ⟨h1, -⟩ | ⟨q', hq', h1, h2⟩
      · omega
      · exact ⟨q', by simp [hq'], h1, h2⟩
  · intro q' hq' h2
    rw [List.mem_append, List.mem_singleton] at hq'
    rcases hq' with hq' | rfl
    · have := h.le2 q' hq' h2
      split <;> omega
    · split <;> omega
  · rcases h.gr1 with h1 | ⟨q', hq', h1⟩
    · exact .inl h1
    · exact .inr ⟨q', by simp [hq'], h1⟩
  · intro q' hq' h2 h3
    rw [List.mem_append, List.mem_singleton] at hq'
    rcases hq' with hq' | rfl
    · exact h.gr2 q' hq' h2 h3
    · exact absurd hq h2
  · have := h.lo0
    simp
    omega
  · have := h.lo0
    constructor
    · intro h0; omega
    · intro h0
      exact absurd hq (h0 q (by simp))
  · have := h.ev0
    simp
    omega
  · rw [h.ev1]
    constructor
    · intro h0 q' hq'
      rw [List.mem_append, List.mem_singleton] at hq'
      rcases hq' with hq' | rfl
      · exact h0 q' hq'
      · omega
    · intro h0 q' hq'
      exact h0 q' (by simp [hq'])
theorem LG.even (h : LG V qs le gr lo ev) (hq : (V q).1 = 3) : LG V (qs ++ [q]) le gr lo (ev + 1) := by
  refine ⟨?_, ?_, h.gr0, ?_, ?_, ?_, ?_, ?_, ?_⟩
  · rcases h.le1 with ⟨h1, h2⟩ | ⟨q', hq', h1, h2⟩
    · refine .inl ⟨h1, fun q' hq' => ?_⟩
      rw [List.mem_append, List.mem_singleton] at hq'
      rcases hq' with hq' | rfl
      · exact h2 q' hq'
      · omega
    · exact .inr ⟨q', by simp [hq'], h1, h2⟩
  · intro q' hq' h2
    rw [List.mem_append, List.mem_singleton] at hq'
    rcases hq' with hq' | rfl
    · exact h.le2 q' hq' h2
    · omega
  · rcases h.gr1 with h1 | ⟨q', hq', h1⟩
    · exact .inl h1
    · exact .inr ⟨q', by simp [hq'], h1⟩
  · intro q' hq' h2 h3
    rw [List.mem_append, List.mem_singleton] at hq'
    rcases hq' with hq' | rfl
    · exact h.gr2 q' hq' h2 h3
    · exact absurd hq h3
  · have := h.lo0
    simp
    omega
  · rw [h.lo1]
    constructor
    · intro h0 q' hq'
      rw [List.mem_append, List.mem_singleton] at hq'
      rcases hq' with hq' | rfl
      · exact h0 q' hq'
      · omega
    · intro h0 q' hq'
      exact h0 q' (by simp [hq'])
  · have := h.ev0
    simp
    omega
  · have := h.ev0
    constructor
    · intro h0; omega
    · intro h0
      exact absurd hq (h0 q (by simp))
theorem LG.won (h : LG V qs le gr lo ev) (h2 : (V q).1 ≠ 2) (h3 : (V q).1 ≠ 3) (hb : 0 ≤ (V q).2 ∧ (V q).2 ≤ 5000) : LG V (qs ++ [q]) le (if gr < (V q).2 then (V q).2 else gr) lo ev := by
  refine ⟨?_, ?_, ?_, ?_, ?_, ?_, ?_, ?_, ?_⟩
  · rcases h.le1 with ⟨h1, h4⟩ | ⟨q', hq', h1, h4⟩
    · refine .inl ⟨h1, fun q' hq' => ?_⟩
      rw [List.mem_append, List.mem_singleton] at hq'
      rcases hq' with hq' | rfl
      · exact h4 q' hq'
      · exact h2
    · exact .inr ⟨q', by simp [hq'], h1, h4⟩
  · intro q' hq' h5
    rw [List.mem_append, List.mem_singleton] at hq'
    rcases hq' with hq' | rfl
    · exact h.le2 q' hq' h5
    · exact absurd h5 h2
  · have := h.gr0
    split <;> omega
  · split
    · exact .inr ⟨q, by simp, rfl⟩
    · rcases h.gr1 with h1 | ⟨q', hq', h1⟩
      · exact .inl h1
      · exact .inr ⟨q', by simp [hq'], h1⟩
  · intro q' hq' h5 h6
    rw [List.mem_append, List.mem_singleton] at hq'
    rcases hq' with hq' | rfl
    · have := h.gr2 q' hq' h5 h6
      split <;> omega
    · split <;> omega
  · have := h.lo0
    simp
    omega
  · rw [h.lo1]
    constructor
    · intro h0 q' hq'
      rw [List.mem_append, List.mem_singleton] at hq'
      rcases hq' with hq' | rfl
      · exact h0 q' hq'
      · exact h2
    · intro h0 q' hq'
      exact h0 q' (by simp [hq'])
  · have := h.ev0
    simp
    omega
  · rw [h.ev1]
    constructor
    · intro h0 q' hq'
      rw [List.mem_append, List.mem_singleton] at hq'
      rcases hq' with hq' | rfl
      · exact h0 q' hq'
      · exact h3
    · intro h0 q' hq'
      exact h0 q' (by simp [hq'])
/-- It is as a table must say. -/
theorem LG.fin {nx : Po → List Po} {ev' : Po → Int} {s : Po} {ts : List (Po × Int × Int)} (hT : Tab nx ev' s ts V) {p : Po} (hp : p ∈ ts.map (fun x => x.1)) (hn : nx p ≠ []) (h : LG V (nx p) le gr lo ev) :
    ((V p).1 = 3 ∧ lo = 0 ∧ 0 < ev ∧ (V p).2 = 0) ∨ ((V p).1 = 1 ∧ 0 < lo ∧ (V p).2 = le + 1) ∨ ((V p).1 = 2 ∧ lo = 0 ∧ ev = 0 ∧ (V p).2 = gr + 1) := by
  have hb := fun q (hq : q ∈ nx p) => hT.bd q (hT.cl p hp q hq)
  rcases hT.play p hp hn with ⟨a, ⟨q, hq, b, c⟩, d⟩ | ⟨a, b, q, hq, c⟩ | ⟨a, b, q, hq, c⟩
  · refine .inr (.inl ⟨a, ?_, ?_⟩)
    · have h0 := h.lo0
      have : lo ≠ 0 := fun e => h.lo1.1 e q hq b
      omega
    · have h1 := h.le2 q hq b
      rcases h.le1 with ⟨-, h2⟩ | ⟨q', hq', h2, h3⟩
      · exact absurd b (h2 q hq)
      · have := d q' hq' h2
        omega
  · refine .inr (.inr ⟨a, h.lo1.2 (fun q' hq' => by have := (b q' hq').1; omega), h.ev1.2 (fun q' hq' => by have := (b q' hq').1; omega), ?_⟩)
    have h1 := (b q hq).1
    have h2 := h.gr2 q hq (by omega) (by omega)
    rcases h.gr1 with h3 | ⟨q', hq', h3⟩
    · have := (hb q hq).2.2.1
      omega
    · have := (b q' hq').2
      omega
  · refine .inl ⟨by rw [a], h.lo1.2 b, ?_, by rw [a]⟩
    have h0 := h.ev0
    have h1 := hb q hq
    have h2 := b q hq
    have : ev ≠ 0 := fun e => h.ev1.1 e q hq (by omega)
    omega
end
end Go.Proofs.YtbijadnekoeofaaGreatDoor
