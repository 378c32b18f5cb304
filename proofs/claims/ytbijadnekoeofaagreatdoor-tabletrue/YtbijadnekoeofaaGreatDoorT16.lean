/-
  package table, walked: reached.
-/
import Derived.Test.YtbijadnekoeofaaGreatDoorJ31
import Derived.Test.YtbijadnekoeofaaGreatDoorJ21
import Derived.Test.YtbijadnekoeofaaGreatDoorJ8
import Derived.Test.YtbijadnekoeofaaGreatDoorJ5
import Derived.Deep.Cut
namespace Go.Proofs.YtbijadnekoeofaaGreatDoor
open Go.RowKit
attribute [local go_sem ↓] Go.wp_at_zero Go.wp_at_succ

theorem row_posT {w : World} {base n : Nat} {t : TypeId} {v : Value} {qs : List Po} (hr : w.ownsRow base t 6 v n (povs qs)) (hn : n ≠ 0) : ∃ g cap, v = .slice (some ⟨g, 0, none⟩) n cap ∧ base ≤ g ∧ g < w.heap.size ∧ n ≤ cap ∧ cap ≤ maxLen ∧ ∀ (j : Nat) (q : Po), qs[j]? = some q → j < n ∧ ∀ u : World, u.heap[g]? = w.heap[g]? → u.cell? ⟨g, j * 6, none⟩ = some (.int .i64 q.W) ∧ u.cell? ⟨g, j * 6 + 1, none⟩ = some (.int .i64 q.H) ∧ u.cell? ⟨g, j * 6 + 2, none⟩ = some (.string q.C) ∧ u.cell? ⟨g, j * 6 + 3, none⟩ = some (.int .i64 q.T) ∧ u.cell? ⟨g, j * 6 + 4, none⟩ = some (.string q.A) ∧ u.cell? ⟨g, j * 6 + 5, none⟩ = some (.string q.B) := by
  have hl : qs.length = n := by
    have h1 := hr.1
    rw [povs_len] at h1
    omega
  rcases hr.2 with ⟨_, h0⟩ | ⟨g, cap, cur, e, hb, hg, h1, h2, _⟩
  · omega
  · subst e
    refine ⟨g, cap, rfl, hb, (Array.getElem?_eq_some_iff.1 hg).1, h1, h2, fun j q hq => ?_⟩
    have hj : j < n := by
      have := (List.getElem?_eq_some_iff.1 hq).1
      omega
    refine ⟨hj, fun u hu => ?_⟩
    have key : ∀ k, k < 6 → u.cell? ⟨g, j * 6 + k, none⟩ = [Value.int .i64 q.W, .int .i64 q.H, .string q.C, .int .i64 q.T, .string q.A, .string q.B][k]? := fun k hk => by
      rw [World.cell?_of_block (a := ⟨g, j * 6 + k, none⟩) hu, hr.cellAt (j * 6 + k) (by omega)]
      exact fm_at (f := fun p : Po => [.int .i64 p.W, .int .i64 p.H, .string p.C, .int .i64 p.T, .string p.A, .string p.B]) (fun _ => rfl) qs j k q hq hk
    exact ⟨key 0 (by omega), key 1 (by omega), key 2 (by omega), key 3 (by omega), key 4 (by omega), key 5 (by omega)⟩
theorem wpList_appRun {P : Program} {ops : Array Oper} {rest : List Oper} {o : Oper} {a : Act} {w : World} {Q : Exit → Act → World → Prop} (hgd : o.guard = none) (s x : Operand) (t : TypeId)
    (ho : o.op = .call { callee := .builtin .append, args := #[s, x], argTypes := #[t, t] }) (v y v' : Value) (w' : World) (hs : a.eval s = v) (hx : a.eval x = y) (hr : (Builtin.append_ #[t, t] o.type #[v, y]).run P w = .ok v' w') (h : wpList P ops Q rest (a.put o.dst v') w') : wpList P ops Q (o :: rest) a w := by
  refine wpList_plain hgd fun K hK => ?_
  unfold Oper.wp execOp
  simp only [ho, resolve, invoke, builtin, Sem.run_bind, Sem.run_pure, Result.andThen_ok, List.map_toArray, List.map_cons, List.map_nil, hs, hx, hr]
  exact hK _ _ h
theorem row_lenT {w : World} {base : Nat} {e : TypeId} {size n : Nat} {v : Value} {xs : List Value} (h : w.ownsRow base e size v n xs) : ∃ uo uc, v = .slice uo n uc := by
  rcases h.2 with ⟨h1, h2⟩ | ⟨g, cap, cur, h1, -⟩
  · exact ⟨none, 0, by rw [h1, h2]⟩
  · exact ⟨_, _, h1⟩
/-- What reached hands back. -/
structure ReE (nx : Po → List Po) (ev : Po → Int) (s : Po) (most : Nat) (w : World) (e : Ending) (w' : World) : Prop where
  bw : Below w.heap.size w w'
  out : ((∃ i, most < (bfsN nx s i).length) ∧ e = .returned (.tuple #[.slice none 0 0, .bool false])) ∨ (∃ gN cap nds, e = .returned (.tuple #[.slice (some ⟨gN, 0, none⟩) nds.length cap, .bool true]) ∧ NdR w' (w.heap.size + 1) gN cap nds ∧ RW nx ev s nds.length 0 false [] nds ∧ nds.length ≤ most ∧ ∀ a, a < nds.length → a < (bfsN nx s a).length)
theorem NdR.ix {u : World} {base gN cap : Nat} {nds : List Nd} (h : NdR u base gN cap nds) : nds.length ≤ cap ∧ cap ≤ maxLen := by
  rcases h.row.2 with ⟨e, _⟩ | ⟨g', c', cur, e, _, _, h1, h2, _⟩
  · simp at e
  · simp only [Value.slice.injEq, Option.some.injEq, Addr.mk.injEq, and_true, true_and] at e
    obtain ⟨-, rfl⟩ := e
    exact ⟨h1, h2⟩

set_option maxHeartbeats 4000000 in
set_option maxRecDepth 100000 in
theorem reached_walk (nx : Po → List Po) (ev : Po → Int) (ok : Po → Prop) (s : Po) (v6 v7 v8 v9 v10 v11 v12 : Value) (most : Nat) (w : World) (hm1 : 1 ≤ most) (hm5 : most ≤ 5000) (hs : ok s) (hok : ∀ p, ok p → p.ok) (hstay : ∀ p, ok p → ∀ q ∈ nx p, ok q) (hlen : ∀ p, (nx p).length ≤ 4608)
    (hTu : ∀ u, Below w.heap.size w u → Calls Tryz.prog 34 #[.agg #[.int .i64 s.W, .int .i64 s.H, .string s.C, .int .i64 s.T, .string s.A, .string s.B], .int .i64 0] u fun e w' => e = .returned (.tuple #[.agg #[.int .i64 s.W, .int .i64 s.H, .string s.C, .int .i64 s.T, .string s.A, .string s.B], .int .i64 0]) ∧ Below u.heap.size u w')
    (hNx : ∀ p, ok p → ∀ u, Below w.heap.size w u → Calls Tryz.prog 35 #[.agg #[.int .i64 s.W, .int .i64 s.H, .string s.C, .int .i64 s.T, .string s.A, .string s.B, v6, v7, v8, v9, v10, v11, v12], .agg #[.int .i64 p.W, .int .i64 p.H, .string p.C, .int .i64 p.T, .string p.A, .string p.B]] u fun e w' => ∃ x y, e = .returned (.tuple #[x, y, .int .i64 0]) ∧ w'.ownsRow u.heap.size 24 6 y (nx p).length (povs (nx p)) ∧ Below u.heap.size u w')
    (hEv : ∀ p, ok p → nx p = [] → ∀ u, Below w.heap.size w u → Calls Tryz.prog 36 #[.agg #[.int .i64 s.W, .int .i64 s.H, .string s.C, .int .i64 s.T, .string s.A, .string s.B, v6, v7, v8, v9, v10, v11, v12], .agg #[.int .i64 p.W, .int .i64 p.H, .string p.C, .int .i64 p.T, .string p.A, .string p.B]] u fun e w' => e = .returned (.int .i64 (ev p)) ∧ Below u.heap.size u w') :
    Calls Tryz.prog 13 #[.agg #[.int .i64 s.W, .int .i64 s.H, .string s.C, .int .i64 s.T, .string s.A, .string s.B, v6, v7, v8, v9, v10, v11, v12], .int .i64 (most : Int)] w (ReE nx ev s most w) := by
  obtain ⟨w1, hw1⟩ : ∃ w1, w1 = w.alloc (.cells #[.int .i64 s.W, .int .i64 s.H, .string s.C, .int .i64 s.T, .string s.A, .string s.B, v6, v7, v8, v9, v10, v11, v12] 27 (0, 0)) := ⟨_, rfl⟩
  have b1 : Below w.heap.size w w1 := by rw [hw1]; exact (Below.refl _ _).alloc (Nat.le_refl _) _
  have s1 : w1.heap.size = w.heap.size + 1 := by rw [hw1]; simp
  have hru1 : isRu w1 w.heap.size (.int .i64 s.W) (.int .i64 s.H) (.string s.C) (.int .i64 s.T) (.string s.A) (.string s.B) v6 v7 v8 v9 v10 v11 v12 := by rw [hw1]; exact heap_alloc_new w _
  have HRU : Hid (∀ u, Below w1.heap.size w1 u → isRu u w.heap.size (.int .i64 s.W) (.int .i64 s.H) (.string s.C) (.int .i64 s.T) (.string s.A) (.string s.B) v6 v7 v8 v9 v10 v11 v12) := hide (fun u hu => hru1.below hu (by omega))
  have HUP : Hid (∀ u, Below w1.heap.size w1 u → Below w.heap.size w u) := hide (fun u hu => b1.trans (hu.mono (by omega)))
  have HTU := hide (hTu w1 b1)
  obtain ⟨r0, r1, r2, r3, r4, r5, r6, r7, r8, r9, r10, r11, r12⟩ := hru1.cells
  have HW1 := hide hw1
  have HS1 := hide s1
  have HNX := hide hNx
  have HEV := hide hEv
  have HOKS := hide hs
  have HOK := hide hok
  have HSTAY := hide hstay
  clear hw1 b1 s1 hru1 hTu hNx hEv hs hok hstay
  go_enter Tryz.func13, Tryz.ntmps13
  go_upto_region 1 with fail
  rw [← unhide HW1]
  clear HW1
  go_wp2_with fail
  refine (unhide HTU).mono ?_
  rintro e w2 ⟨rfl, hb2⟩
  obtain ⟨w3, hw3⟩ : ∃ w3, w3 = w2.alloc (.cells #[.int .i64 s.W, .int .i64 s.H, .string s.C, .int .i64 s.T, .string s.A, .string s.B] 24 (0, 0)) := ⟨_, rfl⟩
  obtain ⟨w4, hw4⟩ : ∃ w4, w4 = w3.alloc (.map #[] 0) := ⟨_, rfl⟩
  have hb3 : Below w2.heap.size w2 w3 := by rw [hw3]; exact (Below.refl _ _).alloc (Nat.le_refl _) _
  have hb4 : Below w3.heap.size w3 w4 := by rw [hw4]; exact (Below.refl _ _).alloc (Nat.le_refl _) _
  have hpb3 : isPb w3 w2.heap.size s.W s.H s.T s.C s.A s.B := by rw [hw3]; exact heap_alloc_new w2 _
  have hpb4 := hpb3.below hb4 hpb3.lt
  obtain ⟨b, hb⟩ : ∃ b, b = w3.heap.size := ⟨_, rfl⟩
  have hsok : s.ok := unhide HOK s (unhide HOKS)
  have hnm4 : numM w4 b [] 0 := by rw [hw4, hb]; exact numM_made w3 0
  obtain ⟨w5, hrun5, hnm5, hg5⟩ := hnm4.put (p := s) (by simp) hsok (by simp)
  have hrun5' : (Instr.mapUpdate 36 (.map (some b)) (.agg #[.int .i64 s.W, .int .i64 s.H, .string s.C, .int .i64 s.T, .string s.A, .string s.B]) (.int .i64 0)).run Tryz.prog w4 = .ok () w5 := by simpa using hrun5
  obtain ⟨w6, hw6⟩ : ∃ w6, w6 = w5.alloc (.cells #[.int .i64 s.W, .int .i64 s.H, .string s.C, .int .i64 s.T, .string s.A, .string s.B, .int .i64 0, .int .i64 0, .slice none 0 0, .int .i64 0] 54 (0, 0)) := ⟨_, rfl⟩
  have hb6 : Below w5.heap.size w5 w6 := by rw [hw6]; exact (Below.refl _ _).alloc (Nat.le_refl _) _
  have z2 := hb2.size
  have z3 := hb3.size
  have z4 := hb4.size
  have z5 := hg5.size
  have hw3s : w3.heap.size = w2.heap.size + 1 := by rw [hw3]; simp
  have hpb5 : isPb w5 w2.heap.size s.W s.H s.T s.C s.A s.B := (hg5.block _ hpb4.lt (by simp; omega)).trans hpb4
  have hbw4 : Below w1.heap.size w1 w4 := (hb2.trans (hb3.mono z2)).trans (hb4.mono (by omega))
  have hbw5 : Below w1.heap.size w1 w5 := below_row hbw4 (by omega) hg5
  have hbw6 : Below w1.heap.size w1 w6 := hbw5.trans (hb6.mono hbw5.size)
  have hrow6 : w6.heap[w5.heap.size]? = some (.cells #[.int .i64 s.W, .int .i64 s.H, .string s.C, .int .i64 s.T, .string s.A, .string s.B, .int .i64 0, .int .i64 0, .slice none 0 0, .int .i64 0] 54 (0, 0)) := by rw [hw6]; exact heap_alloc_new w5 _
  have hnd6 : NdR w6 w1.heap.size w5.heap.size 1 [⟨s, 0, 0, none, 0, [], 0⟩] := by
    have hone : ∀ (j : Nat) (m : Nd), [(⟨s, 0, 0, none, 0, [], 0⟩ : Nd)][j]? = some m → m = ⟨s, 0, 0, none, 0, [], 0⟩ := fun j m hm => by
      have := List.mem_of_getElem? hm
      simpa using this
    refine ⟨⟨rfl, .inr ⟨w5.heap.size, 1, _, rfl, hbw5.size, hrow6, Nat.le_refl _, by unfold maxLen; omega, rfl, rfl⟩⟩, fun j m hm => ?_, fun j m hm => ?_, fun a c m1 m2 h1 h2 hac g e1 => ?_⟩
    · rw [hone j m hm]; exact ⟨rfl, .inl ⟨rfl, rfl⟩⟩
    · rw [hone j m hm]; simp [Value.ownBlock]
    · rw [hone a m1 h1] at e1; simp [Value.ownBlock] at e1
  have hRM0 : RM nx ev s most b w1 0 0 false [] w5.heap.size 1 [⟨s, 0, 0, none, 0, [], 0⟩] w6 := ⟨hnd6, RW.start _, hm1, hnm5.of_block (hb6.block b hnm5.lt), by omega, hbw6, fun a ha => by omega⟩
  have HRM0 := hide hRM0
  have HW3 := hide hw3
  have HW4 := hide hw4
  have HW6 := hide hw6
  have HBD := hide hb
  obtain ⟨p0, p1, p2, p3, p4, p5⟩ := hpb4.all
  obtain ⟨y0, y1, y2, y3, y4, y5⟩ := hpb5.all
  obtain ⟨a0, a1, a2, a3, a4, a5⟩ := hpb3.all
  have hmm := @run_makeMap Tryz.prog
  obtain ⟨g0, hg0⟩ : ∃ g0, g0 = w5.heap.size := ⟨_, rfl⟩
  rw [← hg0] at HRM0
  have HG0 := hide hg0
  clear hb hb2 hw3 hw4 hb3 hb4 hpb3 hpb4 hpb5 hnm4 hrun5 hnm5 hg5 hw6 hb6 z2 z3 z4 z5 hw3s hbw4 hbw5 hbw6 hrow6 hnd6 hRM0 r0 r1 r2 r3 r4 r5 r6 r7 r8 r9 r10 r11 r12 hg0
  rw [unhide HW4] at p0 p1 p2 p3 p4 p5 hrun5'
  rw [unhide HBD] at hrun5'
  go_upto_region 2 with fail
  rw [← unhide HW3]
  go_upto_region 4 with fail
  rw [← unhide HW6, ← unhide HBD, ← unhide HG0]
  clear HW3 HW4 HW6 p0 p1 p2 p3 p4 p5 y0 y1 y2 y3 y4 y5 a0 a1 a2 a3 a4 a5 hmm hrun5'
  go_wp2
  go_loopw [4, 9] (fun lv iv wr => ∃ (i gN cN n : Nat) (nds : List Nd), lv = .slice (some ⟨gN, 0, none⟩) n cN ∧ iv = .int .i64 (i : Int) ∧ i ≤ n ∧ n ≤ cN ∧ cN ≤ 9223372036854775807 ∧ n ≤ most ∧ Hid (nds.length = n) ∧ Hid (RM nx ev s most b w1 i 0 false [] gN cN nds wr)) (fun _ iv _ => most - (intOf iv).toNat)
  case atStart => exact ⟨0, g0, 1, 1, _, rfl, rfl, by omega, by omega, by omega, hm1, hide rfl, HRM0⟩
  case round =>
    obtain ⟨i, gN, cN, n, nds, rfl, rfl, hin0, hncap, hcapm, hnm, HLN, HRM⟩ := hrel
    rename World => wr
    clear HRM0
    by_cases hin : i < n
    · have hini : (i : Int) < (n : Int) := by omega
      have hi0 : (0 : Int) ≤ (i : Int) := by omega
      have hi5 : i ≤ 5000 := by omega
      obtain ⟨m, hm⟩ : ∃ m, nds[i]? = some m := ⟨_, List.getElem?_eq_getElem (by rw [unhide HLN]; exact hin)⟩
      obtain ⟨p, hp⟩ : ∃ p, p = m.p := ⟨_, rfl⟩
      have hpi : (bfsN nx s i)[i]? = some p := by
        have := (unhide HRM).rw_.at_ hm
        rw [hp]
        simpa [extL] using this
      have hokp : ok p := bfs_ok (unhide HOKS) (unhide HSTAY) i p (List.mem_of_getElem? hpi)
      obtain ⟨c0, -⟩ := (unhide HRM).nd.cell hm 0 (by omega)
      obtain ⟨c1, -⟩ := (unhide HRM).nd.cell hm 1 (by omega)
      obtain ⟨c2, -⟩ := (unhide HRM).nd.cell hm 2 (by omega)
      obtain ⟨c3, -⟩ := (unhide HRM).nd.cell hm 3 (by omega)
      obtain ⟨c4, -⟩ := (unhide HRM).nd.cell hm 4 (by omega)
      obtain ⟨c5, -⟩ := (unhide HRM).nd.cell hm 5 (by omega)
      have d0 : wr.cell? ⟨gN, i * 10, none⟩ = some (.int .i64 p.W) := by rw [hp]; exact c0
      have d1 : wr.cell? ⟨gN, i * 10 + 1, none⟩ = some (.int .i64 p.H) := by rw [hp]; exact c1
      have d2 : wr.cell? ⟨gN, i * 10 + 2, none⟩ = some (.string p.C) := by rw [hp]; exact c2
      have d3 : wr.cell? ⟨gN, i * 10 + 3, none⟩ = some (.int .i64 p.T) := by rw [hp]; exact c3
      have d4 : wr.cell? ⟨gN, i * 10 + 4, none⟩ = some (.string p.A) := by rw [hp]; exact c4
      have d5 : wr.cell? ⟨gN, i * 10 + 5, none⟩ = some (.string p.B) := by rw [hp]; exact c5
      obtain ⟨wi, hwi⟩ : ∃ wi, wi = wr.alloc (.cells #[.int .i64 p.W, .int .i64 p.H, .string p.C, .int .i64 p.T, .string p.A, .string p.B] 24 (0, 0)) := ⟨_, rfl⟩
      have hbi : Below wr.heap.size wr wi := by rw [hwi]; exact (Below.refl _ _).alloc (Nat.le_refl _) _
      have hRi := (unhide HRM).below hbi
      have hpbi : isPb wi wr.heap.size p.W p.H p.T p.C p.A p.B := by rw [hwi]; exact heap_alloc_new wr _
      have HNC := hide (unhide HNX p hokp wi (unhide HUP wi hRi.bw))
      obtain ⟨r0, r1, r2, r3, r4, r5, r6, r7, r8, r9, r10, r11, r12⟩ := (unhide HRU wi hRi.bw).cells
      obtain ⟨e0, e1, e2, e3, e4, e5⟩ := hpbi.all
      have HRI := hide hRi
      have HPBI := hide hpbi
      have HWI := hide hwi
      have HM := hide hm
      have HP := hide hp
      have HPI := hide hpi
      have HOKP := hide hokp
      clear c0 c1 c2 c3 c4 c5 hwi hbi hRi hpbi hm hp hpi hokp HRM
      go_upto_region 8 with fail
      rw [← unhide HWI]
      clear HWI d0 d1 d2 d3 d4 d5
      go_wp2_with fail
      refine (unhide HNC).mono ?_
      rintro e w7 ⟨xv, yv, rfl, hyo, hb7⟩
      obtain ⟨N, hN⟩ : ∃ N, N = (nx p).length := ⟨_, rfl⟩
      rw [← hN] at hyo
      obtain ⟨yo, yc, rfl⟩ := row_lenT hyo
      have hR7 := (unhide HRI).below hb7
      obtain ⟨ps, hps⟩ : ∃ ps, ps = nx p := ⟨_, rfl⟩
      have HPL : Hid (ps.length = N) := hide (by rw [hps, hN])
      have hN46 : N ≤ 4608 := by rw [hN]; exact hlen p
      have HQOK : Hid (∀ q ∈ ps, q.ok) := hide (fun q hq => unhide HOK q (unhide HSTAY p (unhide HOKP) q (by rw [← hps]; exact hq)))
      have HYC : Hid (∀ (k : Nat) (q : Po), ps[k]? = some q → ∃ gy, yo = some ⟨gy, 0, none⟩ ∧ ∀ u : World, u.heap[gy]? = w7.heap[gy]? → u.cell? ⟨gy, k * 6, none⟩ = some (.int .i64 q.W) ∧ u.cell? ⟨gy, k * 6 + 1, none⟩ = some (.int .i64 q.H) ∧ u.cell? ⟨gy, k * 6 + 2, none⟩ = some (.string q.C) ∧ u.cell? ⟨gy, k * 6 + 3, none⟩ = some (.int .i64 q.T) ∧ u.cell? ⟨gy, k * 6 + 4, none⟩ = some (.string q.A) ∧ u.cell? ⟨gy, k * 6 + 5, none⟩ = some (.string q.B)) := hide (fun k q hq => by
        have hN0 : N ≠ 0 := fun e => by
          have h1 := (List.getElem?_eq_some_iff.1 hq).1
          rw [unhide HPL, e] at h1
          omega
        obtain ⟨g, c, e, -, -, -, -, hcell⟩ := row_posT hyo hN0
        simp only [Value.slice.injEq, true_and] at e
        exact ⟨g, e.1, (hcell k q (by rw [← hps]; exact hq)).2⟩)
      have hyx : yc ≤ 9223372036854775807 ∧ N ≤ yc := by
        rcases hyo.2 with ⟨e, h0⟩ | ⟨g', c', cur, e, _, _, h1, h2, _⟩
        · simp only [Value.slice.injEq] at e
          omega
        · simp only [Value.slice.injEq, true_and] at e
          obtain ⟨-, rfl⟩ := e
          unfold maxLen at h2
          exact ⟨h2, h1⟩
      obtain ⟨hyx1, hyx2⟩ := hyx
      have HYS : Hid (∀ gy, yo = some ⟨gy, 0, none⟩ → offN gN gy nds ∧ gy < w7.heap.size ∧ b ≠ gy ∧ gN ≠ gy) := hide (fun gy e => by
        have hblk := row_block hyo (g := gy) (by rw [e]; rfl)
        have h1 := (unhide HRI).nd.offN hblk.1
        have h2 := (unhide HRI).nm.lt
        exact ⟨h1, hblk.2, by omega, h1.1⟩)
      have hru7 := unhide HRU w7 hR7.bw
      have hpb7 := (unhide HPBI).below hb7 (unhide HPBI).lt
      clear r0 r1 r2 r3 r4 r5 r6 r7 r8 r9 r10 r11 r12 e0 e1 e2 e3 e4 e5 HNC
      have HPS := hide hps
      have HHN := hide hN
      have HR7 := hide hR7
      by_cases hnil : nx p = []
      · have hN0 : N = 0 := by rw [hN, hnil]; rfl
        have HEC := hide (fun u (hu : Below w1.heap.size w1 u) => unhide HEV p (unhide HOKP) hnil u (unhide HUP u hu))
        obtain ⟨r0, r1, r2, r3, r4, r5, r6, r7, r8, r9, r10, r11, r12⟩ := hru7.cells
        obtain ⟨e0, e1, e2, e3, e4, e5⟩ := hpb7.all
        have HNIL := hide hnil
        clear hps hN hR7 hyo hb7 hru7 hpb7 hnil HRI HPBI
        subst hN0
        go_wp2_with fail
        refine (unhide HEC w7 (unhide HR7).bw).mono ?_
        rintro e w8 ⟨rfl, hb8⟩
        have hR8 := (unhide HR7).below hb8
        obtain ⟨n6, f6⟩ := hR8.nd.cell (unhide HM) 6 (by omega)
        obtain ⟨n9, f9⟩ := hR8.nd.cell (unhide HM) 9 (by omega)
        have n6' : w8.cell? ⟨gN, i * 10 + 6, none⟩ = some (.int .i64 m.v) := n6
        have n9' : w8.cell? ⟨gN, i * 10 + 9, none⟩ = some (.int .i64 m.l) := n9
        obtain ⟨nds2, hl2, hR2, hof2⟩ := (hR8.look (N := 0) (unhide HM) (by rw [← unhide HP, unhide HNIL]; rfl) ps).1 (by rw [← unhide HP]; exact unhide HNIL)
        rw [← unhide HP] at hR2
        obtain ⟨u2, hu2⟩ : ∃ u2, u2 = (w8.setCell ⟨gN, i * 10 + 6, none⟩ (.int .i64 (ev p))).setCell ⟨gN, i * 10 + 9, none⟩ (.int .i64 0) := ⟨_, rfl⟩
        rw [← hu2] at hR2
        have HRM2 := hide hR2
        have HLN2 : Hid (nds2.length = n) := hide (by rw [hl2]; exact unhide HLN)
        have HYI : Hid (∀ gy, yo = some ⟨gy, 0, none⟩ → offN gN gy nds2 ∧ u2.heap[gy]? = w7.heap[gy]? ∧ gy < u2.heap.size ∧ b ≠ gy) := hide (fun gy e => by
          obtain ⟨o1, o2, o3, o4⟩ := unhide HYS gy e
          have hs8 := hb8.size
          refine ⟨hof2 gy o1, ?_, ?_, o3⟩
          · rw [hu2]
            exact (Below.heap_setCell _ _ _ _ (Ne.symm o4)).trans ((Below.heap_setCell _ _ _ _ (Ne.symm o4)).trans (hb8.block gy o2))
          · rw [hu2]
            simp only [World.setCell, Array.size_modify]
            omega)
        have HU2 := hide hu2
        clear hb8 hR8 n6 n9 hl2 hR2 hof2 hu2 r0 r1 r2 r3 r4 r5 r6 r7 r8 r9 r10 r11 r12 e0 e1 e2 e3 e4 e5 HEC HNIL
        go_upto_region 12 with fail
        rw [← unhide HU2]
        clear HU2
        go_wp2
        go_loopw [4, 69] (fun lv kv wq => lv = .slice (some ⟨gN, 0, none⟩) n cN ∧ kv = .int .i64 0 ∧ wq = u2) (fun _ _ _ => 0)
        case atStart => exact ⟨rfl, rfl, rfl⟩
        case round =>
          obtain ⟨rfl, rfl, hwq⟩ := hrel
          rename World => wq
          subst hwq
          have hRQ := unhide HRM2
          have hil := (List.getElem?_eq_some_iff.1 (unhide HPI)).1
          have HNEXT : Hid (RM nx ev s most b w1 (i + 1) 0 false [] gN cN nds2 wq) := hide ⟨hRQ.nd, hRQ.rw_.next (unhide HPI) (unhide HPS) (by rw [unhide HPL]; omega) [], hRQ.le, hRQ.nm, hRQ.bb, hRQ.bw, fun a ha => by
            by_cases hai : a < i
            · exact hRQ.bl a hai
            · have : a = i := by omega
              rw [this]; exact hil⟩
          clear hRQ hil
          go_wp2
          go_roundw
          case rel => exact ⟨i + 1, gN, cN, n, nds2, rfl, by go_num, by omega, hncap, hcapm, hnm, HLN2, HNEXT⟩
          case measure => simp only [intOf]; omega
      · have hN0 : N ≠ 0 := fun e => hnil (List.eq_nil_of_length_eq_zero (by rw [← hN, e]))
        have hNz : ((N : Int) == 0) = false := by simp; omega
        obtain ⟨n9, f9⟩ := hR7.nd.cell (unhide HM) 9 (by omega)
        have n9' : w7.cell? ⟨gN, i * 10 + 9, none⟩ = some (.int .i64 m.l) := n9
        obtain ⟨nds2, hl2, hR2, hof2⟩ := (hR7.look (N := (N : Int)) (unhide HM) (by rw [← unhide HP, hN]) ps).2 (by rw [← unhide HP]; exact hnil)
        obtain ⟨u2, hu2⟩ : ∃ u2, u2 = w7.setCell ⟨gN, i * 10 + 9, none⟩ (.int .i64 (N : Int)) := ⟨_, rfl⟩
        rw [← hu2] at hR2
        have HRM2 := hide hR2
        have HLN2 : Hid (nds2.length = n) := hide (by rw [hl2]; exact unhide HLN)
        have HYI : Hid (∀ gy, yo = some ⟨gy, 0, none⟩ → offN gN gy nds2 ∧ u2.heap[gy]? = w7.heap[gy]? ∧ gy < u2.heap.size ∧ b ≠ gy) := hide (fun gy e => by
          obtain ⟨o1, o2, o3, o4⟩ := unhide HYS gy e
          refine ⟨hof2 gy o1, ?_, ?_, o3⟩
          · rw [hu2]
            exact Below.heap_setCell _ _ _ _ (Ne.symm o4)
          · rw [hu2]
            simp only [World.setCell, Array.size_modify]
            exact o2)
        have HU2 := hide hu2
        clear hps hN hR7 hyo hb7 hru7 hpb7 hnil HRI HPBI n9 hl2 hR2 hof2 hu2
        go_upto_region 12 with fail
        rw [← unhide HU2]
        clear HU2
        go_wp2
        go_loopw [4, 69] (fun lv kv wq => ∃ (k gQ cQ n : Nat) (ndq : List Nd), lv = .slice (some ⟨gQ, 0, none⟩) n cQ ∧ kv = .int .i64 (k : Int) ∧ k ≤ N ∧ n ≤ cQ ∧ cQ ≤ 9223372036854775807 ∧ i < n ∧ n ≤ most ∧ Hid (ndq.length = n) ∧ Hid (RM nx ev s most b w1 i k true ps gQ cQ ndq wq) ∧ Hid (∀ gy, yo = some ⟨gy, 0, none⟩ → offN gQ gy ndq ∧ wq.heap[gy]? = w7.heap[gy]? ∧ gy < wq.heap.size ∧ b ≠ gy)) (fun _ kv _ => N - (intOf kv).toNat)
        case atStart => exact ⟨0, _, _, _, _, rfl, rfl, Nat.zero_le _, hncap, hcapm, hin, hnm, HLN2, HRM2, HYI⟩
        case round =>
          obtain ⟨k, gQ, cQ, n, ndq, rfl, rfl, hk, hnc, hcm, hiq, hnm2, HLQ, HRQ, HYQ⟩ := hrel
          rename World => wq
          by_cases hkN : k < N
          · have hkNi : (k : Int) < (N : Int) := by omega
            have hk0 : (0 : Int) ≤ (k : Int) := by omega
            obtain ⟨q, hq⟩ : ∃ q, ps[k]? = some q := ⟨_, List.getElem?_eq_getElem (by rw [unhide HPL]; exact hkN)⟩
            obtain ⟨gy, hyo, hyc⟩ := unhide HYC k q hq
            subst hyo
            obtain ⟨oN, hyk, hgyl, hbgy⟩ := unhide HYQ gy rfl
            obtain ⟨q0, q1, q2, q3, q4, q5⟩ := hyc wq hyk
            have hqok : q.ok := unhide HQOK q (List.mem_of_getElem? hq)
            obtain ⟨wx, hwx⟩ : ∃ wx, wx = wq.alloc (.cells #[.int .i64 q.W, .int .i64 q.H, .string q.C, .int .i64 q.T, .string q.A, .string q.B] 24 (0, 0)) := ⟨_, rfl⟩
            have hbx : Below wq.heap.size wq wx := by rw [hwx]; exact (Below.refl _ _).alloc (Nat.le_refl _) _
            have hRx := (unhide HRQ).below hbx
            have hxs : wx.heap.size = wq.heap.size + 1 := by rw [hwx]; simp
            have hpbx : isPb wx wq.heap.size q.W q.H q.T q.C q.A q.B := by rw [hwx]; exact heap_alloc_new wq _
            obtain ⟨x0, x1, x2, x3, x4, x5⟩ := hpbx.all
            have hlk := hRx.nm.look_ok hqok wx rfl
            have hnl := unhide HLQ
            by_cases hinq : q ∈ ndq.map Nd.p
            · obtain ⟨j, hj⟩ : ∃ j, j = (ndq.map Nd.p).idxOf q := ⟨_, rfl⟩
              rw [if_pos hinq, ← hj, Nat.add_zero, decide_eq_true hinq] at hlk
              have hjat := idx_at hinq
              rw [← hj, List.getElem?_map, Option.map_eq_some_iff] at hjat
              obtain ⟨m2, hm2, hm2p⟩ := hjat
              have hjl := (List.getElem?_eq_some_iff.1 hm2).1
              obtain ⟨v2, u2, hrun, hlke⟩ := hRx.old hi5 hlen (by rw [unhide HPL]; exact hN46) hq hm2 hm2p
              obtain ⟨fo2, fl2, fc2, rfl⟩ := hlke.sl
              have hc8 := (hRx.nd.cell hm2 8 (by omega)).1
              have hc8' : wx.cell? ⟨gQ, j * 10 + 8, none⟩ = some (.slice m2.fo m2.fr.length m2.fc) := hc8
              obtain ⟨y8, hy8⟩ := hlke.cell
              have hz8 := hlke.frz
              have hjn : (j : Int) < (n : Int) := by omega
              have hj0 : (0 : Int) ≤ (j : Int) := by omega
              obtain ⟨nds', hl', hR', hoff⟩ := hlke.ex
              have HNEW : Hid (∃ ndq2 : List Nd, ndq2.length = n ∧ RM nx ev s most b w1 i (k + 1) true ps gQ cQ ndq2 (u2.setCell ⟨gQ, j * 10 + 8, none⟩ (.slice fo2 fl2 fc2)) ∧ ∀ g2, (some (⟨gy, 0, none⟩ : Addr)) = some ⟨g2, 0, none⟩ → offN gQ g2 ndq2 ∧ (u2.setCell ⟨gQ, j * 10 + 8, none⟩ (.slice fo2 fl2 fc2)).heap[g2]? = w7.heap[g2]? ∧ g2 < (u2.setCell ⟨gQ, j * 10 + 8, none⟩ (.slice fo2 fl2 fc2)).heap.size ∧ b ≠ g2) := hide ⟨nds', by rw [hl', hnl], hR', fun g2 e => by
                simp only [Option.some.injEq, Addr.mk.injEq, and_true] at e
                subst e
                obtain ⟨o1, o2⟩ := hoff gy (by omega) (Ne.symm hbgy) oN
                have hsz : wx.heap.size ≤ u2.heap.size := hlke.sz
                have hsz2 : (u2.setCell ⟨gQ, j * 10 + 8, none⟩ (.slice fo2 fl2 fc2)).heap.size = u2.heap.size := by simp [World.setCell]
                exact ⟨o1, o2.trans ((hbx.block gy hgyl).trans hyk), by omega, hbgy⟩⟩
              have HWX := hide hwx
              clear hq hyc oN hyk hgyl hbx hRx hxs hpbx hinq hj hm2p hjl hlke hc8 hl' hR' hoff hwx HYQ HRQ HLQ hnl
              go_upto_region 15 with fail
              rw [← unhide HWX]
              clear HWX q0 q1 q2 q3 q4 q5
              go_wp2_with (first | (at_builtin; refine wpList_appRun rfl _ _ 52 rfl _ _ _ _ rfl rfl hrun ?_) | go_in)
              obtain ⟨ndq2, hl2, hR2, hY2⟩ := unhide HNEW
              go_roundw
              case rel => exact ⟨k + 1, gQ, cQ, n, ndq2, rfl, by go_num, by omega, hnc, hcm, hiq, hnm2, hide hl2, hide hR2, hide hY2⟩
              case measure => simp only [intOf]; omega
            · rw [if_neg hinq, decide_eq_false hinq] at hlk
              by_cases hfull : n = most
              · have hfi : ((n : Int) == (most : Int)) = true := by simp [hfull]
                have HFIN : Hid (ReE nx ev s most w (.returned (.tuple #[.slice none 0 0, .bool false])) wx) := hide ⟨unhide HUP wx hRx.bw, .inl ⟨⟨i + 1, by
                  have e1 : (extL (bfsN nx s i) (ps.take (k + 1))).length = n + 1 := by
                    have hni : q ∉ extL (bfsN nx s i) (ps.take k) := by rw [← hRx.rw_.pos]; exact hinq
                    rw [ext_take hq, add_len, if_neg hni, ← hRx.rw_.len, hnl]
                  have e2 : extL (bfsN nx s i) ps = extL (extL (bfsN nx s i) (ps.take (k + 1))) (ps.drop (k + 1)) := by
                    unfold extL
                    rw [← List.foldl_append, List.take_append_drop]
                  have e3 := (ext_len_le (extL (bfsN nx s i) (ps.take (k + 1))) (ps.drop (k + 1))).1
                  rw [bfs_step (unhide HPI), ← unhide HPS, e2]
                  omega⟩, rfl⟩⟩
                have HWX := hide hwx
                clear hq hyc oN hyk hgyl hbx hRx hxs hpbx hinq hwx HYQ HRQ HLQ hnl hqok
                go_upto_region 15 with fail
                rw [← unhide HWX]
                clear HWX q0 q1 q2 q3 q4 q5
                go_wp2
                refine bodyPost_ret (v := .tuple #[.slice none 0 0, .bool false]) (by simp [results, Tryz.results13, go_sem]) rfl ?_
                exact unhide HFIN
              · have hfi : ((n : Int) == (most : Int)) = false := by simp; omega
                obtain ⟨um, u1, gN2, cN2, v2, u2, hr1, hgm, hr2, hc1, hc2, hcf, hr3, hlke⟩ := hRx.new hm5 (by omega) (List.getElem?_eq_some_iff.1 (unhide HPI)).1 hq hqok hinq
                obtain ⟨fo2, fl2, fc2, rfl⟩ := hlke.sl
                rw [hnl] at hr1 hr2 hc1 hcf
                unfold maxLen at hc2
                obtain ⟨n2, hn2⟩ : ∃ n2, n2 = n + 1 := ⟨_, rfl⟩
                have hqb : isPb um wq.heap.size q.W q.H q.T q.C q.A q.B := (hgm.block _ hpbx.lt (by simp; have := (unhide HRQ).nm.lt; omega)).trans hpbx
                obtain ⟨t0, t1, t2, t3, t4, t5⟩ := hqb.all
                obtain ⟨y8, hy8⟩ := hlke.cell
                have hz8 := hlke.frz
                rw [hnl] at hy8 hz8
                rw [← hn2] at hr2 hc1
                have hnn2 : (n : Int) < (n2 : Int) := by omega
                have hn0 : (0 : Int) ≤ (n : Int) := by omega
                obtain ⟨nds', hl', hR', hoff⟩ := hlke.ex
                rw [hnl] at hl' hR' hoff
                have HNEW : Hid (∃ ndq2 : List Nd, ndq2.length = n2 ∧ RM nx ev s most b w1 i (k + 1) true ps gN2 cN2 ndq2 (u2.setCell ⟨gN2, n * 10 + 8, none⟩ (.slice fo2 fl2 fc2)) ∧ ∀ g2, (some (⟨gy, 0, none⟩ : Addr)) = some ⟨g2, 0, none⟩ → offN gN2 g2 ndq2 ∧ (u2.setCell ⟨gN2, n * 10 + 8, none⟩ (.slice fo2 fl2 fc2)).heap[g2]? = w7.heap[g2]? ∧ g2 < (u2.setCell ⟨gN2, n * 10 + 8, none⟩ (.slice fo2 fl2 fc2)).heap.size ∧ b ≠ g2) := hide ⟨nds', by rw [hl', hn2], hR', fun g2 e => by
                  simp only [Option.some.injEq, Addr.mk.injEq, and_true] at e
                  subst e
                  obtain ⟨o1, o2⟩ := hoff gy (by omega) (Ne.symm hbgy) oN
                  have hsz : wx.heap.size ≤ u2.heap.size := hlke.sz
                  have hsz2 : (u2.setCell ⟨gN2, n * 10 + 8, none⟩ (.slice fo2 fl2 fc2)).heap.size = u2.heap.size := by simp [World.setCell]
                  exact ⟨o1, o2.trans ((hbx.block gy hgyl).trans hyk), by omega, hbgy⟩⟩
                have hn2m : n2 ≤ most := by omega
                have hin2 : i < n2 := by omega
                have hn2i : (n : Int) + 1 = (n2 : Int) := by omega
                have HN2 := hide hn2
                have HWX := hide hwx
                clear hq hyc oN hyk hgyl hbx hRx hxs hpbx hinq hlke hl' hR' hoff hwx HYQ HRQ HLQ hnl hqb hgm hn2 hqok
                go_upto_region 15 with fail
                rw [← unhide HWX]
                clear HWX q0 q1 q2 q3 q4 q5
                go_wp2_with (first | (at_builtin; first | refine wpList_appRun rfl _ _ 52 rfl _ _ _ _ rfl rfl hr3 ?_ | refine wpList_appRun rfl _ _ 48 rfl _ _ _ _ rfl rfl hr2 ?_) | go_in)
                obtain ⟨ndq2, hl2, hR2, hY2⟩ := unhide HNEW
                go_roundw
                case rel => exact ⟨k + 1, gN2, cN2, n2, ndq2, rfl, by go_num, by omega, hc1, hc2, hin2, hn2m, hide hl2, hide hR2, hide hY2⟩
                case measure => simp only [intOf]; omega
          · have hkNi : ¬ (k : Int) < (N : Int) := by omega
            have hRQ := unhide HRQ
            have hil := (List.getElem?_eq_some_iff.1 (unhide HPI)).1
            have HNEXT : Hid (RM nx ev s most b w1 (i + 1) 0 false [] gQ cQ ndq wq) := hide ⟨hRQ.nd, hRQ.rw_.next (unhide HPI) (unhide HPS) (by rw [unhide HPL]; omega) [], hRQ.le, hRQ.nm, hRQ.bb, hRQ.bw, fun a ha => by
              by_cases hai : a < i
              · exact hRQ.bl a hai
              · have : a = i := by omega
                rw [this]; exact hil⟩
            clear hRQ hil HYQ HRQ
            go_wp2
            go_roundw
            case rel => exact ⟨i + 1, gQ, cQ, n, ndq, rfl, by go_num, by omega, hnc, hcm, hnm2, HLQ, HNEXT⟩
            case measure => simp only [intOf]; omega
    · have hini : ¬ (i : Int) < (n : Int) := by omega
      have hie : i = n := by omega
      have HFIN : Hid (ReE nx ev s most w (.returned (.tuple #[.slice (some ⟨gN, 0, none⟩) n cN, .bool true])) wr) := hide (by
        have hR := unhide HRM
        have hl := unhide HLN
        subst hl
        subst hie
        have hs1 := unhide HS1
        refine ⟨unhide HUP wr hR.bw, .inr ⟨gN, cN, nds, rfl, ?_, hR.rw_, hR.le, hR.bl⟩⟩
        rw [← hs1]
        exact hR.nd)
      clear HRM hie
      go_wp2
      refine bodyPost_ret (v := .tuple #[.slice (some ⟨gN, 0, none⟩) n cN, .bool true]) (by simp [results, Tryz.results13, go_sem]) rfl ?_
      exact unhide HFIN
end Go.Proofs.YtbijadnekoeofaaGreatDoor
