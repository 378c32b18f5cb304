/-
  table.reached: a new position, in memory.
-/
import Derived.Test.YtbijadnekoeofaaGreatDoorJ38
namespace Go.Proofs.YtbijadnekoeofaaGreatDoor
open Go.RowKit

theorem RM.new {nx : Po → List Po} {ev : Po → Int} {s : Po} {most b : Nat} {w1 : World} {i k : Nat} {ps : List Po} {gN cap : Nat} {nds : List Nd} {u : World} (h : RM nx ev s most b w1 i k true ps gN cap nds u) (hm5 : most ≤ 5000) (hlt : nds.length < most) (hil : i < (bfsN nx s i).length) {q : Po} (hq : ps[k]? = some q) (hqok : q.ok) (hn : q ∉ nds.map Nd.p) :
    ∃ (um : World) (u1 : World) (gN' cap' : Nat) (v2 : Value) (u2 : World),
      (Instr.mapUpdate 36 (.map (some b)) (.agg #[.int .i64 q.W, .int .i64 q.H, .string q.C, .int .i64 q.T, .string q.A, .string q.B]) (.int .i64 (nds.length : Int))).run Tryz.prog u = .ok () um ∧ u.grownBy um (some b) ∧
      (Builtin.append_ #[48, 48] 48 #[.slice (some ⟨gN, 0, none⟩) nds.length cap, .slice (some ⟨um.heap.size, 0, none⟩) 1 1]).run Tryz.prog (um.alloc (.cells #[.int .i64 q.W, .int .i64 q.H, .string q.C, .int .i64 q.T, .string q.A, .string q.B, .int .i64 0, .int .i64 0, .slice none 0 0, .int .i64 0] 54 (0, 0))) = .ok (.slice (some ⟨gN', 0, none⟩) (nds.length + 1) cap') u1 ∧
      nds.length + 1 ≤ cap' ∧ cap' ≤ maxLen ∧ u1.cell? ⟨gN', nds.length * 10 + 8, none⟩ = some (.slice none 0 0) ∧
      (Builtin.append_ #[52, 52] 52 #[.slice none 0 0, .slice (some ⟨u1.heap.size, 0, none⟩) 1 1]).run Tryz.prog (u1.alloc (.cells #[.int .i64 (i : Int)] 3 (0, 0))) = .ok v2 u2 ∧
      LkE nx ev s most b w1 i k ps gN' cap' nds.length (nds.length + 1) gN nds u u2 v2 := by
  obtain ⟨i0, hinfo, hz0, hz1, hz2⟩ := info_parts infoInt
  obtain ⟨n0, ninfo, nz0, nz1, nz2⟩ := info_parts infoNode
  have hml : (nds.map Nd.p).length + 0 = nds.length := by rw [List.length_map]; rfl
  obtain ⟨um, hrun1, hnm1, hg1⟩ := h.nm.put (by rw [hml]; omega) hqok hn
  rw [hml] at hrun1
  obtain ⟨es, ck, hmb⟩ := h.nm.is
  have hnd1 : NdR um w1.heap.size gN cap nds := h.nd.map hmb hg1
  have hbw1 : Below w1.heap.size w1 um := below_row h.bw h.bb hg1
  -- the new node in a row of one
  obtain ⟨ub, hub⟩ : ∃ ub, ub = um.alloc (.cells #[.int .i64 q.W, .int .i64 q.H, .string q.C, .int .i64 q.T, .string q.A, .string q.B, .int .i64 0, .int .i64 0, .slice none 0 0, .int .i64 0] 54 (0, 0)) := ⟨_, rfl⟩
  have hbb : Below um.heap.size um ub := by rw [hub]; exact (Below.refl _ _).alloc (Nat.le_refl _) _
  have hblk : ub.heap[um.heap.size]? = some (.cells #[.int .i64 q.W, .int .i64 q.H, .string q.C, .int .i64 q.T, .string q.A, .string q.B, .int .i64 0, .int .i64 0, .slice none 0 0, .int .i64 0] 54 (0, 0)) := by rw [hub]; exact heap_alloc_new um _
  have hnd2 := hnd1.below hbb
  have hbw2 : Below w1.heap.size w1 ub := hbw1.trans (hbb.mono hbw1.size)
  have hub_sz : um.heap.size < ub.heap.size := (Array.getElem?_eq_some_iff.1 hblk).1
  obtain ⟨v1, u1, hrun2, hr2, hg2, -, hob2⟩ := run_append_own_at (P := Tryz.prog) ub w1.heap.size 48 48 54 n0 _ 10 120 Tryz.underlying48 ninfo nz0 nz1 nz2 rfl (by omega) (.slice (some ⟨gN, 0, none⟩) nds.length cap) nds.length (ndv nds) hnd2.row ⟨um.heap.size, 0, none⟩ 1 1 (Nd.vs ⟨q, 0, 0, none, 0, [], 0⟩) rfl
    (fun a x hx => by
      have hc : ub.cell? ⟨um.heap.size, 0 + a, none⟩ = (Nd.vs ⟨q, 0, 0, none, 0, [], 0⟩)[a]? := by
        unfold World.cell?
        rw [hblk, Nat.zero_add]
        simp [Nd.vs]
      rw [show (⟨um.heap.size, 0, none⟩ : Addr).add a = ⟨um.heap.size, 0 + a, none⟩ by (simp [Addr.add]; try omega)]
      exact hc.trans hx)
    (fun x hx => by
      unfold Nd.vs at hx
      simp only [List.mem_cons, List.not_mem_nil, or_false] at hx
      rcases hx with rfl | rfl | rfl | rfl | rfl | rfl | rfl | rfl | rfl | rfl <;> rfl)
    (by unfold maxLen; omega) (by omega) hbw2.size
  obtain ⟨gN', cap', rfl, hnd3⟩ := hnd2.more q (by simpa [Value.ownBlock] using hg2) hr2 (by simpa [Value.ownBlock] using hob2)
  have hg2' : ub.grownBy u1 (some gN) := by simpa [Value.ownBlock] using hg2
  have hgN' : gN' = gN ∨ gN' = ub.heap.size := by simpa [Value.ownBlock] using hob2
  have hgN := h.nd.lt
  have hbN := h.nm.row h.nd
  have hbl1 := hnm1.lt
  have hnm3 : numM u1 b (nds.map Nd.p ++ [q]) 0 := hnm1.of_block ((hg2'.block b (Nat.lt_of_lt_of_le hbl1 hbb.size) (by simpa using hbN)).trans (hbb.block b hbl1))
  have hbw3 : Below w1.heap.size w1 u1 := below_row hbw2 hgN.1 hg2'
  have hcap : nds.length + 1 ≤ cap' ∧ cap' ≤ maxLen := by
    rcases hnd3.row.2 with ⟨e, _⟩ | ⟨g', c', cur, e, _, _, h1, h2, _⟩
    · simp at e
    · simp only [Value.slice.injEq, Option.some.injEq, Addr.mk.injEq, and_true] at e
      obtain ⟨-, -, rfl⟩ := e
      rw [List.length_append] at h1
      exact ⟨h1, h2⟩
  have hat : (nds ++ [(⟨q, 0, 0, none, 0, [], 0⟩ : Nd)])[nds.length]? = some ⟨q, 0, 0, none, 0, [], 0⟩ := by
    rw [List.getElem?_append_right (Nat.le_refl _), Nat.sub_self]
    rfl
  have hcell := (hnd3.cell hat 8 (by omega)).1
  -- the link
  obtain ⟨ui, hui⟩ : ∃ ui, ui = u1.alloc (.cells #[.int .i64 (i : Int)] 3 (0, 0)) := ⟨_, rfl⟩
  have hbi : Below u1.heap.size u1 ui := by rw [hui]; exact (Below.refl _ _).alloc (Nat.le_refl _) _
  have hblk2 : ui.heap[u1.heap.size]? = some (.cells #[.int .i64 (i : Int)] 3 (0, 0)) := by rw [hui]; exact heap_alloc_new u1 _
  have hnd4 := hnd3.below hbi
  obtain ⟨v2, u2, hrun3, hr3, hg3, -, hob3⟩ := run_append_own_at (P := Tryz.prog) ui w1.heap.size 52 52 3 i0 _ 1 8 Tryz.underlying52 hinfo hz0 hz1 hz2 rfl (by omega) (.slice none 0 0) 0 (ivs []) (hnd4.fr nds.length _ hat) ⟨u1.heap.size, 0, none⟩ 1 1 [.int .i64 (i : Int)] rfl
    (fun a x hx => by
      have ha0 : a = 0 := by
        have := (List.getElem?_eq_some_iff.1 hx).1
        simp at this
        omega
      subst ha0
      simp only [List.getElem?_cons_zero, Option.some.injEq] at hx
      subst hx
      show World.cell? _ ⟨u1.heap.size, 0 + 0, none⟩ = _
      unfold World.cell?
      rw [hblk2]
      rfl)
    (fun x hx => by rw [List.mem_singleton.1 hx]; rfl) (by unfold maxLen; omega) (by omega) (Nat.le_trans hbw3.size hbi.size)
  have hg3' : ui.grownBy u2 none := hg3
  obtain ⟨fo', fc', rfl, hnd5, hgs⟩ := hnd4.from hat i hg3 hr3 hob3
  have hset : (nds ++ [(⟨q, 0, 0, none, 0, [], 0⟩ : Nd)]).set nds.length ⟨q, 0, 0, fo', fc', [] ++ [i], 0⟩ = nds ++ [⟨q, 0, 0, fo', fc', [i], 0⟩] := by
    rw [List.set_append_right _ _ (Nat.le_refl _), Nat.sub_self]
    rfl
  have hnd6 : NdR (u2.setCell ⟨gN', nds.length * 10 + 8, none⟩ (.slice fo' 1 fc')) w1.heap.size gN' cap' (nds ++ [⟨q, 0, 0, fo', fc', [i], 0⟩]) := by
    rw [← hset]
    exact hnd5
  have hrow2 : u2.cell? ⟨gN', nds.length * 10 + 8, none⟩ = some (.slice none 0 0) ∧ u2.frozen? ⟨gN', nds.length * 10 + 8, none⟩ = false := by
    have hkeep : u2.heap[gN']? = ui.heap[gN']? := hg3'.block gN' hnd4.lt.2 (by simp)
    obtain ⟨c1, c2⟩ := hnd4.cell hat 8 (by omega)
    exact ⟨(World.cell?_of_block (a := ⟨gN', nds.length * 10 + 8, none⟩) hkeep).trans c1, by simpa [World.frozen?, hkeep] using c2⟩
  have hsz1 := hg1.size
  have hsz2 := hbb.size
  have hsz3 := hg2'.size
  have hsz4 := hbi.size
  have hsz5 := hg3'.size
  have hbN' : b ≠ gN' := by
    rcases hgN' with e | e
    · rw [e]; exact hbN
    · omega
  have hb4 : Below w1.heap.size w1 u2 := by
    have hs := hbw3.size
    exact ⟨hg3'.os.trans (hbi.os.trans hbw3.os), hg3'.tape.trans (hbi.tape.trans hbw3.tape), hg3'.output.trans (hbi.output.trans hbw3.output), Nat.le_trans hs (Nat.le_trans hsz4 hg3'.size), fun x hx => (hg3'.block x (by omega) (by simp)).trans ((hbi.block x (by omega)).trans (hbw3.block x hx))⟩
  have hown2 : (Value.slice fo' 1 fc').ownBlock = none ∨ (Value.slice fo' 1 fc').ownBlock = some ui.heap.size := hob3
  refine ⟨um, u1, gN', cap', _, u2, hrun1, hg1, by rw [← hub]; exact hrun2, hcap.1, hcap.2, hcell, by rw [← hui]; exact hrun3, ⟨⟨_, hrow2.1⟩, hrow2.2, by omega, ⟨_, _, _, rfl⟩, ⟨_, by rw [List.length_append]; rfl, ⟨hnd6, h.rw_.new hil hq hn h.bl fo' fc', by rw [List.length_append]; exact hlt, ?_, h.bb, below_row hb4 hnd4.lt.1 hgs, h.bl⟩, fun gy hgy hgb ⟨o1, o2⟩ => ⟨⟨?_, fun a m hm => ?_⟩, ?_⟩⟩⟩⟩
  · rw [List.map_append]
    exact hnm3.of_block ((hgs.block b (by omega) (by simpa using hbN')).trans ((hg3'.block b (by omega) (by simp)).trans (hbi.block b (by omega))))
  · rcases hgN' with e | e
    · rw [e]; exact o1
    · omega
  · by_cases ha : a < nds.length
    · rw [List.getElem?_append_left ha] at hm
      exact o2 a m hm
    · have hmn : m = ⟨q, 0, 0, fo', fc', [i], 0⟩ := by
        rw [List.getElem?_append_right (by omega)] at hm
        have := List.mem_of_getElem? hm
        simpa using this
      subst hmn
      intro e
      have e' : (Value.slice fo' 1 fc').ownBlock = some gy := e
      rcases hown2 with e2 | e2
      · rw [e2] at e'; simp at e'
      · rw [e2] at e'
        simp only [Option.some.injEq] at e'
        omega
  · have hne : gy ≠ gN' := by
      rcases hgN' with e | e
      · rw [e]; exact Ne.symm o1
      · omega
    exact (hgs.block gy (by omega) (by simpa using hne)).trans ((hg3'.block gy (by omega) (by simp)).trans ((hbi.block gy (by omega)).trans ((hg2'.block gy (by omega) (by simpa using Ne.symm o1)).trans ((hbb.block gy (by omega)).trans (hg1.block gy hgy (by simpa using hgb))))))
end Go.Proofs.YtbijadnekoeofaaGreatDoor
