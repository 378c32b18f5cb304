/-
  package proof: need, at every number of moves.
  A row of positions in memory, filled one by one (for moves.Next).
  slices.Sort of at most twelve bytes, walked.
  slices.Sort of at most twelve bytes, walked: pdqsortOrdered, Sort.
-/
import Derived.Test.YtlogengkhlmcbaaGreatDoorK13
import Derived.Test.YtlogengkhlmcbaaGreatDoorJ14
import Derived.Test.YtlogengkhlmcbaaGreatDoorJ3
import Derived.Test.YtlogengkhlmcbaaGreatDoorJ7
import Derived.BigQuiet
namespace Go.Proofs.YtlogengkhlmcbaaGreatDoor
open Go.RowKit

/-- What the hunt knows is so. -/
def huntF (ok : Po → Prop) (nx : Po → List Po) (wn turn : Po → Bool) (p : Po) (n : Nat) (s : Bool) : Prop := ok p → fndOK nx wn turn p n s
theorem need_walk (ok : Po → Prop) (L : Po → List Mv) (beh : Po → Mv → Po) (o : Po → Int) (v0 v1 v2 v3 v4 v5 v6 v7 v8 v9 v10 v11 v12 : Value) (win : Int) (h g : Nat) (w00 : World) (hwin : win = 0 ∨ win = 1)
    (D : Duel ok (fun q => (L q).map (beh q)) (fun q => o q == win + 1) (fun q => q.T == win)) (hgb : w00.heap.size ≤ g) (hne : h ≠ g) (hpo : ∀ p, ok p → p.ok) (hlen : ∀ p, ok p → (L p).length ≤ 4608)
    (hO : ∀ p, ok p → ∀ u, Below w00.heap.size w00 u → Calls Tryz.prog 47 #[.agg #[v0, v1, v2, v3, v4, v5, v6, v7, v8, v9, v10, v11, v12], .agg #[.int .i64 p.W, .int .i64 p.H, .string p.C, .int .i64 p.T, .string p.A, .string p.B]] u fun e w' => e = .returned (.tuple #[.int .i64 (o p), .int .i64 0]) ∧ Below u.heap.size u w')
    (hL : ∀ p, ok p → ∀ u, Below w00.heap.size w00 u → Calls Tryz.prog 24 #[.agg #[v0, v1, v2, v3, v4, v5, v6, v7, v8, v9, v10, v11, v12], .agg #[.int .i64 p.W, .int .i64 p.H, .string p.C, .int .i64 p.T, .string p.A, .string p.B]] u fun e w' => ∃ v, e = .returned (.tuple #[v, .int .i64 0]) ∧ w'.ownsRow u.heap.size 29 3 v (L p).length (mvals (L p)) ∧ Below u.heap.size u w')
    (hB : ∀ p, ok p → ∀ m ∈ L p, ∀ u, Below w00.heap.size w00 u → Calls Tryz.prog 49 #[.agg #[v0, v1, v2, v3, v4, v5, v6, v7, v8, v9, v10, v11, v12], .agg #[.int .i64 p.W, .int .i64 p.H, .string p.C, .int .i64 p.T, .string p.A, .string p.B], .agg #[.int .i64 m.f, .int .i64 (m.t : Int), .int .u8 (m.c : Int)]] u fun e w' => e = .returned (.agg #[.int .i64 (beh p m).W, .int .i64 (beh p m).H, .string (beh p m).C, .int .i64 (beh p m).T, .string (beh p m).A, .string (beh p m).B]) ∧ Below u.heap.size u w') :
    ∀ (k most : Nat) (p : Po), ok p → most ≤ 9 → 2 * most + (if p.T == win then 0 else 1) ≤ k → ∀ w, Below w00.heap.size w00 w → isHu w h g v0 v1 v2 v3 v4 v5 v6 v7 v8 v9 v10 v11 v12 win → knows w g 262144 (huntF ok (fun q => (L q).map (beh q)) (fun q => o q == win + 1) (fun q => q.T == win)) →
      Calls Tryz.prog 12 #[.pointer (some ⟨h, 0, none⟩), .agg #[.int .i64 p.W, .int .i64 p.H, .string p.C, .int .i64 p.T, .string p.A, .string p.B], .int .i64 (most : Int)] w (NeedP (fun q => (L q).map (beh q)) (fun q => o q == win + 1) (fun q => q.T == win) p most g (huntF ok (fun q => (L q).map (beh q)) (fun q => o q == win + 1) (fun q => q.T == win)) w) := by
  intro k
  induction k with
  | zero =>
    intro most p hp hm hk w hw hH hK
    have hm0 : most = 0 := by omega
    have hiw : ∀ u, w.grownBy u (some g) → Calls Tryz.prog 23 #[.agg #[v0, v1, v2, v3, v4, v5, v6, v7, v8, v9, v10, v11, v12, .int .i64 win], .agg #[.int .i64 p.W, .int .i64 p.H, .string p.C, .int .i64 p.T, .string p.A, .string p.B]] u fun e w' => e = .returned (.bool (o p == win + 1)) ∧ Below u.heap.size u w' := fun u hu => isWon_any v0 v1 v2 v3 v4 v5 v6 v7 v8 v9 v10 v11 v12 win p.W p.H p.T p.C p.A p.B (o p) 0 u hwin (fun v hv => hO p hp v ((below_grown hw hu hgb).trans (hv.mono (below_grown hw hu hgb).size)))
    exact need_quick v0 v1 v2 v3 v4 v5 v6 v7 v8 v9 v10 v11 v12 win h g most p _ _ w rfl (.inr hm0) hne hH hK hiw
  | succ k ih =>
    intro most p hp hm hk w hw hH hK
    have hiw : ∀ u, w.grownBy u (some g) → Calls Tryz.prog 23 #[.agg #[v0, v1, v2, v3, v4, v5, v6, v7, v8, v9, v10, v11, v12, .int .i64 win], .agg #[.int .i64 p.W, .int .i64 p.H, .string p.C, .int .i64 p.T, .string p.A, .string p.B]] u fun e w' => e = .returned (.bool (o p == win + 1)) ∧ Below u.heap.size u w' := fun u hu => isWon_any v0 v1 v2 v3 v4 v5 v6 v7 v8 v9 v10 v11 v12 win p.W p.H p.T p.C p.A p.B (o p) 0 u hwin (fun v hv => hO p hp v ((below_grown hw hu hgb).trans (hv.mono (below_grown hw hu hgb).size)))
    by_cases hq : (o p == win + 1) = true ∨ most = 0
    · exact need_quick v0 v1 v2 v3 v4 v5 v6 v7 v8 v9 v10 v11 v12 win h g most p _ _ w rfl hq hne hH hK hiw
    · have hwf : (o p == win + 1) = false := by
        cases e : (o p == win + 1) with
        | false => rfl
        | true => exact absurd (.inl e) hq
      have hm1 : 1 ≤ most := by
        rcases Nat.eq_zero_or_pos most with h | h
        · exact absurd (.inr h) hq
        · exact h
      rw [hwf] at hiw
      refine need_look (L p) v0 v1 v2 v3 v4 v5 v6 v7 v8 v9 v10 v11 v12 win h g most p _ w hm1 hm (hpo p hp) hwf (fun e => by show (L p).map (beh p) = []; rw [e]; rfl) (fun n s hF => hF hp) (fun n s hF _ => hF) (fun q _ _ => fnd_zero q) hne hH hK hiw
        (fun u hu => hL p hp u (below_grown hw hu hgb)) ?_ ?_
      · intro hL0 hT least hl1 hlm hlow mv u hu hHu hKu hmv
        have hT1 : (p.T == win) = true := by simp [hT]
        refine needOfOne_walk D v0 v1 v2 v3 v4 v5 v6 v7 v8 v9 v10 v11 v12 win h g least most p (L p) (beh p) _ mv w00 u hl1 hlm hm hp hT1 hwf rfl hlow (hlen p hp) (below_grown hw hu hgb) hgb hne hHu hKu hmv (fun m hm u hu => hB p hp m hm u hu) ?_
        intro m hm2 j hj v hv hHv hKv
        refine ih j (beh p m) (D.stay p hp _ (List.mem_map.2 ⟨m, hm2, rfl⟩)) (by omega) ?_ v hv hHv hKv
        rw [hT1] at hk
        simp only [if_true] at hk
        split <;> omega
      · intro hL0 hT mv u hu hHu hKu hmv
        have hT1 : (p.T == win) = false := by simp [hT]
        refine needOfAll_walk D v0 v1 v2 v3 v4 v5 v6 v7 v8 v9 v10 v11 v12 win h g most p (L p) (beh p) _ mv w00 u hm1 hm hp hT1 hwf rfl hL0 (hlen p hp) (below_grown hw hu hgb) hgb hne hHu hKu hmv (fun m hm u hu => hB p hp m hm u hu) ?_
        intro m hm2 v hv hHv hKv
        have hmem := List.mem_map.2 ⟨m, hm2, (rfl : beh p m = beh p m)⟩
        refine ih most (beh p m) (D.stay p hp _ hmem) hm ?_ v hv hHv hKv
        have halt : ((beh p m).T == win) = !(p.T == win) := D.alt p hp (beh p m) hmem
        rw [halt]
        rw [hT1] at hk ⊢
        simp at hk ⊢
        omega
end Go.Proofs.YtlogengkhlmcbaaGreatDoor

namespace Go.Proofs.YtlogengkhlmcbaaGreatDoor
open Go.RowKit

/-- The cells of a row of positions. -/
def povs (l : List Po) : List Value := l.flatMap fun p => [.int .i64 p.W, .int .i64 p.H, .string p.C, .int .i64 p.T, .string p.A, .string p.B]
theorem povs_len : ∀ l : List Po, (povs l).length = l.length * 6
  | [] => rfl
  | p :: l => by
    have := povs_len l
    unfold povs at this ⊢
    rw [List.flatMap_cons, List.length_append, this, List.length_cons]
    simp only [List.length_cons, List.length_nil]
    omega
theorem povs_app (a b : List Po) : povs (a ++ b) = povs a ++ povs b := by simp [povs]
theorem set_behind {α : Type} (a r : List α) (n j : Nat) (x : α) (h : n = a.length + j) : (a ++ r).set n x = a ++ r.set j x := by
  subst h
  rw [List.set_append_right _ _ (by omega)]
  congr 2
  omega
/-- One position more. -/
theorem povs_set {a : List Po} {r : List Value} (q : Po) (n : Nat) (hn : n = a.length * 6) (h : 6 ≤ r.length) :
    ((((((povs a ++ r).set n (.int .i64 q.W)).set (n + 1) (.int .i64 q.H)).set (n + 2) (.string q.C)).set (n + 3) (.int .i64 q.T)).set (n + 4) (.string q.A)).set (n + 5) (.string q.B) = povs (a ++ [q]) ++ r.drop 6 := by
  have hl := povs_len a
  match r, h with
  | r0 :: r1 :: r2 :: r3 :: r4 :: r5 :: rest, _ =>
    rw [set_behind _ _ n 0 _ (by omega), set_behind _ _ (n + 1) 1 _ (by omega), set_behind _ _ (n + 2) 2 _ (by omega), set_behind _ _ (n + 3) 3 _ (by omega), set_behind _ _ (n + 4) 4 _ (by omega), set_behind _ _ (n + 5) 5 _ (by omega), povs_app, List.append_assoc]
    rfl
/-- A row of positions of the call's own: six cells each are set, one position more stands in it. -/
theorem row_set6 {w : World} {base g n cap : Nat} {a : List Po} {r : List Value} (q : Po) (t : TypeId) (hr : w.ownsRow base t 6 (.slice (some ⟨g, 0, none⟩) n cap) n (povs a ++ r)) (h : 6 ≤ r.length) (j : Nat) (hj : j = a.length * 6) :
    let w' := (((((w.setCell ⟨g, j, none⟩ (.int .i64 q.W)).setCell ⟨g, j + 1, none⟩ (.int .i64 q.H)).setCell ⟨g, j + 2, none⟩ (.string q.C)).setCell ⟨g, j + 3, none⟩ (.int .i64 q.T)).setCell ⟨g, j + 4, none⟩ (.string q.A)).setCell ⟨g, j + 5, none⟩ (.string q.B)
    w'.ownsRow base t 6 (.slice (some ⟨g, 0, none⟩) n cap) n (povs (a ++ [q]) ++ r.drop 6) ∧ w.grownBy w' (some g) := by
  intro w'
  obtain ⟨h0, g0⟩ := hr.stored j (.int .i64 q.W)
  obtain ⟨h1, g1⟩ := h0.stored (j + 1) (.int .i64 q.H)
  obtain ⟨h2, g2⟩ := h1.stored (j + 2) (.string q.C)
  obtain ⟨h3, g3⟩ := h2.stored (j + 3) (.int .i64 q.T)
  obtain ⟨h4, g4⟩ := h3.stored (j + 4) (.string q.A)
  obtain ⟨h5, g5⟩ := h4.stored (j + 5) (.string q.B)
  rw [povs_set q j hj h] at h5
  refine ⟨h5, ?_⟩
  have k1 := g0.andThen g1 (fun k hk => .inr hk)
  have k2 := k1.andThen g2 (fun k hk => .inr hk)
  have k3 := k2.andThen g3 (fun k hk => .inr hk)
  have k4 := k3.andThen g4 (fun k hk => .inr hk)
  exact k4.andThen g5 (fun k hk => .inr hk)
end Go.Proofs.YtlogengkhlmcbaaGreatDoor

namespace Go.Proofs.YtlogengkhlmcbaaGreatDoor
open Go.RowKit
attribute [local go_sem ↓] Go.wp_at_zero Go.wp_at_succ

/-- A row of bytes that can be written. -/
def RowB (w : World) (g : Nat) (l : List UInt8) : Prop := ∃ (cur : Array Value) (fz : Nat × Nat), w.heap[g]? = some (.cells cur 5 fz) ∧ (fz = (0, 0) ∨ cur.size ≤ fz.1) ∧ cur.toList.take l.length = bvals l
theorem RowB.cell {w : World} {g : Nat} {l : List UInt8} (h : RowB w g l) (j : Nat) (hj : j < l.length) : w.cell? ⟨g, j, none⟩ = some (.int .u8 (l[j].toNat : Int)) := by
  obtain ⟨cur, m, h1, h2, h3⟩ := h
  rw [cell_of_row w g j cur _ _ h1]
  have : (cur.toList.take l.length)[j]? = (bvals l)[j]? := by rw [h3]
  rw [List.getElem?_take, if_pos hj] at this
  simpa [bvals, hj] using this
theorem RowB.frozen {w : World} {g : Nat} {l : List UInt8} (h : RowB w g l) (j : Nat) (hj : j < l.length) : w.frozen? ⟨g, j, none⟩ = false := by
  obtain ⟨cur, fz, h1, h2, h3⟩ := h
  have := RowM.le h3
  simp [World.frozen?, h1]
  rcases h2 with rfl | h2
  · simp
  · omega
theorem RowB.set {w : World} {g : Nat} {l : List UInt8} (h : RowB w g l) (j : Nat) (c : UInt8) : RowB (w.setCell ⟨g, j, none⟩ (.int .u8 (c.toNat : Int))) g (l.set j c) := by
  obtain ⟨cur, fz, h1, h2, h3⟩ := h
  refine ⟨cur.setIfInBounds j (.int .u8 (c.toNat : Int)), fz, ?_, by simpa using h2, ?_⟩
  · rw [setCell_eq_setRow w g j cur _ _ _ h1]
    exact setRow_heap w g cur _ _ _ h1
  · rw [Array.toList_setIfInBounds, List.length_set, List.take_set, h3]
    simp [bvals, List.map_set]
theorem RowB.conv {w : World} {g cap n : Nat} {l : List UInt8} (h : RowB w g l) (hn : Hid (l.length = n)) :
    (convert 89 9 (.slice (some ⟨g, 0, none⟩) n cap)).run Tryz.prog w = .ok (.string ⟨l.toArray⟩) w := by
  have hn' := unhide hn
  subst hn'
  refine run_convert_bytes_back w 89 9 5 ⟨g, 0, none⟩ cap l Tryz.underlying89 Tryz.underlying5 Tryz.underlying9 fun j hj => ?_
  have e : (⟨g, 0, none⟩ : Addr).add j = ⟨g, 0 + j, none⟩ := by unfold Addr.add; split <;> simp_all
  rw [Nat.zero_add] at e
  rw [e, h.cell j hj]
theorem RowB.drew {w : World} {g : Nat} {l : List UInt8} (q : Nat) (h : RowB w g l) : RowB (w.drewN q) g l := h
theorem RowB.lt {w : World} {g : Nat} {l : List UInt8} (h : RowB w g l) : g < w.heap.size := by
  obtain ⟨cur, m, h1, -⟩ := h
  exact (Array.getElem?_eq_some_iff.1 h1).1
theorem Bt.drew' {g : Nat} {w w' : World} (q : Nat) (h : Bt g w w') : Bt g w (w'.drewN q) := ⟨h.os, h.tape, h.output, h.size, h.block⟩

/-- Two bytes change places. -/
def swapB (l : List UInt8) (j : Nat) : List UInt8 := (l.set j l[j - 1]!).set (j - 1) l[j]!
/-- A byte goes down to its place. -/
def sinkB : Nat → List UInt8 → List UInt8
  | 0, l => l
  | j + 1, l => if l[j + 1]! < l[j]! then sinkB j (swapB l (j + 1)) else l
def isortB (l : List UInt8) (n : Nat) : List UInt8 := (List.range' 1 (n - 1)).foldl (fun l i => sinkB i l) l
theorem swapB_len (l : List UInt8) (j : Nat) : (swapB l j).length = l.length := by simp [swapB]
theorem sinkB_len : ∀ (j : Nat) (l : List UInt8), (sinkB j l).length = l.length
  | 0, _ => rfl
  | j + 1, l => by
    rw [sinkB]
    split
    · rw [sinkB_len j, swapB_len]
    · rfl

set_option maxHeartbeats 400000 in
theorem isNaN_any (x : Int) (w : World) :
    Calls Tryz.prog 134 #[.int .u8 x] w fun e w' => e = .returned (.bool false) ∧ w' = w := by
  go_enter Tryz.func134, Tryz.ntmps134
  go_wp2
  go_ret
  exact ⟨ret_bool (by simp), rfl⟩
set_option maxHeartbeats 1000000 in
theorem LessB_any (x y : Nat) (w : World) :
    Calls Tryz.prog 122 #[.int .u8 (x : Int), .int .u8 (y : Int)] w fun e w' => e = .returned (.bool (decide (x < y))) ∧ w' = w := by
  go_enter Tryz.func122, Tryz.ntmps122
  go_wp2_with fail
  refine (isNaN_any _ _).mono ?_
  rintro e w1 ⟨rfl, rfl⟩
  go_wp2
  go_ret
  exact ⟨ret_bool (by simp), rfl⟩

set_option maxHeartbeats 4000000 in
set_option maxRecDepth 100000 in
theorem insertB_any (g n cap : Nat) (d : List UInt8) (w : World) (hrow : RowB w g d) (hn : d.length = n) (h64 : n ≤ 64) :
    Calls Tryz.prog 116 #[.slice (some ⟨g, 0, none⟩) n cap, .int .i64 0, .int .i64 (n : Int)] w fun e w' => e = .returned (.tuple #[]) ∧ RowB w' g (isortB d n) ∧ Bt g w w' := by
  have HROW := hide hrow
  have HN := hide hn
  clear hrow hn
  go_enter Tryz.func116, Tryz.ntmps116
  go_wp2
  go_loopw [6] (fun iv wr => ∃ (i : Nat) (l : List UInt8), iv = .int .i64 (i : Int) ∧ 1 ≤ i ∧ (i ≤ n ∨ i = 1) ∧ RowB wr g l ∧ Bt g w wr ∧ Hid (l.length = n ∧ (List.range' 1 (i - 1)).foldl (fun l i => sinkB i l) d = l)) (fun iv _ => n - (intOf iv).toNat)
  case atStart => exact ⟨1, d, rfl, Nat.le_refl _, .inr rfl, unhide HROW, Bt.refl _ _, hide ⟨unhide HN, rfl⟩⟩
  case round =>
    obtain ⟨i, l, rfl, hi1, hin, hrow, hbt, HL⟩ := hrel
    clear HROW
    by_cases hlt : i < n
    · have hlti : (i : Int) < (n : Int) := by omega
      have HROW := hide hrow
      have HBT := hide hbt
      clear hrow hbt
      go_wp2
      go_loopw [7] (fun jv wr => ∃ (j : Nat) (l2 : List UInt8), jv = .int .i64 (j : Int) ∧ j ≤ i ∧ RowB wr g l2 ∧ Bt g w wr ∧ Hid (l2.length = n ∧ sinkB j l2 = sinkB i l)) (fun jv _ => (intOf jv).toNat)
      case atStart => exact ⟨i, l, rfl, Nat.le_refl _, unhide HROW, unhide HBT, hide ⟨(unhide HL).1, rfl⟩⟩
      case round =>
        obtain ⟨j, l2, rfl, hji, hrow, hbt, HL2⟩ := hrel
        clear HROW HBT
        obtain ⟨e1, e2⟩ := unhide HL2
        have HROW := hide hrow
        have HBT := hide hbt
        by_cases hj0 : j = 0
        · subst hj0
          have HSI : Hid ((List.range' 1 (i + 1 - 1)).foldl (fun l i => sinkB i l) d = l2) := by
            refine hide ?_
            rw [show i + 1 - 1 = (i - 1) + 1 by omega, List.range'_concat, List.foldl_append, (unhide HL).2]
            simp only [List.foldl_cons, List.foldl_nil]
            rw [show 1 + 1 * (i - 1) = i by omega, ← e2]
            rfl
          have HE1 := hide e1
          clear hrow hbt e1 e2
          go_wp2_with fail
          go_quiet (fail)
          have HROW2 := hide ((unhide HROW).drew nq)
          have HBT2 := hide ((unhide HBT).drew' nq)
          clear HROW HBT
          go_wp2
          go_roundw
          case rel => exact ⟨i + 1, l2, by go_num, by omega, .inl (by omega), unhide HROW2, unhide HBT2, hide ⟨unhide HE1, unhide HSI⟩⟩
          case measure => simp only [intOf]; omega
        · have hjp : (0 : Int) < (j : Int) := by omega
          obtain ⟨k, rfl⟩ : ∃ k, j = k + 1 := ⟨j - 1, by omega⟩
          have hkl : k + 1 < l2.length := by omega
          have c1 := hrow.cell (k + 1) hkl
          have c0 := hrow.cell k (by omega)
          have f1 := hrow.frozen (k + 1) hkl
          have f0 := hrow.frozen k (by omega)
          obtain ⟨x, hx⟩ : ∃ x, x = l2[k + 1] := ⟨_, rfl⟩
          obtain ⟨y, hy⟩ : ∃ y, y = l2[k] := ⟨_, rfl⟩
          rw [← hx] at c1
          rw [← hy] at c0
          have hx' : l2[k + 1]! = x := by rw [hx]; exact getElem!_pos l2 _ hkl
          have hy' : l2[k]! = y := by rw [hy]; exact getElem!_pos l2 _ (by omega)
          rw [sinkB, hx', hy'] at e2
          have HLS := hide (fun u => LessB_any x.toNat y.toNat u)
          have hsub : ((k + 1 : Nat) : Int) - 1 = (k : Int) := by omega
          have hki : (k : Int) < (n : Int) := by omega
          have hk1i : ((k + 1 : Nat) : Int) < (n : Int) := by omega
          by_cases hls : x < y
          · have hd : decide (x.toNat < y.toNat) = true := decide_eq_true hls
            rw [if_pos hls] at e2
            have hr1 := ((hrow.set (k + 1) y).set k x)
            have hb1 := (hbt.put (k + 1) (.int .u8 (y.toNat : Int))).put k (.int .u8 (x.toNat : Int))
            have hsw : swapB l2 (k + 1) = (l2.set (k + 1) y).set k x := by unfold swapB; rw [hx', show k + 1 - 1 = k by omega, hy']
            rw [hsw] at e2
            have HE := hide (show ((l2.set (k + 1) y).set k x).length = n ∧ sinkB k ((l2.set (k + 1) y).set k x) = sinkB i l from ⟨by simp [e1], e2⟩)
            rw [hd] at HLS
            have HR1 := hide hr1
            have HB1 := hide hb1
            clear hrow hbt e1 e2 hx hy hx' hy' hls hd hr1 hb1 hsw HROW HBT
            go_wp2_with fail
            go_quiet ((go_at_call 122; exact Calls.quiet_of_same (unhide HLS _)))
            go_wp2
            go_region
            go_wp2
            go_roundw
            case rel => exact ⟨k, (l2.set (k + 1) y).set k x, by go_num, by omega, unhide HR1, ⟨(unhide HB1).os, (unhide HB1).tape, (unhide HB1).output, (unhide HB1).size, (unhide HB1).block⟩, unhide HE⟩
            case measure => simp only [intOf]; omega
          · have hd : decide (x.toNat < y.toNat) = false := decide_eq_false hls
            rw [if_neg hls] at e2
            have HSI : Hid ((List.range' 1 (i + 1 - 1)).foldl (fun l i => sinkB i l) d = l2) := by
              refine hide ?_
              rw [show i + 1 - 1 = (i - 1) + 1 by omega, List.range'_concat, List.foldl_append, (unhide HL).2]
              simp only [List.foldl_cons, List.foldl_nil]
              rw [show 1 + 1 * (i - 1) = i by omega, ← e2]
            have HE1 := hide e1
            rw [hd] at HLS
            clear hrow hbt e1 e2 hx hy hx' hy' hls hd f0 f1
            go_wp2_with fail
            go_quiet ((go_at_call 122; exact Calls.quiet_of_same (unhide HLS _)))
            have HROW2 := hide ((unhide HROW).drew nq)
            have HBT2 := hide ((unhide HBT).drew' nq)
            clear HROW HBT
            go_wp2
            go_roundw
            case rel => exact ⟨i + 1, l2, by go_num, by omega, .inl (by omega), unhide HROW2, unhide HBT2, hide ⟨unhide HE1, unhide HSI⟩⟩
            case measure => simp only [intOf]; omega
    · have hlti : ¬ (i : Int) < (n : Int) := by omega
      have HROW := hide hrow
      have HBT := hide hbt
      have HIS : Hid (isortB d n = l) := by
        refine hide ?_
        have e := (unhide HL).2
        unfold isortB
        rcases hin with h | h
        · rw [show n = i by omega]; exact e
        · rw [show n - 1 = i - 1 by omega]; exact e
      clear hrow hbt
      go_wp2
      go_end0
      exact ⟨rfl, by rw [unhide HIS]; exact unhide HROW, unhide HBT⟩
end Go.Proofs.YtlogengkhlmcbaaGreatDoor

namespace Go.Proofs.YtlogengkhlmcbaaGreatDoor
open Go.RowKit
attribute [local go_sem ↓] Go.wp_at_zero Go.wp_at_succ

set_option maxHeartbeats 4000000 in
set_option maxRecDepth 100000 in
theorem Len64_any (n : Nat) (w : World) (hn : n ≤ 12) :
    Calls Tryz.prog 126 #[.int .u64 (n : Int)] w fun e w' => (∃ r : Int, e = .returned (.int .i64 r)) ∧ w' = w := by
  have hn1 : (n : Int) ≤ 12 := by omega
  have h1 : ¬ (4294967296 : Int) ≤ (n : Int) := by omega
  have h2 : ¬ (65536 : Int) ≤ (n : Int) := by omega
  have h3 : ¬ (256 : Int) ≤ (n : Int) := by omega
  go_enter Tryz.func126, Tryz.ntmps126
  go_wp2
  go_ret
  exact ⟨⟨_, rfl⟩, rfl⟩
set_option maxHeartbeats 1000000 in
theorem Len_any (n : Nat) (w : World) (hn : n ≤ 12) :
    Calls Tryz.prog 107 #[.int .u64 (n : Int)] w fun e w' => (∃ r : Int, e = .returned (.int .i64 r)) ∧ w' = w := by
  have hn1 : (n : Int) ≤ 12 := by omega
  go_enter Tryz.func107, Tryz.ntmps107
  go_wp2_with fail
  refine (Len64_any n _ hn).mono ?_
  rintro e w1 ⟨⟨r, rfl⟩, rfl⟩
  go_wp2
  go_ret
  exact ⟨⟨_, rfl⟩, rfl⟩

set_option maxHeartbeats 4000000 in
set_option maxRecDepth 100000 in
theorem pdqB_any (g n cap : Nat) (d : List UInt8) (r : Int) (w : World) (hrow : RowB w g d) (hn : d.length = n) (h12 : n ≤ 12) :
    Calls Tryz.prog 106 #[.slice (some ⟨g, 0, none⟩) n cap, .int .i64 0, .int .i64 (n : Int), .int .i64 r] w fun e w' => e = .returned (.tuple #[]) ∧ RowB w' g (isortB d n) ∧ Bt g w w' := by
  have HI := hide (insertB_any g n cap d w hrow hn (by omega))
  clear hrow hn
  go_enter Tryz.func106, Tryz.ntmps106
  go_wp2
  go_loopw [1, 2] (fun av bv wr => av = .int .i64 0 ∧ bv = .int .i64 (n : Int) ∧ wr = w) (fun _ _ _ => 0)
  case atStart => exact ⟨rfl, rfl, rfl⟩
  case round =>
    obtain ⟨rfl, rfl, rfl⟩ := hrel
    have h12i : (n : Int) ≤ 12 := by omega
    go_wp2_with fail
    refine (unhide HI).mono ?_
    rintro e w1 ⟨rfl, hr, hb⟩
    have HR := hide hr
    have HB := hide hb
    clear hr hb
    go_wp2
    refine bodyPost_ret (results_none rfl _ _ _) rfl ?_
    exact ⟨rfl, unhide HR, unhide HB⟩

set_option maxHeartbeats 2000000 in
set_option maxRecDepth 100000 in
theorem SortB_any (g n cap : Nat) (d : List UInt8) (w : World) (hrow : RowB w g d) (hn : d.length = n) (h12 : n ≤ 12) :
    Calls Tryz.prog 89 #[.slice (some ⟨g, 0, none⟩) n cap] w fun e w' => e = .returned (.tuple #[]) ∧ RowB w' g (isortB d n) ∧ Bt g w w' := by
  have HI := hide (fun r => pdqB_any g n cap d r w hrow hn h12)
  have HL := hide (fun u => Len_any n u h12)
  have h12i : (n : Int) ≤ 12 := by omega
  clear hrow hn
  go_enter Tryz.func89, Tryz.ntmps89
  go_wp2_with fail
  refine (unhide HL _).mono ?_
  rintro e w1 ⟨⟨r, rfl⟩, rfl⟩
  go_wp2_with fail
  refine (unhide HI r).mono ?_
  rintro e w2 ⟨rfl, hr, hb⟩
  have HR := hide hr
  have HB := hide hb
  clear hr hb
  go_wp2
  go_end0
  exact ⟨rfl, unhide HR, unhide HB⟩
end Go.Proofs.YtlogengkhlmcbaaGreatDoor
