/-
  package tourney, walked: reach.
-/
import Derived.Test.YtppkejblhkbkjaaZ11
import Derived.Maps.AppendAt
namespace Go.Proofs.Ytppkejblhkbkjaa
open Go.RowKit Tu
attribute [local go_sem ↓] Go.wp_at_zero Go.wp_at_succ

theorem isTe.ne {W : World} {t g r n : Nat} {S : Nat → Bool} {tn : Nat → Tn} {B : Nat → Nat} {qv : Value} {bar : Nat → Nat → Bool} {f : Nat → Option Nat} (h : isTe W t g r S tn B qv) (hp : isPr W g n bar f) : t ≠ g := fun e => by
  subst e
  have := hp.n_
  rw [h.p_] at this
  simp at this
section
variable {W : World} {t g r : Nat} {S : Nat → Bool} {tn : Nat → Tn} {B : Nat → Nat} {qv : Value}
theorem isTe.putS (h : isTe W t g r S tn B qv) {v : Nat} (hv : v < 60) : isTe (W.setCell ⟨t, 2 + v, none⟩ (.bool true)) t g r (updT S v true) tn B qv := by
  refine ⟨by rw [World.size_setCell]; exact h.lt, fun o => by rw [World.frozen?_setCell]; exact h.fz o, by rw [set_ne (by omega)]; exact h.p_, by rw [set_ne (by omega)]; exact h.r_, fun i hi => ?_, fun i hi => by rw [set_ne (by omega)]; exact h.ta i hi, fun i hi => by rw [set_ne (by omega)]; exact h.tb i hi, fun i hi => by rw [set_ne (by omega)]; exact h.ba i hi, by rw [set_ne (by omega)]; exact h.q_⟩
  by_cases e : i = v
  · subst e
    rw [updT_same]
    exact set_eq (h.sp i hi)
  · rw [set_ne (by omega), updT_other _ _ e]
    exact h.sp i hi
theorem isTe.putT (h : isTe W t g r S tn B qv) {v : Nat} (hv : v < 60) (x : Tn) : isTe ((W.setCell ⟨t, 62 + v * 2, none⟩ (.int .i64 (tA x))).setCell ⟨t, 62 + v * 2 + 1, none⟩ (.int .i64 (tB x))) t g r S (updT tn v x) B qv := by
  refine ⟨by rw [World.size_setCell, World.size_setCell]; exact h.lt, fun o => by rw [World.frozen?_setCell, World.frozen?_setCell]; exact h.fz o, by rw [set_ne (by omega), set_ne (by omega)]; exact h.p_, by rw [set_ne (by omega), set_ne (by omega)]; exact h.r_, fun i hi => by rw [set_ne (by omega), set_ne (by omega)]; exact h.sp i hi, fun i hi => ?_, fun i hi => ?_, fun i hi => by rw [set_ne (by omega), set_ne (by omega)]; exact h.ba i hi, by rw [set_ne (by omega), set_ne (by omega)]; exact h.q_⟩
  · rw [set_ne (by omega)]
    by_cases e : i = v
    · subst e
      rw [updT_same]
      exact set_eq (h.ta i hi)
    · rw [set_ne (by omega), updT_other _ _ e]
      exact h.ta i hi
  · by_cases e : i = v
    · subst e
      have hb := h.tb i hi
      rw [show 63 + i * 2 = 62 + i * 2 + 1 by omega] at hb ⊢
      rw [updT_same]
      exact set_eq ((set_ne (by omega)).trans hb)
    · rw [set_ne (by omega), set_ne (by omega), updT_other _ _ e]
      exact h.tb i hi
theorem isTe.putB (h : isTe W t g r S tn B qv) {v : Nat} (hv : v < 60) (m : Nat) : isTe (W.setCell ⟨t, 182 + v, none⟩ (.int .i64 (m : Int))) t g r S tn (updT B v m) qv := by
  refine ⟨by rw [World.size_setCell]; exact h.lt, fun o => by rw [World.frozen?_setCell]; exact h.fz o, by rw [set_ne (by omega)]; exact h.p_, by rw [set_ne (by omega)]; exact h.r_, fun i hi => by rw [set_ne (by omega)]; exact h.sp i hi, fun i hi => by rw [set_ne (by omega)]; exact h.ta i hi, fun i hi => by rw [set_ne (by omega)]; exact h.tb i hi, fun i hi => ?_, by rw [set_ne (by omega)]; exact h.q_⟩
  by_cases e : i = v
  · subst e
    rw [updT_same]
    exact set_eq (h.ba i hi)
  · rw [set_ne (by omega), updT_other _ _ e]
    exact h.ba i hi
theorem isTe.putQ (h : isTe W t g r S tn B qv) (q' : Value) : isTe (W.setCell ⟨t, 242, none⟩ q') t g r S tn B q' :=
  ⟨by rw [World.size_setCell]; exact h.lt, fun o => by rw [World.frozen?_setCell]; exact h.fz o, by rw [set_ne (by omega)]; exact h.p_, by rw [set_ne (by omega)]; exact h.r_, fun i hi => by rw [set_ne (by omega)]; exact h.sp i hi, fun i hi => by rw [set_ne (by omega)]; exact h.ta i hi, fun i hi => by rw [set_ne (by omega)]; exact h.tb i hi, fun i hi => by rw [set_ne (by omega)]; exact h.ba i hi, set_eq h.q_⟩
end
def qvals (Q : List Nat) : List Value := Q.map fun (x : Nat) => Value.int .i64 (x : Int)
/-- The tree with its queue, which lies behind it. -/
structure isTq (W : World) (t g r : Nat) (S : Nat → Bool) (tn : Nat → Tn) (B : Nat → Nat) (Q : List Nat) (qv : Value) : Prop where
  te : isTe W t g r S tn B qv
  row : W.ownsRow (t + 1) 3 1 qv Q.length (qvals Q)
  fm : ∃ ao cap, qv = .slice ao Q.length cap
/-- All is as it was but the tree and its queue. -/
structure Fr (t : Nat) (qv : Value) (W W' : World) : Prop where
  os : W'.os = W.os
  tape : W'.tape = W.tape
  output : W'.output = W.output
  size : W.heap.size ≤ W'.heap.size
  block : ∀ k, k < W.heap.size → k ≠ t → qv.ownBlock ≠ some k → W'.heap[k]? = W.heap[k]?
/-- Where the queue lies behind it. -/
def Nx (W : World) (qv qv' : Value) : Prop := qv'.ownBlock = qv.ownBlock ∨ ∃ k, qv'.ownBlock = some k ∧ W.heap.size ≤ k
/-- What reach leaves. -/
def ReE (t g r : Nat) (S : Nat → Bool) (tn : Nat → Tn) (B : Nat → Nat) (Q : List Nat) (qv : Value) (W : World) (e : Ending) (W' : World) : Prop :=
  e = .returned (.tuple #[]) ∧ ∃ qv', isTq W' t g r S tn B Q qv' ∧ Nx W qv qv' ∧ Fr t qv W W'

set_option maxHeartbeats 400000 in
set_option maxRecDepth 100000 in
theorem reach_any (W : World) (t g r v : Nat) (x : Tn) (S : Nat → Bool) (tn : Nat → Tn) (B : Nat → Nat) (Q : List Nat) (qv : Value) (h : isTq W t g r S tn B Q qv) (hv : v < 60) (hQ : Q.length ≤ 1000) :
    Calls Try.prog 37 #[.pointer (some ⟨t, 0, none⟩), .int .i64 (v : Int), .agg #[.int .i64 (tA x), .int .i64 (tB x)]] W (ReE t g r (updT S v true) (updT tn v x) B (Q ++ [v]) qv W) := by
  obtain ⟨a, ha⟩ : ∃ a, tA x = a := ⟨_, rfl⟩
  obtain ⟨b, hb⟩ : ∃ b, tB x = b := ⟨_, rfl⟩
  obtain ⟨ao, cap, rfl⟩ := h.fm
  have htlt := h.te.lt
  obtain ⟨W1, hW1⟩ : ∃ W1, W1 = W.alloc (Obj.cells #[.int .i64 a, .int .i64 b] 73 (0, 0)) := ⟨_, rfl⟩
  have hb1 : Below W.heap.size W W1 := by rw [hW1]; exact (Below.refl _ _).alloc (Nat.le_refl _) _
  have ht1 := h.te.keep (hb1.block t htlt)
  have e0 : W1.cell? ⟨W.heap.size, 0, none⟩ = some (.int .i64 a) := by rw [hW1]; simp
  have e1 : W1.cell? ⟨W.heap.size, 1, none⟩ = some (.int .i64 b) := by rw [hW1]; simp
  have c1 := ht1.sp v hv
  have c2 := ht1.fz (2 + v)
  have hvi : (v : Int) < 60 := by omega
  have hv0 : (0 : Int) ≤ (v : Int) := by omega
  rw [ha, hb]
  have HA := hide ha
  have HBB := hide hb
  have HT1 := hide ht1
  have HW1 := hide hW1
  have HB1 := hide hb1
  have HH := hide h
  clear h ht1 hW1 hb1 ha hb
  go_enter Try.func37, Try.ntmps37
  go_upto_region 1 with fail
  rw [← unhide HW1]
  go_wp2_with fail
  obtain ⟨W2, hW2⟩ : ∃ W2, W2 = W1.setCell ⟨t, 2 + v, none⟩ (.bool true) := ⟨_, rfl⟩
  rw [← hW2]
  have hg2 : Gb t W1 W2 := by rw [hW2]; exact Gb.set _ _
  have ht2 : isTe W2 t g r (updT S v true) tn B (.slice ao Q.length cap) := by rw [hW2]; exact (unhide HT1).putS hv
  have hs1 : W.heap.size < W1.heap.size := World.block_lt_of_cell? _ _ e0
  have hne : W.heap.size ≠ t := by omega
  have d0 : W2.cell? ⟨W.heap.size, 0, none⟩ = some (.int .i64 a) := (blk_cell (hg2.block hs1 hne)).trans e0
  have d1 : W2.cell? ⟨W.heap.size, 1, none⟩ = some (.int .i64 b) := (blk_cell (hg2.block hs1 hne)).trans e1
  have d2 := ht2.ta v hv
  have d3 : W2.cell? ⟨t, 62 + v * 2 + 1, none⟩ = some (.int .i64 (tB (tn v))) := by rw [show 62 + v * 2 + 1 = 63 + v * 2 by omega]; exact ht2.tb v hv
  have d4 := ht2.fz (62 + v * 2)
  have d5 := ht2.fz (62 + v * 2 + 1)
  generalize tA (tn v) = a' at d2
  generalize tB (tn v) = b' at d3
  have HT2 := hide ht2
  have HG2 := hide hg2
  clear c1 c2 e0 e1 ht2 hg2 hW2 HT1 HW1
  go_region
  obtain ⟨W3, hW3⟩ : ∃ W3, W3 = ((W2.setCell ⟨t, 62 + v * 2, none⟩ (.int .i64 a)).setCell ⟨t, 62 + v * 2 + 1, none⟩ (.int .i64 b)).drew := ⟨_, rfl⟩
  rw [← hW3]
  have ht3 : isTe W3 t g r (updT S v true) (updT tn v x) B (.slice ao Q.length cap) := by
    rw [hW3, ← unhide HA, ← unhide HBB]
    exact ((unhide HT2).putT hv x).keep rfl
  have hg3 : Gb t W2 W3 := by rw [hW3]; exact ((Gb.set _ _).trans (Gb.set _ _)).trans (Gb.of_below (Below.refl _ _).drew)
  have hgg : Gb t W W3 := (Gb.of_below (unhide HB1)).trans ((unhide HG2).trans hg3)
  have hown : ∀ k, (Value.slice ao Q.length cap).ownBlock = some k → t + 1 ≤ k ∧ k < W.heap.size := (unhide HH).row.lt
  have hrow3 : W3.ownsRow (t + 1) 3 1 (.slice ao Q.length cap) Q.length (qvals Q) := by
    obtain ⟨h1, h2⟩ := (unhide HH).row
    refine ⟨h1, ?_⟩
    rcases h2 with h2 | ⟨q, cap', cur, e1, hb, hg', r'⟩
    · exact .inl h2
    · have hk := hown q (by rw [e1]; rfl)
      exact .inr ⟨q, cap', cur, e1, hb, (hgg.block hk.2 (by omega)).trans hg', r'⟩
  have c1 := ht3.q_
  have c2 := ht3.fz 242
  have hsz := hgg.size
  obtain ⟨i0, hinfo, hz0, hz1, hz2⟩ : ∃ i0, Try.prog.info? 3 = some i0 ∧ i0.zero = some (.int .i64 0) ∧ i0.size = 1 ∧ i0.bytes = 8 := by
    have : (Try.prog.info? 3).map (fun i => (i.zero, i.size, i.bytes)) = some (some (.int .i64 0), 1, 8) := by kernel_rfl
    cases hh : Try.prog.info? 3 with
    | none => rw [hh] at this; simp at this
    | some i => rw [hh] at this; simp at this; exact ⟨i, rfl, this.1, this.2.1, this.2.2⟩
  have HIN := hide hinfo
  have HZ0 := hide hz0
  have HZ1 := hide hz1
  have HZ2 := hide hz2
  have HR3 := hide hrow3
  have HT3 := hide ht3
  have HGG := hide hgg
  have HOW := hide hown
  clear hinfo hz0 hz1 hz2 hrow3 ht3 hgg hown hg3 hW3 d0 d1 d2 d3 d4 d5 HT2 HG2 HB1 HH
  go_wp2_with (at_builtin; refine wpList_append_own_at _ rfl _ _ 41 rfl (t + 1) 3 i0 _ 1 8 Try.underlying41 (unhide HIN) (unhide HZ0) (unhide HZ1) (unhide HZ2) rfl (by decide) (.slice ao Q.length cap) Q.length (qvals Q) rfl ((unhide HR3).alloc _) ⟨W3.heap.size, 0, none⟩ 1 1 [.int .i64 (v : Int)] rfl rfl (cell_one_new _ _ _) ?c2 ?c3 ?c4 ?c5 ?_)
  case c2 => simp [Value.oneCell']
  case c3 => unfold maxLen; omega
  case c4 => omega
  case c5 => simp; omega
  intro q' W5 hrow5 hg5 _ hat5
  obtain ⟨ao', cap', rfl⟩ : ∃ o c, q' = .slice o (Q.length + 1) c := by
    rcases hrow5.2 with ⟨-, h2⟩ | ⟨k, c, cur, h1, -⟩
    · omega
    · exact ⟨_, _, h1⟩
  have ha3 : Below W3.heap.size W3 (W3.alloc (Obj.cells #[Value.int .i64 (v : Int)] 3 (0, 0))) := (Below.refl _ _).alloc (Nat.le_refl _) _
  have hfr : ∀ k, k < W3.heap.size → (Value.slice ao Q.length cap).ownBlock ≠ some k → W5.heap[k]? = W3.heap[k]? := fun k hk hne => (hg5.block k (Nat.lt_of_lt_of_le hk ha3.size) (fun e => hne e.symm)).trans (ha3.block k hk)
  have htne : (Value.slice ao Q.length cap).ownBlock ≠ some t := fun e => by have := (unhide HOW) t e; omega
  have ht5 := (unhide HT3).keep (hfr t (by omega) htne)
  have hs5 : W3.heap.size ≤ W5.heap.size := Nat.le_trans ha3.size hg5.size
  have d1 := ht5.q_
  have d2 := ht5.fz 242
  have htne' : (Value.slice ao' (Q.length + 1) cap').ownBlock ≠ some t := fun e => by have := hrow5.lt t e; omega
  have HE : Hid (ReE t g r (updT S v true) (updT tn v x) B (Q ++ [v]) (.slice ao Q.length cap) W (.returned (.tuple #[])) (W5.setCell ⟨t, 242, none⟩ (.slice ao' (Q.length + 1) cap'))) := hide (by
    have hrow6 : (W5.setCell ⟨t, 242, none⟩ (.slice ao' (Q.length + 1) cap')).ownsRow (t + 1) 3 1 (.slice ao' (Q.length + 1) cap') (Q.length + 1) (qvals (Q ++ [v])) := by
      have hv' : qvals (Q ++ [v]) = qvals Q ++ [.int .i64 (v : Int)] := by simp [qvals]
      rw [hv']
      exact ownsRow_setCell_below hrow5 (show t < t + 1 by omega) _
    have hgs : Gb t W5 (W5.setCell ⟨t, 242, none⟩ (.slice ao' (Q.length + 1) cap')) := Gb.set _ _
    refine ⟨rfl, _, ⟨ht5.putQ _, by rw [List.length_append]; exact hrow6, ⟨ao', cap', by rw [List.length_append]; rfl⟩⟩, ?_, ⟨?_, ?_, ?_, Nat.le_trans hsz (Nat.le_trans hs5 hgs.size), fun k hk h1 h2 => ?_⟩⟩
    · rcases hat5 with e | e
      · exact .inl e
      · exact .inr ⟨_, e, by omega⟩
    · exact hg5.os.trans (ha3.os.trans (unhide HGG).os)
    · exact hg5.tape.trans (ha3.tape.trans (unhide HGG).tape)
    · exact hg5.output.trans (ha3.output.trans (unhide HGG).output)
    · exact (hgs.block (by omega) h1).trans ((hfr k (by omega) h2).trans ((unhide HGG).block hk h1)))
  clear hrow5 hg5 hat5 ha3 hfr htne ht5 htne' HIN HZ0 HZ1 HZ2 HR3 HT3 HGG HOW
  go_wp2
  refine bodyPost_end (v := .tuple #[]) (by simp [results, Try.results37]) rfl ?_
  exact unhide HE
end Go.Proofs.Ytppkejblhkbkjaa
