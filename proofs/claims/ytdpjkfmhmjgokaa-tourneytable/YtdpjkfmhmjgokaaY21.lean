/-
  The memory of gameref.Ranks while it goes on.
-/
import Derived.Test.YtdpjkfmhmjgokaaY19
import Derived.Test.YtdpjkfmhmjgokaaY20
namespace Go.Proofs.Ytdpjkfmhmjgokaa
open Go.RowKit

def ivf (n : Nat) (f : Nat → Int) : List Value := (List.range n).map fun i => Value.int .i64 (f i)
theorem ivf_len (n : Nat) (f : Nat → Int) : (ivf n f).length = n := by simp [ivf]
/-- A row of n ints of the call's own. -/
structure AlR (u : World) (base g n : Nat) (f : Nat → Int) : Prop where
  row : u.ownsRow base 3 1 (.slice (some ⟨g, 0, none⟩) n n) n (ivf n f)
section
variable {u u' : World} {base g n : Nat} {f f' : Nat → Int}
theorem AlR.lt (h : AlR u base g n f) : base ≤ g ∧ g < u.heap.size := row_block h.row rfl
theorem AlR.cell (h : AlR u base g n f) {i : Nat} (hi : i < n) : u.cell? ⟨g, i, none⟩ = some (.int .i64 (f i)) ∧ u.frozen? ⟨g, i, none⟩ = false := by
  refine ⟨?_, h.row.frozenAt _⟩
  rw [h.row.cellAt i (by omega)]
  simp [ivf, hi]
theorem AlR.keep (h : AlR u base g n f) (hk : u'.heap[g]? = u.heap[g]?) : AlR u' base g n f := ⟨row_keep h.row fun k hg => by simp only [Value.ownBlock, Option.some.injEq] at hg; rw [← hg]; exact hk⟩
theorem AlR.congr (h : AlR u base g n f) (he : ∀ i, i < n → f i = f' i) : AlR u base g n f' := by
  refine ⟨?_⟩
  rw [show ivf n f' = ivf n f from List.map_congr_left fun i hi => by rw [he i (List.mem_range.1 hi)]]
  exact h.row
theorem AlR.put (h : AlR u base g n f) {i : Nat} (hi : i < n) (x : Int) : AlR (u.setCell ⟨g, i, none⟩ (.int .i64 x)) base g n (fun k => if k = i then x else f k) ∧ u.grownBy (u.setCell ⟨g, i, none⟩ (.int .i64 x)) (some g) := by
  obtain ⟨h1, h2⟩ := h.row.stored i (.int .i64 x)
  refine ⟨⟨?_⟩, h2⟩
  have e : (ivf n f).set i (.int .i64 x) = ivf n fun k => if k = i then x else f k := by
    unfold ivf
    apply List.ext_getElem?
    intro k
    by_cases hk : k < n
    · by_cases hki : i = k
      · subst hki
        rw [List.getElem?_set_self (by simp [hi])]
        simp [hk]
      · rw [List.getElem?_set_ne hki]
        simp [hk, show ¬ k = i by omega]
    · rw [List.getElem?_eq_none (by simp; omega), List.getElem?_eq_none (by simp; omega)]
  rw [← e]
  exact h1
end
theorem infoIn : (Try.prog.info? 3).map (fun i => (i.zero, i.size, i.bytes)) = some (some (.int .i64 0), 1, 8) := by kernel_rfl
theorem made_ints (n : Nat) (hn : n ≤ 100000) (W : World) : (Instr.makeSlice 41 (.int .i64 (n : Int)) (.int .i64 (n : Int))).run Try.prog W = .ok (.slice (some ⟨W.heap.size, 0, none⟩) n n) (W.alloc (.cells (ivf n fun _ => 0).toArray 3 (0, 0))) := by
  obtain ⟨i0, hi, hz0, hz1, hz2⟩ := info_parts infoIn
  have h := run_make (P := Try.prog) W 41 3 i0 (.int .i64 0) Try.underlying41 hi hz0 .i64 .i64 (n : Int) (n : Int) (by omega) (by omega) (by rw [hz2]; omega) (by omega)
  rw [h, hz1]
  simp only [Int.toNat_natCast]
  have e : madeCells (Value.int .i64 0).cells (n * 1) = (ivf n fun _ => 0).toArray := by
    apply Array.toList_inj.1
    rw [show (Value.int .i64 0).cells = #[Value.int .i64 0] from rfl, toList_madeCells_one]
    rw [Nat.mul_one]
    apply List.ext_getElem?
    intro k
    by_cases hk : k < n
    · simp [ivf, hk]
    · rw [List.getElem?_eq_none (by simp; omega), List.getElem?_eq_none (by simp [ivf]; omega)]
  rw [e]
theorem AlR.of_block {u : World} {base g n : Nat} {f : Nat → Int} (hb : base ≤ g) (hl : n ≤ 100000) (h : u.heap[g]? = some (.cells (ivf n f).toArray 3 (0, 0))) : AlR u base g n f := by
  refine ⟨by rw [ivf_len]; omega, .inr ⟨g, n, (ivf n f).toArray, rfl, hb, h, Nat.le_refl _, by unfold maxLen; omega, by simp [ivf_len], ?_⟩⟩
  rw [List.take_of_length_le (by simp [ivf_len])]

/-- What stays while ranks are put in. -/
structure RnF (w u : World) (v : Value) (n : Nat) (f : Nat → Int) : Prop where
  bw : Below w.heap.size w u
  lb : isLb u w.heap.size v
  al : AlR u (w.heap.size + 1) (w.heap.size + 1) n f
section
variable {w u u' : World} {v : Value} {n : Nat} {f : Nat → Int}
theorem RnF.size (h : RnF w u v n f) : w.heap.size + 1 < u.heap.size := h.al.lt.2
theorem RnF.grown (h : RnF w u v n f) {ob : Option Nat} (hg : u.grownBy u' ob) (hb : ∀ b, ob = some b → w.heap.size + 1 < b) : RnF w u' v n f := by
  have hs := h.size
  have key : ∀ k, k ≤ w.heap.size + 1 → u'.heap[k]? = u.heap[k]? := fun k hk => hg.block k (by omega) (fun e => by have := hb k e.symm; omega)
  refine ⟨⟨hg.os.trans h.bw.os, hg.tape.trans h.bw.tape, hg.output.trans h.bw.output, Nat.le_trans h.bw.size hg.size, fun k hk => (key k (by omega)).trans (h.bw.block k hk)⟩, (key _ (by omega)).trans h.lb, h.al.keep (key _ (by omega))⟩
theorem RnF.alloc (h : RnF w u v n f) (o : Obj) : RnF w (u.alloc o) v n f := by
  have hs := h.size
  exact ⟨h.bw.alloc h.bw.size o, (Below.heap_alloc _ _ _ (by omega)).trans h.lb, h.al.keep (Below.heap_alloc _ _ _ (by omega))⟩
theorem RnF.drew (h : RnF w u v n f) : RnF w u.drew v n f := ⟨h.bw.drew, h.lb, h.al.keep rfl⟩
end
/-- A rank in a box. -/
def isKb (u : World) (b : Nat) (x : Rk) : Prop := u.heap[b]? = some (.cells #[.int .i64 x.p, .int .i64 x.q, .int .i64 x.o] 34 (0, 0))
theorem isKb.cell {u : World} {b : Nat} {x : Rk} (h : isKb u b x) : u.cell? ⟨b, 0, none⟩ = some (.int .i64 x.p) ∧ u.cell? ⟨b, 1, none⟩ = some (.int .i64 x.q) ∧ u.cell? ⟨b, 2, none⟩ = some (.int .i64 x.o) ∧ u.frozen? ⟨b, 2, none⟩ = false := by
  unfold isKb at h; simp [World.cell?, World.frozen?, h]
theorem isKb.lt {u : World} {b : Nat} {x : Rk} (h : isKb u b x) : b < u.heap.size := (Array.getElem?_eq_some_iff.1 h).1
theorem isKb.put {u : World} {b : Nat} {x : Rk} (h : isKb u b x) (o : Int) : isKb (u.setCell ⟨b, 2, none⟩ (.int .i64 o)) b ⟨x.p, x.q, o⟩ := by
  unfold isKb at h ⊢; simp [World.setCell, Array.getElem?_modify, h]
theorem grown_set (u : World) (b j : Nat) (x : Value) : u.grownBy (u.setCell ⟨b, j, none⟩ x) (some b) :=
  ⟨rfl, rfl, rfl, by simp [World.setCell], fun k hk hne => by
    have : b ≠ k := fun e => hne (by rw [e])
    simp [World.setCell, Array.getElem?_modify, this]⟩
/-- The row of ranks, whole or nil. -/
structure OuR (u : World) (base : Nat) (v : Value) (T : List Rk) : Prop where
  row : u.ownsRow base 34 3 v T.length (rvs T)
theorem OuR.keep {u u' : World} {base : Nat} {v : Value} {T : List Rk} (h : OuR u base v T) {ob : Option Nat} (hg : u.grownBy u' ob) (hne : ∀ b, ob = some b → v.ownBlock ≠ some b) : OuR u' base v T := by
  refine ⟨row_keep h.row fun k hk => ?_⟩
  have := (row_block h.row hk).2
  exact hg.block k this (fun e => hne k e.symm hk)
/-- The players so far. -/
structure SoR (l : List Re) (p : Nat) (T : List Rk) : Prop where
  perm : T.Perm (rks p l)
  ord : T.Pairwise fun x y => ordR x y < 0
theorem SoR.len {l : List Re} {p : Nat} {T : List Rk} (h : SoR l p T) : T.length = p := by rw [h.perm.length_eq]; simp [rks]
theorem SoR.start (l : List Re) : SoR l 0 [] := ⟨by simp [rks], List.Pairwise.nil⟩
theorem SoR.below {l : List Re} {p : Nat} {T : List Rk} (h : SoR l p T) {k : Nat} {y : Rk} (hy : T[k]? = some y) : y.p < (p : Int) := by
  have h1 := h.perm.subset (List.mem_of_getElem? hy)
  unfold rks at h1
  obtain ⟨i, hi, rfl⟩ := List.mem_map.1 h1
  have := List.mem_range.1 hi
  simp only [rkOf]
  omega
theorem SoR.next {l : List Re} {p : Nat} {T : List Rk} (h : SoR l p T) {k : Nat} (ho : (insK T (rkOf l p) k).Pairwise fun x y => ordR x y < 0) : SoR l (p + 1) (insK T (rkOf l p) k) := by
  refine ⟨(insK_perm T _ k).trans ?_, ho⟩
  unfold rks
  rw [List.range_succ, List.map_append]
  exact h.perm.append_right _
end Go.Proofs.Ytdpjkfmhmjgokaa
