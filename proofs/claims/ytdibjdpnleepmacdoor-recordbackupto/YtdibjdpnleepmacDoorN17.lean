/-
  package record: notes in memory, in blocks of some kind; rows of notes of the call's own.
-/
import Derived.Test.YtdibjdpnleepmacDoorN16
namespace Go.Proofs.YtdibjdpnleepmacDoor
open Go.RowKit

/-- Notes in memory, all in blocks of S, no more than so many within one another. -/
def isNtP (S : Nat → Prop) : Nat → World → Option Addr → Nat → List Nt → Prop
  | 0, _, ao, cap, l => l = [] ∧ cap ≤ maxLen ∧ (ao = none → cap = 0)
  | d + 1, w, ao, cap, l => l.length ≤ cap ∧ cap ≤ maxLen ∧ (ao = none → cap = 0) ∧ (l ≠ [] → ∃ g off, ao = some ⟨g, off, none⟩ ∧ S g ∧ ∀ (i : Nat) (t : Nt), l[i]? = some t →
      t.mv.size < 2000000 ∧ t.cm.size < 2000000 ∧ ∃ no nc, w.cell? ⟨g, off + i * 3, none⟩ = some (.string t.mv) ∧ w.cell? ⟨g, off + i * 3 + 1, none⟩ = some (.string t.cm) ∧ w.cell? ⟨g, off + i * 3 + 2, none⟩ = some (.slice no t.nx.length nc) ∧ isNtP S d w no nc t.nx)
theorem cell_block {w w' : World} {p : Addr} (h : w'.heap[p.block]? = w.heap[p.block]?) : w'.cell? p = w.cell? p := by
  unfold World.cell?; rw [h]
theorem isNtP.keep {S S' : Nat → Prop} {w w' : World} (hS : ∀ k, S k → S' k ∧ w'.heap[k]? = w.heap[k]?) : ∀ (d : Nat) (ao : Option Addr) (cap : Nat) (l : List Nt), isNtP S d w ao cap l → isNtP S' d w' ao cap l
  | 0, _, _, _, h => h
  | d + 1, ao, cap, l, h => by
    obtain ⟨h1, h2, h3, h4⟩ := h
    refine ⟨h1, h2, h3, fun hl => ?_⟩
    obtain ⟨g, off, e, hg, hc⟩ := h4 hl
    refine ⟨g, off, e, (hS g hg).1, fun i t ht => ?_⟩
    obtain ⟨s1, s2, no, nc, c0, c1, c2, c3⟩ := hc i t ht
    have hk := (hS g hg).2
    exact ⟨s1, s2, no, nc, (cell_block (p := ⟨g, off + i * 3, none⟩) hk).trans c0, (cell_block (p := ⟨g, off + i * 3 + 1, none⟩) hk).trans c1, (cell_block (p := ⟨g, off + i * 3 + 2, none⟩) hk).trans c2, isNtP.keep hS d no nc t.nx c3⟩
theorem isNtP.nts {S : Nat → Prop} {w : World} {B : Nat} (hS : ∀ k, S k → k < B) : ∀ (d : Nat) (ao : Option Addr) (cap : Nat) (l : List Nt), isNtP S d w ao cap l → isNts d w B ao cap l
  | 0, _, _, _, h => h
  | d + 1, ao, cap, l, h => by
    obtain ⟨h1, h2, h3, h4⟩ := h
    refine ⟨h1, h2, h3, fun hl => ?_⟩
    obtain ⟨g, off, e, hg, hc⟩ := h4 hl
    refine ⟨g, off, e, hS g hg, fun i t ht => ?_⟩
    obtain ⟨s1, s2, no, nc, c0, c1, c2, c3⟩ := hc i t ht
    exact ⟨s1, s2, no, nc, c0, c1, c2, isNtP.nts hS d no nc t.nx c3⟩
theorem isNts.hg {w : World} {B : Nat} : ∀ (d : Nat) (ao : Option Addr) (cap : Nat) (l : List Nt), isNts d w B ao cap l → hg (foL l) ≤ d
  | 0, _, _, _, h => by rw [h.1, foL_nil]; exact Nat.le_refl _
  | d + 1, ao, cap, l, h => by
    obtain ⟨h1, h2, h3, h4⟩ := h
    have key : ∀ l' : List Nt, (∀ t ∈ l', t ∈ l) → Go.Proofs.YtdibjdpnleepmacDoor.hg (foL l') ≤ d + 1 := by
      intro l'
      induction l' with
      | nil => intro _; rw [foL_nil]; exact Nat.zero_le _
      | cons t l' ih =>
        intro hm
        cases t with
        | mk mv cm nx =>
          have ht := hm (.mk mv cm nx) (by simp)
          obtain ⟨i, hi⟩ := List.getElem?_of_mem ht
          obtain ⟨g, off, e, hg, hc⟩ := h4 (List.ne_nil_of_mem ht)
          obtain ⟨s1, s2, no, nc, c0, c1, c2, c3⟩ := hc i _ hi
          have := isNts.hg d no nc nx c3
          rw [foL_cons, Go.Proofs.YtdibjdpnleepmacDoor.hg]
          exact Nat.max_le.2 ⟨by omega, ih (fun t ht => hm t (by simp [ht]))⟩
    exact key l (fun t ht => ht)
/-- A note in a row: it, and where what comes behind it lies. -/
structure Nr where
  t : Nt
  no : Option Addr
  nc : Nat
def nrow (L : List Nr) : List Value := L.flatMap fun x => [.string x.t.mv, .string x.t.cm, .slice x.no x.t.nx.length x.nc]
theorem nrow_snoc (L : List Nr) (x : Nr) : nrow (L ++ [x]) = nrow L ++ [.string x.t.mv, .string x.t.cm, .slice x.no x.t.nx.length x.nc] := by simp [nrow]
theorem nrow_at : ∀ (L : List Nr) (i : Nat) (x : Nr), L[i]? = some x → (nrow L)[i * 3]? = some (.string x.t.mv) ∧ (nrow L)[i * 3 + 1]? = some (.string x.t.cm) ∧ (nrow L)[i * 3 + 2]? = some (.slice x.no x.t.nx.length x.nc)
  | [], i, x, h => by simp at h
  | y :: L, 0, x, h => by simp at h; subst h; simp [nrow]
  | y :: L, i + 1, x, h => by
    have := nrow_at L i x (by simpa using h)
    rw [show nrow (y :: L) = [.string y.t.mv, .string y.t.cm, .slice y.no y.t.nx.length y.nc] ++ nrow L from rfl]
    rw [show (i + 1) * 3 = 3 + i * 3 by omega, show 3 + i * 3 + 1 = 3 + (i * 3 + 1) by omega, show 3 + i * 3 + 2 = 3 + (i * 3 + 2) by omega]
    rw [List.getElem?_append_right (by simp), List.getElem?_append_right (by simp), List.getElem?_append_right (by simp)]
    simpa using this
theorem nrow_len (L : List Nr) : (nrow L).length = L.length * 3 := by
  induction L with
  | nil => rfl
  | cons p t ih => simp only [nrow, List.flatMap_cons, List.length_append, List.length_cons, List.length_nil] at ih ⊢; omega
/-- The row's own blocks, and those of what comes behind. -/
def Own (w : World) (base : Nat) (v : Value) (k : Nat) : Prop := base ≤ k ∧ k < w.heap.size ∧ v.ownBlock ≠ some k
/-- A row of notes of the call's own, what comes behind each in other blocks of its own. -/
structure isNrow (d : Nat) (w : World) (base : Nat) (v : Value) (L : List Nr) : Prop where
  row : w.ownsRow base 47 3 v L.length (nrow L)
  kids : ∀ x ∈ L, x.t.mv.size < 2000000 ∧ x.t.cm.size < 2000000 ∧ isNtP (Own w base v) d w x.no x.nc x.t.nx
theorem isNrow.done {d : Nat} {w : World} {base : Nat} {v : Value} {L : List Nr} (h : isNrow d w base v L) (hn : L.length ≤ maxLen) : ∃ ao cap, v = .slice ao L.length cap ∧ isNtP (fun k => base ≤ k ∧ k < w.heap.size) (d + 1) w ao cap (L.map (·.t)) := by
  obtain ⟨hr, hk⟩ := h
  have hr0 := hr
  rcases hr.2 with ⟨h1, h2⟩ | ⟨g, cap, cur, h1, hb, hg, hlc, hcm, hrest⟩
  · have hL : L = [] := List.eq_nil_of_length_eq_zero (by omega)
    subst hL
    exact ⟨none, 0, h1, by simp [isNtP]⟩
  · refine ⟨_, _, h1, by rw [List.length_map]; exact hlc, hcm, fun e => by simp at e, fun _ => ⟨g, 0, rfl, ⟨hb, ltBlock hg⟩, fun i t ht => ?_⟩⟩
    rw [List.getElem?_map] at ht
    cases hx : L[i]? with
    | none => rw [hx] at ht; cases ht
    | some x =>
      rw [hx] at ht
      simp only [Option.map_some, Option.some.injEq] at ht
      subst ht
      have hi : i < L.length := (List.getElem?_eq_some_iff.1 hx).1
      obtain ⟨q1, q2, q3⟩ := hk x (List.mem_of_getElem? hx)
      obtain ⟨a0, a1, a2⟩ := nrow_at L i x hx
      rw [h1] at hr0
      refine ⟨q1, q2, x.no, x.nc, ?_, ?_, ?_, isNtP.keep (fun k hk => ⟨⟨hk.1, hk.2.1⟩, rfl⟩) _ _ _ _ q3⟩
      · rw [Nat.zero_add, hr0.cellAt _ (by omega)]; exact a0
      · rw [Nat.zero_add, hr0.cellAt _ (by omega)]; exact a1
      · rw [Nat.zero_add, hr0.cellAt _ (by omega)]; exact a2
theorem isNrow.nil (d : Nat) (w : World) (base : Nat) : isNrow d w base (.slice none 0 0) [] := ⟨⟨rfl, .inl ⟨rfl, rfl⟩⟩, fun x hx => by simp at hx⟩
/-- Nothing below turns it. -/
theorem isNrow.below {d : Nat} {w w' : World} {base : Nat} {v : Value} {L : List Nr} (h : isNrow d w base v L) (hb : Below w.heap.size w w') : isNrow d w' base v L := by
  refine ⟨row_keep h.row (fun k _ hk => hb.block k hk), fun x hx => ?_⟩
  obtain ⟨q1, q2, q3⟩ := h.kids x hx
  exact ⟨q1, q2, isNtP.keep (fun k hk => ⟨⟨hk.1, Nat.lt_of_lt_of_le hk.2.1 hb.size, hk.2.2⟩, hb.block k hk.2.1⟩) _ _ _ _ q3⟩
/-- One note more. -/
theorem isNrow.snoc {d : Nat} {w w' : World} {base : Nat} {v v' : Value} {L : List Nr} (h : isNrow d w base v L) (x : Nr) (h1 : x.t.mv.size < 2000000 ∧ x.t.cm.size < 2000000) (h2 : isNtP (Own w base v) d w x.no x.nc x.t.nx)
    (hrow : w'.ownsRow base 47 3 v' (L.length + 1) (nrow L ++ [.string x.t.mv, .string x.t.cm, .slice x.no x.t.nx.length x.nc])) (hg : w.grownBy w' v.ownBlock) (hfr : v'.ownBlock = v.ownBlock ∨ ∀ k, v'.ownBlock = some k → w.heap.size ≤ k) : isNrow d w' base v' (L ++ [x]) := by
  have hS : ∀ k, Own w base v k → Own w' base v' k ∧ w'.heap[k]? = w.heap[k]? := by
    intro k hk
    refine ⟨⟨hk.1, Nat.lt_of_lt_of_le hk.2.1 hg.size, ?_⟩, hg.block k hk.2.1 (fun e => hk.2.2 e.symm)⟩
    intro e
    rcases hfr with hf | hf
    · rw [hf] at e; exact hk.2.2 e
    · have := hf k e; have := hk.2.1; omega
  refine ⟨by rw [nrow_snoc, List.length_append]; exact hrow, fun y hy => ?_⟩
  rcases List.mem_append.1 hy with hy | hy
  · obtain ⟨q1, q2, q3⟩ := h.kids y hy
    exact ⟨q1, q2, isNtP.keep hS _ _ _ _ q3⟩
  · simp only [List.mem_singleton] at hy
    subst hy
    exact ⟨h1.1, h1.2, isNtP.keep hS _ _ _ _ h2⟩
end Go.Proofs.YtdibjdpnleepmacDoor
