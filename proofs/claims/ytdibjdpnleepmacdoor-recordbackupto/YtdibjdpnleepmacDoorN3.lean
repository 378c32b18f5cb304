/-
  package record, walked: survey.list: notes in memory; what is found in them.
-/
import Derived.Test.YtdibjdpnleepmacDoorN2
import Derived.Deep.DeepCutAuto
namespace Go.Proofs.YtdibjdpnleepmacDoor
open Go.RowKit
attribute [local go_sem ↓] Go.wp_at_zero Go.wp_at_succ

/-- A note: its move, its comment, what comes behind it. -/
inductive Nt where
  | mk (mv cm : ByteArray) (nx : List Nt)
def Nt.mv : Nt → ByteArray | .mk m _ _ => m
def Nt.cm : Nt → ByteArray | .mk _ c _ => c
def Nt.nx : Nt → List Nt | .mk _ _ n => n
/-- Notes in memory, all in blocks below B, no more than so many within one another. -/
def isNts : Nat → World → Nat → Option Addr → Nat → List Nt → Prop
  | 0, _, _, ao, cap, l => l = [] ∧ cap ≤ maxLen ∧ (ao = none → cap = 0)
  | d + 1, w, B, ao, cap, l => l.length ≤ cap ∧ cap ≤ maxLen ∧ (ao = none → cap = 0) ∧ (l ≠ [] → ∃ g off, ao = some ⟨g, off, none⟩ ∧ g < B ∧ ∀ (i : Nat) (t : Nt), l[i]? = some t →
      t.mv.size < 2000000 ∧ t.cm.size < 2000000 ∧ ∃ no nc, w.cell? ⟨g, off + i * 3, none⟩ = some (.string t.mv) ∧ w.cell? ⟨g, off + i * 3 + 1, none⟩ = some (.string t.cm) ∧ w.cell? ⟨g, off + i * 3 + 2, none⟩ = some (.slice no t.nx.length nc) ∧ isNts d w B no nc t.nx)
theorem isNts.below {w w' : World} {B B' : Nat} (hb : Below B' w w') (hB : B ≤ B') : ∀ (d : Nat) (ao : Option Addr) (cap : Nat) (l : List Nt), isNts d w B ao cap l → isNts d w' B ao cap l
  | 0, _, _, _, h => h
  | d + 1, ao, cap, l, h => by
    obtain ⟨h1, h2, h3, h4⟩ := h
    refine ⟨h1, h2, h3, fun hl => ?_⟩
    obtain ⟨g, off, e, hg, hc⟩ := h4 hl
    refine ⟨g, off, e, hg, fun i t ht => ?_⟩
    obtain ⟨s1, s2, no, nc, c0, c1, c2, c3⟩ := hc i t ht
    refine ⟨s1, s2, no, nc, ?_, ?_, ?_, isNts.below hb hB d no nc t.nx c3⟩
    · rw [hb.cell (p := ⟨g, off + i * 3, none⟩) (Nat.lt_of_lt_of_le hg hB)]; exact c0
    · rw [hb.cell (p := ⟨g, off + i * 3 + 1, none⟩) (Nat.lt_of_lt_of_le hg hB)]; exact c1
    · rw [hb.cell (p := ⟨g, off + i * 3 + 2, none⟩) (Nat.lt_of_lt_of_le hg hB)]; exact c2

/-- What a survey has found so far. -/
structure Sv where
  n : Int
  d : Int
  wr : Bool
  left : Int
def isSv (w : World) (g : Nat) (s : Sv) : Prop := w.heap[g]? = some (.cells #[.int .i64 s.n, .int .i64 s.d, .bool s.wr, .int .i64 s.left] 54 (0, 0))
theorem isSv.all {w : World} {g : Nat} {s : Sv} (h : isSv w g s) :
    (w.cell? ⟨g, 0, none⟩ = some (.int .i64 s.n) ∧ w.cell? ⟨g, 1, none⟩ = some (.int .i64 s.d) ∧ w.cell? ⟨g, 2, none⟩ = some (.bool s.wr) ∧ w.cell? ⟨g, 3, none⟩ = some (.int .i64 s.left)) ∧
    w.frozen? ⟨g, 0, none⟩ = false ∧ w.frozen? ⟨g, 1, none⟩ = false ∧ w.frozen? ⟨g, 2, none⟩ = false ∧ w.frozen? ⟨g, 3, none⟩ = false := by
  unfold isSv at h; simp [World.cell?, World.frozen?, h]
theorem isSv.lt {w : World} {g : Nat} {s : Sv} (h : isSv w g s) : g < w.heap.size := (Array.getElem?_eq_some_iff.1 h).1
theorem isSv.below {w w' : World} {g B : Nat} {s : Sv} (h : isSv w g s) (hb : Below B w w') (hB : g < B) : isSv w' g s := by
  unfold isSv; rw [hb.block g hB]; exact h
theorem isSv.add {w : World} {g : Nat} {s : Sv} (h : isSv w g s) (n d : Int) : isSv ((w.setCell ⟨g, 0, none⟩ (.int .i64 n)).setCell ⟨g, 0 + 1, none⟩ (.int .i64 d)) g { s with n := n, d := d } := by
  unfold isSv at h ⊢; simp [World.setCell, Array.getElem?_modify, h]
theorem isSv.set2 {w : World} {g : Nat} {s : Sv} (h : isSv w g s) (b : Bool) : isSv (w.setCell ⟨g, 2, none⟩ (.bool b)) g { s with wr := b } := by
  unfold isSv at h ⊢; simp [World.setCell, Array.getElem?_modify, h]
theorem isSv.set3 {w : World} {g : Nat} {s : Sv} (h : isSv w g s) (n : Int) : isSv (w.setCell ⟨g, 3, none⟩ (.int .i64 n)) g { s with left := n } := by
  unfold isSv at h ⊢; simp [World.setCell, Array.getElem?_modify, h]
/-- Is a note's own text right? -/
def ntB (t : Nt) : Bool := isTextB mvR 1 20 t.mv && isTextB cmR 0 200 t.cm
/-- One note more. -/
def Sv.one (s : Sv) (k : Int) (t : Nt) : Sv := ⟨s.n + 1, max s.d k, !ntB t, s.left - (1 + (t.mv.size : Int) + (t.cm.size : Int))⟩
/-- All notes of a list, k deep: what is found, and whether to go on. -/
def svL : Nat → List Nt → Int → Sv → Sv × Bool
  | 0, _, _, s => (s, true)
  | _ + 1, [], _, s => (s, true)
  | f + 1, t :: l, k, s =>
    if (s.one k t).wr = true ∨ (s.one k t).left < 0 ∨ k > 65536 then (s.one k t, false)
    else if (svL f t.nx (k + 1) (s.one k t)).2 = false then ((svL f t.nx (k + 1) (s.one k t)).1, false)
    else svL (f + 1) l k (svL f t.nx (k + 1) (s.one k t)).1
termination_by f l => (f, l.length)
end Go.Proofs.YtdibjdpnleepmacDoor
