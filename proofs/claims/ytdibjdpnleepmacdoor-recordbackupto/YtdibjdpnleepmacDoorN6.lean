/-
  package record, walked: the reader's small methods: peek, step.
-/
import Derived.Test.YtdibjdpnleepmacDoorN5
namespace Go.Proofs.YtdibjdpnleepmacDoor
open Go.RowKit
attribute [local go_sem ↓] Go.wp_at_zero Go.wp_at_succ

/-- The reader. -/
structure Re where
  rest : ByteArray
  at_ : Int
  kept : Value
  n : Int
  d : Int
  main : Int
  deep : Int
  of_ : Int
  others : Bool
  open_ : Value
def isRe (w : World) (g : Nat) (x : Re) : Prop := w.heap[g]? = some (.cells #[.string x.rest, .int .i64 x.at_, x.kept, .int .i64 x.n, .int .i64 x.d, .int .i64 x.main, .int .i64 x.deep, .int .i64 x.of_, .bool x.others, x.open_] 39 (0, 0))
theorem isRe.lt {w : World} {g : Nat} {x : Re} (h : isRe w g x) : g < w.heap.size := (Array.getElem?_eq_some_iff.1 h).1
theorem isRe.below {w w' : World} {g B : Nat} {x : Re} (h : isRe w g x) (hb : Below B w w') (hB : g < B) : isRe w' g x := by
  unfold isRe; rw [hb.block g hB]; exact h
theorem isRe.cells {w : World} {g : Nat} {x : Re} (h : isRe w g x) :
    w.cell? ⟨g, 0, none⟩ = some (.string x.rest) ∧ w.cell? ⟨g, 1, none⟩ = some (.int .i64 x.at_) ∧ w.cell? ⟨g, 2, none⟩ = some x.kept ∧ w.cell? ⟨g, 3, none⟩ = some (.int .i64 x.n) ∧ w.cell? ⟨g, 4, none⟩ = some (.int .i64 x.d) ∧ w.cell? ⟨g, 5, none⟩ = some (.int .i64 x.main) ∧ w.cell? ⟨g, 6, none⟩ = some (.int .i64 x.deep) ∧ w.cell? ⟨g, 7, none⟩ = some (.int .i64 x.of_) ∧ w.cell? ⟨g, 8, none⟩ = some (.bool x.others) ∧ w.cell? ⟨g, 9, none⟩ = some x.open_ := by
  refine ⟨?_, ?_, ?_, ?_, ?_, ?_, ?_, ?_, ?_, ?_⟩ <;> exact cell_of_row _ _ _ _ _ _ h
theorem isRe.frozen {w : World} {g : Nat} {x : Re} (h : isRe w g x) (k : Nat) : w.frozen? ⟨g, k, none⟩ = false := frozen_of_row w g k _ _ h
theorem isRe.step {w : World} {g : Nat} {x : Re} (h : isRe w g x) (r : ByteArray) (n : Int) : isRe ((w.setCell ⟨g, 0, none⟩ (.string r)).setCell ⟨g, 1, none⟩ (.int .i64 n)) g { x with rest := r, at_ := n } := by
  unfold isRe at h ⊢; simp [World.setCell, Array.getElem?_modify, h]
/-- All as it was but block g. -/
structure Bu (g : Nat) (w w' : World) : Prop where
  os : w'.os = w.os
  tape : w'.tape = w.tape
  output : w'.output = w.output
  size : w.heap.size ≤ w'.heap.size
  block : ∀ k, k < w.heap.size → k ≠ g → w'.heap[k]? = w.heap[k]?
theorem Bu.refl (g : Nat) (w : World) : Bu g w w := ⟨rfl, rfl, rfl, Nat.le_refl _, fun _ _ _ => rfl⟩
theorem Bu.of {g : Nat} {w w' : World} (h : Below w.heap.size w w') : Bu g w w' := ⟨h.os, h.tape, h.output, h.size, fun k hk _ => h.block k hk⟩
theorem Bu.trans {g : Nat} {w w' w'' : World} (h : Bu g w w') (h' : Bu g w' w'') : Bu g w w'' := ⟨h'.os.trans h.os, h'.tape.trans h.tape, h'.output.trans h.output, Nat.le_trans h.size h'.size, fun k hk hn => (h'.block k (Nat.lt_of_lt_of_le hk h.size) hn).trans (h.block k hk hn)⟩
theorem Bu.low {g : Nat} {w w' : World} (h : Bu g w w') (hg : g < w.heap.size) : Below g w w' := ⟨h.os, h.tape, h.output, h.size, fun k hk => h.block k (Nat.lt_trans hk hg) (Nat.ne_of_lt hk)⟩
theorem Bu.put {g : Nat} {w w' : World} (h : Bu g w w') (i : Nat) (v : Value) (hg : g < w.heap.size) : Bu g w (w'.setCell ⟨g, i, none⟩ v) := by
  have hb := (h.low hg).setCell (p := ⟨g, i, none⟩) (Nat.le_refl _) v
  exact ⟨hb.os, hb.tape, hb.output, hb.size, fun k hk hn => (Below.heap_setCell _ _ _ _ (by simp only; exact fun e => hn e)).trans (h.block k hk hn)⟩
/-- The rune at hand (-1: the end; -2: a byte that is none). -/
def pkR (s : ByteArray) : Int := if (Lib.decodeGo s).1 ≠ 65533 ∨ 1 < (Lib.decodeGo s).2 then ((Lib.decodeGo s).1 : Int) else if (Lib.decodeGo s).2 = 0 then -1 else -2

set_option maxHeartbeats 1000000 in
set_option maxRecDepth 100000 in
theorem peek_any (g : Nat) (x : Re) (w : World) (h : isRe w g x) (hT : Lib.Utf8Tabs 0 1 w) :
    Calls Tryd.prog 20 #[.pointer (some ⟨g, 0, none⟩)] w fun e w' => e = .returned (.int .i32 (pkR x.rest)) ∧ Below w.heap.size w w' := by
  obtain ⟨r, hr⟩ : ∃ r, r = (Lib.decodeGo x.rest).1 := ⟨_, rfl⟩
  obtain ⟨k, hk⟩ : ∃ k, k = (Lib.decodeGo x.rest).2 := ⟨_, rfl⟩
  obtain ⟨P, hP⟩ : ∃ P, P = pkR x.rest := ⟨_, rfl⟩
  rw [← hP]
  unfold pkR at hP
  rw [← hr, ← hk] at hP
  have hD := Tryd.utf8_DecodeRuneInString x.rest w hT
  rw [← hr, ← hk] at hD
  obtain ⟨S, hS⟩ : ∃ S, S = x.rest := ⟨_, rfl⟩
  obtain ⟨c0, -⟩ := h.cells
  rw [← hS] at hD c0
  have HD := hide hD
  have HP := hide hP
  clear hD hP hr hk hS hT h
  by_cases h1 : r = 65533
  · by_cases h2 : 1 < k
    · have hPe : P = (r : Int) := by rw [unhide HP, if_pos (Or.inr h2)]
      have HPE := hide hPe
      have h2i : (1 : Int) < (k : Int) := by omega
      have hrb : ((r : Int) != 65533) = false := by simp; omega
      clear hPe h1
      go_enter Tryd.func20, Tryd.ntmps20
      go_wp2_with fail
      refine (unhide HD).mono ?_
      rintro e w2 ⟨rfl, hb2⟩
      go_wp2
      go_ret
      exact ⟨by rw [unhide HPE]; rfl, hb2⟩
    · have h2i : ¬ (1 : Int) < (k : Int) := by omega
      have hrb : ((r : Int) != 65533) = false := by simp; omega
      by_cases h3 : k = 0
      · have hPe : P = -1 := by rw [unhide HP, if_neg (by omega), if_pos h3]
        have HPE := hide hPe
        have h3b : ((k : Int) == 0) = true := by simp; omega
        have h3n : (k == 0) = true := by simp; omega
        clear hPe h3 h1
        go_enter Tryd.func20, Tryd.ntmps20
        go_wp2_with fail
        refine (unhide HD).mono ?_
        rintro e w2 ⟨rfl, hb2⟩
        go_wp2
        go_ret
        exact ⟨by rw [unhide HPE]; rfl, hb2⟩
      · have hPe : P = -2 := by rw [unhide HP, if_neg (by omega), if_neg h3]
        have HPE := hide hPe
        have h3b : ((k : Int) == 0) = false := by simp; omega
        have h3n : (k == 0) = false := by simp; omega
        clear hPe h1
        go_enter Tryd.func20, Tryd.ntmps20
        go_wp2_with fail
        refine (unhide HD).mono ?_
        rintro e w2 ⟨rfl, hb2⟩
        go_wp2
        go_ret
        exact ⟨by rw [unhide HPE]; rfl, hb2⟩
  · have hPe : P = (r : Int) := by rw [unhide HP, if_pos (Or.inl h1)]
    have HPE := hide hPe
    have hrb : ((r : Int) != 65533) = true := by simp; omega
    have hri : ¬ (r : Int) = 65533 := by omega
    clear hPe
    go_enter Tryd.func20, Tryd.ntmps20
    go_wp2_with fail
    refine (unhide HD).mono ?_
    rintro e w2 ⟨rfl, hb2⟩
    go_wp2
    go_ret
    exact ⟨by rw [unhide HPE]; rfl, hb2⟩
/-- One rune further. -/
def Re.on (x : Re) : Re := { x with rest := x.rest.extract (Lib.decodeGo x.rest).2 x.rest.size, at_ := x.at_ + 1 }

set_option maxHeartbeats 1000000 in
set_option maxRecDepth 100000 in
theorem step_any (g : Nat) (x : Re) (w : World) (h : isRe w g x) (hT : Lib.Utf8Tabs 0 1 w) (hk : (Lib.decodeGo x.rest).2 ≤ x.rest.size) (ha : 0 ≤ x.at_ ∧ x.at_ ≤ 4000000) :
    Calls Tryd.prog 32 #[.pointer (some ⟨g, 0, none⟩)] w fun e w' => e = .returned (.tuple #[]) ∧ isRe w' g x.on ∧ Bu g w w' := by
  obtain ⟨r, hr⟩ : ∃ r, r = (Lib.decodeGo x.rest).1 := ⟨_, rfl⟩
  obtain ⟨k, hkk⟩ : ∃ k, k = (Lib.decodeGo x.rest).2 := ⟨_, rfl⟩
  have hD := Tryd.utf8_DecodeRuneInString x.rest w hT
  rw [← hr, ← hkk] at hD
  rw [← hkk] at hk
  have hglt := h.lt
  have hon : x.on = { x with rest := x.rest.extract k x.rest.size, at_ := x.at_ + 1 } := by unfold Re.on; rw [← hkk]
  obtain ⟨S, hS⟩ : ∃ S, S = x.rest := ⟨_, rfl⟩
  obtain ⟨a, haa⟩ : ∃ a, a = x.at_ := ⟨_, rfl⟩
  obtain ⟨c0, -⟩ := h.cells
  rw [← hS] at hD c0 hk hon
  rw [← haa] at ha hon
  have hki : (k : Int) ≤ (S.size : Int) := by omega
  have HD := hide hD
  have HON := hide hon
  have HRE := hide h
  have HS := hide hS
  have HAA := hide haa
  clear hD hr hkk hon hS haa hT h
  go_enter Tryd.func32, Tryd.ntmps32
  go_wp2_with fail
  refine (unhide HD).mono ?_
  rintro e w2 ⟨rfl, hb2⟩
  have h2 := (unhide HRE).below hb2 hglt
  obtain ⟨d0, d1, -⟩ := h2.cells
  rw [← unhide HS] at d0
  rw [← unhide HAA] at d1
  have f0 := h2.frozen 0
  have f1 := h2.frozen 1
  have hfin := h2.step (S.extract k S.size) (a + 1)
  rw [← unhide HON] at hfin
  have HFIN := hide hfin
  have HBU := hide (((Bu.of (g := g) hb2).put 0 (.string (S.extract k S.size)) hglt).put 1 (.int .i64 (a + 1)) hglt)
  clear c0 h2 hfin hb2
  go_wp2
  refine bodyPost_end (v := .tuple #[]) (by simp [results, Tryd.results32]) rfl ⟨rfl, unhide HFIN, unhide HBU⟩
end Go.Proofs.YtdibjdpnleepmacDoor
