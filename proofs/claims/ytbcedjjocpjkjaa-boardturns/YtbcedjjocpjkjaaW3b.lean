/-
  board.copied, walked: the same two texts; of what was there nothing has turned.
-/
import Derived.Test.YtbcedjjocpjkjaaW3
namespace Go.Proofs.Ytbcedjjocpjkjaa
open Go.RowKit
attribute [local go_sem ↓] Go.wp_at_zero Go.wp_at_succ

set_option maxHeartbeats 2000000 in
set_option maxRecDepth 100000 in
theorem copied_any (A B : ByteArray) (w : World) (hA : A.size ≤ 8) (hB : B.size ≤ 8) :
    Calls Try.prog 34 #[.agg #[.string A, .string B]] w fun e w' => e = .returned (.agg #[.string A, .string B]) ∧ Below w.heap.size w w' := by
  have hA' : A.size ≤ maxLen := by unfold maxLen; omega
  have hB' : B.size ≤ maxLen := by unfold maxLen; omega
  go_enter Try.func34, Try.ntmps34
  go_wp2_with fail
  have hb0 : Below w.heap.size w ((w.alloc (Obj.cells #[Value.string A, Value.string B] 22)).alloc (Obj.cells #[Value.string ⟨#[]⟩, Value.string ⟨#[]⟩] 22)) := ((Below.refl _ _).alloc (Nat.le_refl _) _).alloc (by simp) _
  go_region_held3 (fun w' => w'.cell? ⟨w.heap.size, 0, none⟩ = some (.string A) ∧ w'.cell? ⟨w.heap.size, 1, none⟩ = some (.string B) ∧ Below w.heap.size w w' ∧ w.heap.size + 1 < w'.heap.size)
    (first
      | (go_keep; done)
      | ((try go_split_ands); (try dsimp only); (repeat' apply And.intro) <;> first
           | (go_keep; done)
           | exact hb0.drew
           | (rw [hb.cell (by dsimp only; omega)]; assumption)
           | exact Below.trans (by assumption) (hb.mono (by omega))
           | exact Below.setCell (Below.setCell (by assumption) (by dsimp only; omega) _) (by dsimp only; omega) _
           | exact Nat.lt_of_lt_of_le (by assumption) hb.size))
    (first | (go_at_call 60; refine (Clone_any A _ hA' (by omega)).mono ?_; rintro e w' ⟨rfl, hb⟩; have hz := Nat.lt_of_lt_of_le (show w.heap.size + 1 < _ by first | (simp; done) | (simp; omega) | assumption) hb.size; have q0 := hb.cell (p := ⟨w.heap.size + 1, 0, none⟩) (by first | (simp; done) | (simp; omega) | assumption); have q1 := hb.cell (p := ⟨w.heap.size + 1, 1, none⟩) (by first | (simp; done) | (simp; omega) | assumption); have f0 := hb.frozen (p := ⟨w.heap.size + 1, 0, none⟩) (by first | (simp; done) | (simp; omega) | assumption); have f1 := hb.frozen (p := ⟨w.heap.size + 1, 1, none⟩) (by first | (simp; done) | (simp; omega) | assumption)) | (go_at_call 60; refine (Clone_any B _ hB' (by omega)).mono ?_; rintro e w' ⟨rfl, hb⟩; have hz := Nat.lt_of_lt_of_le (show w.heap.size + 1 < _ by first | (simp; done) | (simp; omega) | assumption) hb.size; have q0 := hb.cell (p := ⟨w.heap.size + 1, 0, none⟩) (by first | (simp; done) | (simp; omega) | assumption); have q1 := hb.cell (p := ⟨w.heap.size + 1, 1, none⟩) (by first | (simp; done) | (simp; omega) | assumption); have f0 := hb.frozen (p := ⟨w.heap.size + 1, 0, none⟩) (by first | (simp; done) | (simp; omega) | assumption); have f1 := hb.frozen (p := ⟨w.heap.size + 1, 1, none⟩) (by first | (simp; done) | (simp; omega) | assumption)))
  go_wp2
  rename_i hH
  exact bodyPost_ret (v := .agg #[.string A, .string B]) (by clear hH hb; simp [results, Try.results34, go_sem, *]) rfl ⟨rfl, hH.2.2.1⟩
end Go.Proofs.Ytbcedjjocpjkjaa
