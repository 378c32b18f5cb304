/-
  board.fromBottom, walked: the rows from the bottom one up, one behind the other.
-/
import Derived.Test.YtbcedjjocpjkjaaDoorW41
namespace Go.Proofs.YtbcedjjocpjkjaaDoor
open Go.RowKit

def rvals (R : List (List UInt8)) : List Value := R.map fun r => Value.string ⟨r.toArray⟩

theorem flat_bound : ∀ (R : List (List UInt8)), (∀ r ∈ R, r.length ≤ 8) → R.flatten.length ≤ R.length * 8
  | [], _ => by simp
  | a :: R, h => by
    have h1 := h a (by simp)
    have h2 := flat_bound R (fun r hr => h r (by simp [hr]))
    simp only [List.flatten_cons, List.length_append, List.length_cons, Nat.add_mul, Nat.one_mul]; omega

set_option maxHeartbeats 1000000 in
theorem fromBottom_any (R : List (List UInt8)) (base g cap : Nat) (w : World) (hown : w.ownsRow base 9 1 (.slice (some ⟨g, 0, none⟩) R.length cap) R.length (rvals R)) (h0 : 0 < R.length) (h8 : R.length ≤ 8) (hr8 : ∀ r ∈ R, r.length ≤ 8) :
    Calls Tryd.prog 26 #[.slice (some ⟨g, 0, none⟩) R.length cap] w fun e w' => e = .returned (.string ⟨R.reverse.flatten.toArray⟩) ∧ Below w.heap.size w w' := by
  have hgl : g < w.heap.size := (hown.lt g rfl).2
  have hcell : ∀ (k : Nat) (r : List UInt8), R[k]? = some r → w.cell? ⟨g, k, none⟩ = some (.string ⟨r.toArray⟩) := by
    intro k r hr
    have hk : k < R.length := (List.getElem?_eq_some_iff.1 hr).1
    rw [World.ownsRow.cellAt hown k (by omega)]
    simp [rvals, hr]
  have HC := hide hcell
  have H8 := hide hr8
  clear hcell hr8
  obtain ⟨n, hn⟩ : ∃ n, n = R.length := ⟨_, rfl⟩
  rw [← hn] at h0 h8 ⊢
  have HN := hide hn
  clear hn hown
  go_enter Tryd.func26, Tryd.ntmps26
  go_wp2
  have hfr := Bld.fresh w
  go_loopw [4] (fun i wr => ∃ (k : Nat), k ≤ n ∧ i = .int .i64 ((k : Int) - 1) ∧ Bld w.heap.size (R.drop k).reverse.flatten wr ∧ Below w.heap.size w wr) (fun i _ => (intOf i + 1).toNat)
  case atStart => exact ⟨n, Nat.le_refl _, by go_num, by rw [unhide HN, List.drop_length]; exact hfr, (Below.refl _ _).alloc (Nat.le_refl _) _⟩
  case round =>
    obtain ⟨k, hk, rfl, hbl, hbr⟩ := hrel
    clear hfr
    cases k with
    | zero =>
      go_wp2_with fail
      refine (String_any _ _ _ hbl).mono ?_
      rintro e w2 ⟨rfl, hb2⟩
      go_wp2
      go_ret
      exact ⟨rfl, hbr.trans hb2⟩
    | succ j =>
      have hji : ((j + 1 : Nat) : Int) - 1 = (j : Int) := by omega
      rw [hji]
      clear hji
      have hjR : j < R.length := by rw [← unhide HN]; omega
      obtain ⟨r, hr⟩ : ∃ r, R[j]? = some r := ⟨R[j], List.getElem?_eq_getElem hjR⟩
      have hrl : r.length ≤ 8 := unhide H8 r (List.mem_of_getElem? hr)
      have c := (hbr.cell (p := ⟨g, j, none⟩) (by dsimp only; omega)).trans (unhide HC j r hr)
      have hpl : (R.drop (j + 1)).reverse.flatten.length < 1000000 := by
        have h1 := flat_bound (R.drop (j + 1)).reverse (fun x hx => unhide H8 x (List.mem_of_mem_drop (by simpa using hx)))
        have h2 : (R.drop (j + 1)).reverse.length ≤ 8 := by rw [List.length_reverse, List.length_drop, ← unhide HN]; omega
        have h3 := Nat.mul_le_mul_right 8 h2
        omega
      have hnext : (R.drop (j + 1)).reverse.flatten ++ r = (R.drop j).reverse.flatten := by
        have : R.drop j = r :: R.drop (j + 1) := by
          rw [List.drop_eq_getElem_cons hjR]
          rw [List.getElem?_eq_getElem hjR] at hr
          rw [Option.some.inj hr]
        rw [this]; simp
      have HNX := hide hnext
      clear hnext hr
      have hrs : (⟨r.toArray⟩ : ByteArray).size < 1000000 := by show r.toArray.size < _; simp; omega
      go_wp2_with fail
      refine (WriteString_any _ _ ⟨r.toArray⟩ _ hbl hpl hrs).mono ?_
      rintro e w2 ⟨rfl, hbl2, hb2⟩
      have hbr2 := hbr.trans hb2
      go_wp2
      go_roundw
      case rel => exact ⟨j, by omega, by go_num, by rw [← unhide HNX]; simpa using hbl2, hbr2⟩
      case measure => simp [intOf]
end Go.Proofs.YtbcedjjocpjkjaaDoor
