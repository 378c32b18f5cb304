/-
  strings.Split at one byte: the pieces.
-/
import Derived.Test.YtbcedjjocpjkjaaDoorM8
import Derived.Test.YtbcedjjocpjkjaaDoorW46
import Derived.Test.YtbcedjjocpjkjaaDoorShelf
import Derived.Lib.SplitLaws
import Derived.Lib.IndexBytes
namespace Go.Proofs.YtbcedjjocpjkjaaDoor
open Go.RowKit

theorem splitK_spl (c : UInt8) : ∀ (k : Nat) (l : List UInt8), l.count c = k → Lib.splitK [c] 0 k l = spl c l := by
  intro k
  induction k with
  | zero =>
    intro l h
    rw [spl_nomem c l (fun hm => by have := List.count_pos_iff.2 hm; omega)]
    rfl
  | succ k ih =>
    intro l h
    have hmem : c ∈ l := List.count_pos_iff.1 (by omega)
    have hge := Lib.indexByte_ge l c
    rcases Int.lt_or_le (Lib.indexByte l c) 0 with hneg | hpos
    · have h1 : Lib.indexByte l c = -1 := by omega
      obtain ⟨j, hj, he⟩ := List.getElem_of_mem hmem
      exact absurd (by rw [List.getElem?_eq_getElem hj, he]) (Lib.indexByte_none h1 j)
    · obtain ⟨i, hi⟩ := Int.eq_ofNat_of_zero_le hpos
      obtain ⟨h1, h2⟩ := Lib.indexByte_some hi
      obtain ⟨hlt, he⟩ := List.getElem?_eq_some_iff.1 h1
      have hl : l = l.take i ++ c :: l.drop (i + 1) := by
        conv => lhs; rw [← List.take_append_drop i l, List.drop_eq_getElem_cons hlt, he]
      have hno : c ∉ l.take i := by
        intro hm
        obtain ⟨j, hj, he2⟩ := List.getElem_of_mem hm
        have hji : j < i := by rw [List.length_take] at hj; omega
        refine h2 j hji ?_
        rw [← he2, List.getElem_take, List.getElem?_eq_getElem]
      have hcnt : (l.drop (i + 1)).count c = k := by
        rw [hl, List.count_append, List.count_cons_self, List.count_eq_zero.2 hno] at h
        omega
      have hix : Lib.index l [c] = (i : Int) := by rw [Lib.index_one, hi]
      rw [Lib.splitK, hix, if_neg (by simp), ]
      have e1 : ((i : Int)).toNat = i := by simp
      simp only [e1, Nat.add_zero, List.length_cons, List.length_nil, Nat.zero_add]
      rw [ih _ hcnt]
      conv => rhs; rw [hl]
      rw [spl_app, spl_nomem c _ hno]
      rfl

/-- A row of texts in block g. -/
def isRv (w : World) (g : Nat) (R : List (List UInt8)) : Prop := w.heap[g]? = some (.cells (rvals R).toArray 9 (0, 0))
theorem isRv.cell {w : World} {g : Nat} {R : List (List UInt8)} (h : isRv w g R) {k : Nat} {r : List UInt8} (hk : R[k]? = some r) : w.cell? ⟨g, k, none⟩ = some (.string ⟨r.toArray⟩) := by
  unfold isRv at h
  simp [World.cell?, h, rvals, hk]
theorem isRv.lt {w : World} {g : Nat} {R : List (List UInt8)} (h : isRv w g R) : g < w.heap.size := by
  rcases Nat.lt_or_ge g w.heap.size with h' | h'
  · exact h'
  · unfold isRv at h; simp [Array.getElem?_eq_none h'] at h
theorem isRv.below {w w' : World} {g B : Nat} {R : List (List UInt8)} (h : isRv w g R) (k : Below B w w') (hg : g < B) : isRv w' g R := by
  unfold isRv at h ⊢; rw [k.block g hg, h]
theorem isRv.drewN {w : World} {g : Nat} {R : List (List UInt8)} (h : isRv w g R) (n : Nat) : isRv (w.drewN n) g R := h

theorem Split_any (s : ByteArray) (c : UInt8) (m : Int) (w : World) (hs : s.size < 2000000) (hm : w.cell? ⟨0, 0, none⟩ = some (.int .i64 m)) :
    Calls Tryd.prog 16 #[.string s, .string ⟨#[c]⟩] w fun e w' => e = .returned (.slice (some ⟨w.heap.size, 0, none⟩) (spl c s.data.toList).length (spl c s.data.toList).length) ∧ Below w.heap.size w w' ∧ isRv w' w.heap.size (spl c s.data.toList) := by
  have hcnt : Lib.countB s ⟨#[c]⟩ = s.data.toList.count c := Lib.count_one c s.data.toList
  have hlen := Lib.splitB_all ⟨#[c]⟩ (Nat.le_refl 1) 0 _ s rfl
  have hdat := Lib.splitB_data ⟨#[c]⟩ 0 (Lib.countB s ⟨#[c]⟩) s
  have hsp : (Lib.splitB ⟨#[c]⟩ 0 (Lib.countB s ⟨#[c]⟩) s).map (·.data.toList) = spl c s.data.toList := by
    rw [hdat, hcnt]; exact splitK_spl c _ _ rfl
  have hn : Lib.countB s ⟨#[c]⟩ + 1 = (spl c s.data.toList).length := by rw [← hsp, List.length_map, hlen]
  have hv : (Lib.splitB ⟨#[c]⟩ 0 (Lib.countB s ⟨#[c]⟩) s).map Value.string = rvals (spl c s.data.toList) := by
    rw [← hsp, rvals, List.map_map]
    rfl
  refine (Tryd.strings_Split s ⟨#[c]⟩ m w (by omega) hm (Nat.le_refl 1)).mono ?_
  rintro e w' ⟨rfl, rfl⟩
  rw [hn, hv]
  exact ⟨rfl, (Below.refl _ _).alloc (Nat.le_refl _) _, heap_alloc_new w _⟩
end Go.Proofs.YtbcedjjocpjkjaaDoor
