/-
  Ratings, result by result (plain mathematics); floats in memory; package tourney, walked: areRatings.
-/
import Derived.Test.YtdpjkfmhmjgokaaY13
import Derived.Test.YtdpjkfmhmjgokaaY3
namespace Go.Proofs.Ytdpjkfmhmjgokaa
open Go.RowKit Ieee
attribute [local go_sem ↓] Go.wp_at_zero Go.wp_at_succ

def addF (a c : Nat) : Nat := (double.add a c).getD 0
def subF (a c : Nat) : Nat := (double.sub a c).getD 0
/-- One result more. -/
def stp (k : Nat) (xs : List Nat) (r : Re) : List Nat := (xs.set r.a.toNat (addF xs[r.a.toNat]! (chg xs[r.a.toNat]! xs[r.b.toNat]! r.h k))).set r.b.toNat (subF xs[r.b.toNat]! (chg xs[r.a.toNat]! xs[r.b.toNat]! r.h k))
def rat (k : Nat) (xs : List Nat) (l : List Re) : List Nat := l.foldl (stp k) xs
theorem stp_len (k : Nat) (xs : List Nat) (r : Re) : (stp k xs r).length = xs.length := by simp [stp]
theorem rat_len (k : Nat) : ∀ (l : List Re) (xs : List Nat), (rat k xs l).length = xs.length
  | [], _ => rfl
  | r :: l, xs => by
    have := rat_len k l (stp k xs r)
    rw [stp_len] at this
    exact this
theorem rat_snoc (k : Nat) (xs : List Nat) (l : List Re) (i : Nat) (z : Re) (h : l[i]? = some z) : rat k xs (l.take (i + 1)) = stp k (rat k xs (l.take i)) z := by
  rw [List.take_add_one, h, Option.toList_some]
  unfold rat
  rw [List.foldl_append]
  rfl
theorem get_mem {xs : List Nat} {i : Nat} (h : i < xs.length) : xs[i]! ∈ xs := by rw [getElem!_pos xs i h]; exact List.getElem_mem h
theorem stp_fl {k n : Nat} {xs : List Nat} (hk : Fl k 1000000) (hx : ∀ x ∈ xs, Fl x n) (h0 : 0 < n) (hn : n < 2 ^ 51) {r : Re} (hr : okRe xs.length r) : ∀ x ∈ stp k xs r, Fl x (n + 1000000) := by
  obtain ⟨h1, h2, h3, h4, h5, h6, h7⟩ := hr
  have ha := hx _ (get_mem (xs := xs) (i := r.a.toNat) (by omega))
  have hb := hx _ (get_mem (xs := xs) (i := r.b.toNat) (by omega))
  obtain ⟨-, -, -, -, -, -, -, -, -, -, -, -, hc⟩ := chg_ok ha hb r.h hk h0 (by omega)
  obtain ⟨za, ea, fa⟩ := Fl.add ha hc (by omega) (by omega)
  obtain ⟨zb, eb, fb⟩ := Fl.sub hb hc (by omega) (by omega)
  intro x hx2
  unfold stp at hx2
  rcases List.mem_or_eq_of_mem_set hx2 with h | h
  · rcases List.mem_or_eq_of_mem_set h with h | h
    · exact (hx x h).mono (by omega)
    · rw [h]; unfold addF; rw [ea]; exact fa
  · rw [h]; unfold subF; rw [eb]; exact fb
theorem rat_fl {k : Nat} {xs : List Nat} {l : List Re} (hk : Fl k 1000000) (hx : ∀ x ∈ xs, Fl x 1000000) (hl : okL xs.length l) : ∀ i, i ≤ l.length → ∀ x ∈ rat k xs (l.take i), Fl x (1000000 * (i + 1))
  | 0, _ => by simpa [rat] using hx
  | i + 1, hi => by
    have ih := rat_fl hk hx hl i (by omega)
    have hl1 := hl.1
    have hz : l[i]? = some l[i] := List.getElem?_eq_getElem (by omega)
    rw [rat_snoc k xs l i _ hz]
    have := stp_fl hk ih (by omega) (by omega) (r := l[i]) (by rw [rat_len]; exact hl.2 _ (List.getElem_mem _))
    intro x hx2
    exact (this x hx2).mono (by omega)

/-- The cells of a row of floats. -/
def fvs (l : List Nat) : List Value := l.map fun x => Value.float .f64 x
theorem fvs_len (l : List Nat) : (fvs l).length = l.length := List.length_map _
/-- A row of floats of the call's own. -/
structure FlR (u : World) (base g cap : Nat) (xs : List Nat) : Prop where
  row : u.ownsRow base 24 1 (.slice (some ⟨g, 0, none⟩) xs.length cap) xs.length (fvs xs)
section
variable {u u' : World} {base g cap : Nat} {xs : List Nat}
theorem FlR.lt (h : FlR u base g cap xs) : base ≤ g ∧ g < u.heap.size := row_block h.row rfl
theorem FlR.cell (h : FlR u base g cap xs) {i : Nat} (hi : i < xs.length) : u.cell? ⟨g, i, none⟩ = some (.float .f64 xs[i]!) ∧ u.frozen? ⟨g, i, none⟩ = false := by
  refine ⟨?_, h.row.frozenAt _⟩
  rw [h.row.cellAt i (by omega), getElem!_pos xs i hi]
  simp [fvs, hi]
theorem FlR.keep (h : FlR u base g cap xs) (hk : u'.heap[g]? = u.heap[g]?) : FlR u' base g cap xs := ⟨row_keep h.row fun k hg => by simp only [Value.ownBlock, Option.some.injEq] at hg; rw [← hg]; exact hk⟩
theorem FlR.below (h : FlR u base g cap xs) (hb : Below u.heap.size u u') : FlR u' base g cap xs := h.keep (hb.block g h.lt.2)
theorem FlR.put (h : FlR u base g cap xs) (i v : Nat) : FlR (u.setCell ⟨g, i, none⟩ (.float .f64 v)) base g cap (xs.set i v) ∧ u.grownBy (u.setCell ⟨g, i, none⟩ (.float .f64 v)) (some g) := by
  obtain ⟨h1, h2⟩ := h.row.stored i (.float .f64 v)
  refine ⟨⟨?_⟩, h2⟩
  rw [List.length_set, show fvs (xs.set i v) = (fvs xs).set i (.float .f64 v) by simp [fvs, List.map_set]]
  exact h1
end
/-- Floats in memory, in a block below B. -/
structure isFs (w : World) (B : Nat) (ao : Option Addr) (cap : Nat) (l : List Nat) : Prop where
  le : l.length ≤ cap
  mx : cap ≤ maxLen
  nil : ao = none → cap = 0
  cells : l ≠ [] → ∃ g off, ao = some ⟨g, off, none⟩ ∧ g < B ∧ ∀ (i x : Nat), l[i]? = some x → w.cell? ⟨g, off + i, none⟩ = some (.float .f64 x)
theorem isFs.keep {w w' : World} {B B' : Nat} {ao : Option Addr} {cap : Nat} {l : List Nat} (h : isFs w B ao cap l) (hk : ∀ k, k < B → w'.heap[k]? = w.heap[k]?) (hB : B ≤ B') : isFs w' B' ao cap l := by
  refine ⟨h.le, h.mx, h.nil, fun hl => ?_⟩
  obtain ⟨g, off, e, hg, hc⟩ := h.cells hl
  have key : ∀ j, w'.cell? ⟨g, j, none⟩ = w.cell? ⟨g, j, none⟩ := fun j => by unfold World.cell?; simp only; rw [hk g hg]
  refine ⟨g, off, e, by omega, fun i z hz => ?_⟩
  rw [key]
  exact hc i z hz
theorem isFs.below {w w' : World} {B B' : Nat} {ao : Option Addr} {cap : Nat} {l : List Nat} (h : isFs w B ao cap l) (hb : Below B' w w') (hB : B ≤ B') : isFs w' B ao cap l := h.keep (fun k hk => hb.block k (by omega)) (Nat.le_refl _)
theorem isFs.at_ {w : World} {B : Nat} {ao : Option Addr} {cap : Nat} {l : List Nat} (h : isFs w B ao cap l) {i x : Nat} (hx : l[i]? = some x) : ∃ g off, ao = some ⟨g, off, none⟩ ∧ g < B ∧ w.cell? ⟨g, off + i, none⟩ = some (.float .f64 x) := by
  obtain ⟨g, off, e, hg, hc⟩ := h.cells (by rintro rfl; simp at hx)
  exact ⟨g, off, e, hg, hc i x hx⟩

def fairL (l : List Nat) : Bool := l.all fairB
theorem fairL_take {l : List Nat} {k x : Nat} (h : l[k]? = some x) : (l.take (k + 1)).all fairB = ((l.take k).all fairB && fairB x) := by
  rw [List.take_add_one, h, Option.toList_some, List.all_append]
  simp
set_option maxHeartbeats 1000000 in
theorem areRatings_any (l : List Nat) (ao : Option Addr) (cap : Nat) (w : World) (h : isFs w w.heap.size ao cap l) :
    Calls Try.prog 21 #[.slice ao l.length cap] w fun e w' => e = .returned (.bool (fairL l)) ∧ w' = w := by
  obtain ⟨N, hN⟩ : ∃ N, N = l.length := ⟨_, rfl⟩
  have HR := hide h
  have HN := hide hN
  have hcap := h.mx
  have hle := h.le
  rw [← hN] at hle ⊢
  unfold maxLen at hcap
  clear hN h
  go_enter Try.func21, Try.ntmps21
  go_wp2
  go_loopw [7] (fun iv wr => ∃ k : Nat, k ≤ N ∧ iv = .int .i64 (k : Int) ∧ (l.take k).all fairB = true ∧ wr = w) (fun iv _ => N - (intOf iv).toNat)
  case atStart => exact ⟨0, Nat.zero_le _, rfl, by simp, rfl⟩
  case round =>
    obtain ⟨k, hk, rfl, hall, rfl⟩ := hrel
    by_cases hlt : k < N
    · have hlti : (k : Int) < (N : Int) := by omega
      have hk0 : (0 : Int) ≤ (k : Int) := by omega
      obtain ⟨x, hx⟩ : ∃ x, l[k]? = some x := ⟨_, List.getElem?_eq_getElem (by rw [← unhide HN]; exact hlt)⟩
      obtain ⟨g, off, rfl, hg, c0⟩ := (unhide HR).at_ hx
      obtain ⟨B, hB⟩ : ∃ B, B = fairB x := ⟨_, rfl⟩
      have HC := isRating_any x wr
      rw [← hB] at HC
      have HS : Hid (B = true → (l.take (k + 1)).all fairB = true) := hide (fun hb => by rw [fairL_take hx, hall, ← hB, hb]; rfl)
      have HNO : Hid (B = false → false = fairL l) := hide (fun hb => by
        unfold fairL
        rw [eq_comm, List.all_eq_false]
        exact ⟨x, List.mem_of_getElem? hx, by rw [← hB, hb]; simp⟩)
      clear hall hx hB
      go_wp2_with fail
      refine HC.mono ?_
      rintro e w1 ⟨rfl, rfl⟩
      cases B
      · go_wp2
        go_ret
        exact ⟨ret_bool (unhide HNO (by first | rfl | trivial)), rfl⟩
      · go_wp2
        go_roundw
        case rel => exact ⟨k + 1, by omega, by go_num, unhide HS (by first | rfl | trivial), by first | rfl | trivial⟩
        case measure => simp only [intOf]; omega
    · have hlti : ¬ (k : Int) < (N : Int) := by omega
      have HE : Hid (true = fairL l) := hide (by
        rw [List.take_of_length_le (by have := unhide HN; omega)] at hall
        exact hall.symm)
      clear hall
      go_wp2
      go_ret
      exact ⟨ret_bool (unhide HE), rfl⟩
end Go.Proofs.Ytdpjkfmhmjgokaa
