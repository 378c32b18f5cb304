/-
  package nim, walked: graphs in memory; most, check.
-/
import Derived.Test.YtphnjedoghopcaaProg
import Derived.Test.YtphnjedoghopcaaM41
import Derived.WalkKit
import Derived.WalkSpells
import Derived.WalkLawsBesides
import Derived.Deep.QuietTactic
import Derived.BigQuiet
import Derived.Below
import Derived.Laws.OwnMore
import Derived.OwnWalk
import Derived.Deep.Cut
import Derived.Deep.DrawnRows
namespace Go.Proofs.Ytphnjedoghopcaa
open Go.RowKit
attribute [local go_sem ↓] Go.wp_at_zero Go.wp_at_succ

theorem hide {p : Prop} (h : p) : Hid p := h
theorem unhide {p : Prop} (h : Hid p) : p := h
theorem ret_bool {a b : Bool} (h : a = b) : Ending.returned (.bool a) = .returned (.bool b) := by rw [h]
theorem ret_int {k : IntKind} {a b : Int} (h : a = b) : Ending.returned (.int k a) = .returned (.int k b) := by rw [h]
theorem undrew {B : Nat} {w w' : World} (h : Below B w.drew w') : Below B w w' := ⟨h.os, h.tape, h.output, h.size, h.block⟩

/-- Numbers in memory, in a block below B. -/
def isIs (w : World) (B : Nat) (ao : Option Addr) (cap : Nat) (r : List Int) : Prop := r.length ≤ cap ∧ cap ≤ maxLen ∧ (r ≠ [] → ∃ g off, ao = some ⟨g, off, none⟩ ∧ g < B ∧ ∀ (k : Nat) (x : Int), r[k]? = some x → w.cell? ⟨g, off + k, none⟩ = some (.int .i64 x))
/-- Lists of them. -/
def isG (w : World) (B : Nat) (ao : Option Addr) (cap : Nat) (G : List (List Int)) : Prop := G.length ≤ cap ∧ cap ≤ maxLen ∧ (G ≠ [] → ∃ g off, ao = some ⟨g, off, none⟩ ∧ g < B ∧ ∀ (i : Nat) (r : List Int), G[i]? = some r → ∃ ro rc, w.cell? ⟨g, off + i, none⟩ = some (.slice ro r.length rc) ∧ isIs w B ro rc r)
theorem isIs.keep {w w' : World} {B B' : Nat} {ao : Option Addr} {cap : Nat} {r : List Int} (h : isIs w B ao cap r) (hk : ∀ k, k < B → w'.heap[k]? = w.heap[k]?) (hB : B ≤ B') : isIs w' B' ao cap r := by
  obtain ⟨h1, h2, h3⟩ := h
  refine ⟨h1, h2, fun hr => ?_⟩
  obtain ⟨g, off, e, hg, hc⟩ := h3 hr
  refine ⟨g, off, e, by omega, fun k x hx => ?_⟩
  have := hc k x hx
  unfold World.cell? at this ⊢
  simp only at this ⊢
  rw [hk g hg]
  exact this
theorem isG.keep {w w' : World} {B B' : Nat} {ao : Option Addr} {cap : Nat} {G : List (List Int)} (h : isG w B ao cap G) (hk : ∀ k, k < B → w'.heap[k]? = w.heap[k]?) (hB : B ≤ B') : isG w' B' ao cap G := by
  obtain ⟨h1, h2, h3⟩ := h
  refine ⟨h1, h2, fun hr => ?_⟩
  obtain ⟨g, off, e, hg, hc⟩ := h3 hr
  refine ⟨g, off, e, by omega, fun i r hr => ?_⟩
  obtain ⟨ro, rc, h4, h5⟩ := hc i r hr
  refine ⟨ro, rc, ?_, h5.keep hk hB⟩
  unfold World.cell? at h4 ⊢
  simp only at h4 ⊢
  rw [hk g hg]
  exact h4
theorem isG.below {w w' : World} {B B' : Nat} {ao : Option Addr} {cap : Nat} {G : List (List Int)} (h : isG w B ao cap G) (hb : Below B' w w') (hB : B ≤ B') : isG w' B ao cap G := h.keep (fun k hk => hb.block k (by omega)) (Nat.le_refl _)
theorem isG.at_ {w : World} {B : Nat} {ao : Option Addr} {cap : Nat} {G : List (List Int)} (h : isG w B ao cap G) {i : Nat} {r : List Int} (hr : G[i]? = some r) : ∃ g off ro rc, ao = some ⟨g, off, none⟩ ∧ g < B ∧ w.cell? ⟨g, off + i, none⟩ = some (.slice ro r.length rc) ∧ isIs w B ro rc r := by
  obtain ⟨g, off, e, hg, hc⟩ := h.2.2 (by rintro rfl; simp at hr)
  obtain ⟨ro, rc, h4, h5⟩ := hc i r hr
  exact ⟨g, off, ro, rc, e, hg, h4, h5⟩
theorem isIs.at_ {w : World} {B : Nat} {ao : Option Addr} {cap : Nat} {r : List Int} (h : isIs w B ao cap r) {k : Nat} {x : Int} (hx : r[k]? = some x) : ∃ g off, ao = some ⟨g, off, none⟩ ∧ g < B ∧ w.cell? ⟨g, off + k, none⟩ = some (.int .i64 x) := by
  obtain ⟨g, off, e, hg, hc⟩ := h.2.2 (by rintro rfl; simp at hx)
  exact ⟨g, off, e, hg, hc k x hx⟩

/-- How many others one has at most. -/
def mostN (G : List (List Int)) : Nat := G.foldl (fun n r => max n r.length) 0
theorem mostN_snoc (G : List (List Int)) (r : List Int) : mostN (G ++ [r]) = max (mostN G) r.length := by simp [mostN]

set_option maxHeartbeats 1000000 in
set_option maxRecDepth 100000 in
theorem most_any (B : Nat) (ao : Option Addr) (cap : Nat) (G : List (List Int)) (w : World) (h : isG w B ao cap G) :
    Calls Try.prog 34 #[.slice ao G.length cap] w fun e w' => e = .returned (.int .i64 (mostN G : Int)) ∧ w' = w := by
  have hle := h.1
  have hmx := h.2.1
  unfold maxLen at hmx
  have HG := hide h
  clear h
  go_enter Try.func34, Try.ntmps34
  go_wp2
  go_loop [3, 8] (fun n i => ∃ k : Nat, k ≤ G.length ∧ i = .int .i64 (k : Int) ∧ n = .int .i64 (mostN (G.take k) : Int)) (fun _ i => G.length - (intOf i).toNat)
  case atStart => exact ⟨0, Nat.zero_le _, rfl, rfl⟩
  case round =>
    obtain ⟨k, hk, rfl, rfl⟩ := hrel
    by_cases hlt : k < G.length
    · have hlti : (k : Int) < (G.length : Int) := by omega
      have hk0 : (0 : Int) ≤ (k : Int) := by omega
      have hr := List.getElem?_eq_getElem hlt
      obtain ⟨g, off, ro, rc, e, hg, c0, hI⟩ := (unhide HG).at_ hr
      subst e
      have hsn : mostN (G.take (k + 1)) = max (mostN (G.take k)) (G[k]).length := by rw [List.take_succ_eq_append_getElem hlt, mostN_snoc]
      have HSN := hide hsn
      clear hsn hr
      generalize G[k] = r at *
      have hrl := hI.1
      have hrm := hI.2.1
      unfold maxLen at hrm
      have HI := hide hI
      clear hI
      go_wp2
      go_round
      case rel => exact ⟨k + 1, by omega, by go_num, by rw [unhide HSN]; go_num⟩
      case measure => simp only [intOf]; omega
    · have hlti : ¬ (k : Int) < (G.length : Int) := by omega
      go_wp2
      go_ret
      exact ⟨ret_int (by rw [List.take_of_length_le (by omega)]), rfl⟩
end Go.Proofs.Ytphnjedoghopcaa
