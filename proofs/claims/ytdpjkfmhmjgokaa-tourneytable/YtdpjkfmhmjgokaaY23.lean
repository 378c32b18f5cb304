/-
  The law's Same at floats, walked.
-/
import Derived.Test.YtdpjkfmhmjgokaaY16
namespace Go.Proofs.Ytdpjkfmhmjgokaa
open Go.RowKit Ieee
attribute [local go_sem ↓] Go.wp_at_zero Go.wp_at_succ

/-- A row of floats read: where it lies. -/
theorem rowF_read {w : World} {base : Nat} {xs : List Nat} {v : Value} (h : w.ownsRow base 24 1 v xs.length (fvs xs)) : ∃ o c, v = .slice o xs.length c ∧ xs.length ≤ c ∧ c ≤ maxLen ∧ ∀ (k x : Nat), xs[k]? = some x → ∃ g, o = some ⟨g, 0, none⟩ ∧ ∀ u, Below w.heap.size w u → u.cell? ⟨g, k, none⟩ = some (.float .f64 x) := by
  rcases h.2 with ⟨e1, h0⟩ | ⟨g, cap, cur, e1, hb1, hg, h1, h2, -⟩
  · refine ⟨none, 0, by rw [e1, h0], by omega, by unfold maxLen; omega, fun k e hk => ?_⟩
    have := (List.getElem?_eq_some_iff.1 hk).1
    omega
  · subst e1
    refine ⟨_, cap, rfl, h1, h2, fun k e hk => ⟨g, rfl, fun u hu => ?_⟩⟩
    have hkl := (List.getElem?_eq_some_iff.1 hk).1
    have hgl : g < w.heap.size := (Array.getElem?_eq_some_iff.1 hg).1
    rw [World.cell?_of_block (a := ⟨g, k, none⟩) (hu.block g hgl), h.cellAt k (by omega)]
    unfold fvs
    rw [List.getElem?_map, hk]
    rfl

set_option maxHeartbeats 4000000 in
set_option maxRecDepth 100000 in
theorem SameF_same (va vb : Value) (base base' : Nat) (xs ys : List Nat) (hl : xs.length = ys.length) (he : ∀ (i x y : Nat), xs[i]? = some x → ys[i]? = some y → FloatKind.f64.format.order x y = some .eq) (w : World) (ha : w.ownsRow base 24 1 va xs.length (fvs xs)) (hb : w.ownsRow base' 24 1 vb ys.length (fvs ys)) :
    Calls Try.prog 12 #[va, vb] w fun e w' => e = .returned (.bool true) ∧ Below w.heap.size w w' := by
  obtain ⟨ao, cap, rfl, hle, hmx, hcs⟩ := rowF_read ha
  obtain ⟨bo, cap', rfl, hle', hmx', hcs'⟩ := rowF_read hb
  obtain ⟨n, hn⟩ : ∃ n, n = xs.length := ⟨_, rfl⟩
  rw [← hl, ← hn] at hle' ⊢
  rw [← hn] at hle
  unfold maxLen at hmx hmx'
  have hnx : n ≤ 9223372036854775807 := by omega
  have HN := hide hn
  have HN2 := hide hl
  have HCS := hide hcs
  have HCS' := hide hcs'
  have HEQ := hide he
  clear hn hcs hcs' ha hb he hl
  go_enter Try.func12, Try.ntmps12
  go_wp2
  go_loopw [13] (fun iv wr => ∃ k : Nat, iv = .int .i64 (k : Int) ∧ k ≤ n ∧ Below w.heap.size w wr) (fun iv _ => n - (intOf iv).toNat)
  case atStart => exact ⟨0, rfl, Nat.zero_le _, Below.refl _ _⟩
  case round =>
    obtain ⟨k, rfl, hk, hbw⟩ := hrel
    by_cases hlt : k < n
    · have hlti : (k : Int) < (n : Int) := by omega
      have hk0 : (0 : Int) ≤ (k : Int) := by omega
      obtain ⟨x, hx⟩ : ∃ x, xs[k]? = some x := ⟨_, List.getElem?_eq_getElem (by rw [← unhide HN]; exact hlt)⟩
      obtain ⟨y, hy⟩ : ∃ y, ys[k]? = some y := ⟨_, List.getElem?_eq_getElem (by rw [← unhide HN2, ← unhide HN]; exact hlt)⟩
      obtain ⟨g, eg, cg⟩ := unhide HCS k x hx
      obtain ⟨g', eg', cg'⟩ := unhide HCS' k y hy
      subst eg
      subst eg'
      have d0 := cg _ hbw
      have f0 := cg' _ hbw
      have ho := unhide HEQ k x y hx hy
      have HBW := hide hbw
      clear hx hy cg cg' hbw
      go_wp2_with fail
      go_quiet (fail)
      go_wp2
      go_roundw
      case rel => exact ⟨k + 1, by go_num, by omega, ⟨(unhide HBW).os, (unhide HBW).tape, (unhide HBW).output, (unhide HBW).size, (unhide HBW).block⟩⟩
      case measure => simp only [intOf]; omega
    · have hlti : ¬ (k : Int) < (n : Int) := by omega
      have HBW := hide hbw
      clear hbw
      go_wp2
      go_ret
      exact ⟨rfl, unhide HBW⟩
end Go.Proofs.Ytdpjkfmhmjgokaa
