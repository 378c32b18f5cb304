/-
  The document's answer, walked: the points of one player (gameref.Ranks's closure).
-/
import Derived.Test.YtdpjkfmhmjgokaaY1
namespace Go.Proofs.Ytdpjkfmhmjgokaa
open Go.RowKit
attribute [local go_sem ↓] Go.wp_at_zero Go.wp_at_succ

/-- A box that holds the list. -/
def isLb (u : World) (b : Nat) (v : Value) : Prop := u.heap[b]? = some (.cells #[v] 22 (0, 0))
theorem isLb.cell {u : World} {b : Nat} {v : Value} (h : isLb u b v) : u.cell? ⟨b, 0, none⟩ = some v := by unfold isLb at h; simp [World.cell?, h]
theorem isLb.lt {u : World} {b : Nat} {v : Value} (h : isLb u b v) : b < u.heap.size := (Array.getElem?_eq_some_iff.1 h).1
theorem pts_next {l : List Re} {k : Nat} {z : Re} (hz : l[k]? = some z) (p : Int) : pts (l.take (k + 1)) p = pts (l.take k) p + ptR p z := sl_snoc (ptR p) l k z hz
theorem oth_next {l : List Re} {k : Nat} {z : Re} (f : Int → Int) (hz : l[k]? = some z) (p : Int) : oth f (l.take (k + 1)) p = oth f (l.take k) p + otR f p z := sl_snoc (otR f p) l k z hz

set_option maxHeartbeats 4000000 in
theorem points_any (n : Int) (l : List Re) (hl : okL n l) (p : Int) (ao : Option Addr) (cap b : Nat) (w : World) (h : isRs w w.heap.size ao cap l) (hb : isLb w b (.slice ao l.length cap)) :
    Calls Try.prog 24 #[.int .i64 p, .pointer (some ⟨b, 0, none⟩)] w fun e w' => e = .returned (.int .i64 (pts l p)) ∧ w' = w := by
  obtain ⟨N, hN⟩ : ∃ N, N = l.length := ⟨_, rfl⟩
  have hN2 : N ≤ 10000 := by rw [hN]; exact hl.1
  have HR := hide h
  have HN := hide hN
  have HL := hide hl
  have hcap := h.mx
  have hle := h.le
  rw [← hN] at hle hb
  unfold maxLen at hcap
  have cb := hb.cell
  clear hN h hl hb
  go_enter Try.func24, Try.ntmps24
  go_wp2
  go_loopw [4, 5] (fun sv iv wr => ∃ k : Nat, k ≤ N ∧ sv = .int .i64 (pts (l.take k) p) ∧ iv = .int .i64 (k : Int) ∧ wr = w) (fun _ iv _ => N - (intOf iv).toNat)
  case atStart => exact ⟨0, Nat.zero_le _, by simp [pts, sl], rfl, rfl⟩
  case round =>
    obtain ⟨k, hk, rfl, rfl, rfl⟩ := hrel
    have hbd : ∀ j, 0 ≤ pts (l.take j) p ∧ pts (l.take j) p ≤ 20000 := fun j => by
      have := pts_bound (n := n) (l := l.take j) (fun r hr => (unhide HL).2 r (List.mem_of_mem_take hr)) p
      have h2 : ((l.take j).length : Int) ≤ 10000 := by rw [List.length_take]; have := unhide HN; omega
      omega
    by_cases hlt : k < N
    · have hlti : (k : Int) < (N : Int) := by omega
      have hk0 : (0 : Int) ≤ (k : Int) := by omega
      obtain ⟨z, hz⟩ : ∃ z, l[k]? = some z := ⟨_, List.getElem?_eq_getElem (by rw [← unhide HN]; exact hlt)⟩
      obtain ⟨gr, off, rfl, hgr, c0, c1, c2⟩ := (unhide HR).at_ hz
      have hok := (unhide HL).2 z (List.mem_of_getElem? hz)
      obtain ⟨a1, a2, a3, a4, a5, a6, a7⟩ := hok
      have hstep := pts_next hz p
      have b1 := hbd k
      have b2 := hbd (k + 1)
      obtain ⟨q, hq⟩ : ∃ q, q = pts (l.take k) p := ⟨_, rfl⟩
      obtain ⟨a, ha⟩ : ∃ a, a = z.a := ⟨_, rfl⟩
      obtain ⟨b', hb'⟩ : ∃ b, b = z.b := ⟨_, rfl⟩
      obtain ⟨d, hd⟩ : ∃ d, d = z.h := ⟨_, rfl⟩
      rw [← hq] at hstep b1 ⊢
      unfold ptR at hstep
      rw [← ha] at c0
      rw [← hb'] at c1
      rw [← hd] at c2 a6 a7
      rw [← ha, ← hb', ← hd] at hstep
      obtain ⟨E1, e1⟩ : ∃ E : Bool, (a == p) = E := ⟨_, rfl⟩
      obtain ⟨E2, e2⟩ : ∃ E : Bool, (b' == p) = E := ⟨_, rfl⟩
      have HS1 : Hid (E1 = true → E2 = true → pts (l.take (k + 1)) p = q + d + (2 - d)) := hide (fun h1 h2 => by
        rw [h1, beq_iff_eq] at e1
        rw [h2, beq_iff_eq] at e2
        rw [hstep, if_pos e1, if_pos e2]; omega)
      have HS2 : Hid (E1 = true → E2 = false → pts (l.take (k + 1)) p = q + d) := hide (fun h1 h2 => by
        rw [h1, beq_iff_eq] at e1
        rw [h2, beq_eq_false_iff_ne] at e2
        rw [hstep, if_pos e1, if_neg e2]; omega)
      have HS3 : Hid (E1 = false → E2 = true → pts (l.take (k + 1)) p = q + (2 - d)) := hide (fun h1 h2 => by
        rw [h1, beq_eq_false_iff_ne] at e1
        rw [h2, beq_iff_eq] at e2
        rw [hstep, if_neg e1, if_pos e2]; omega)
      have HS4 : Hid (E1 = false → E2 = false → pts (l.take (k + 1)) p = q) := hide (fun h1 h2 => by
        rw [h1, beq_eq_false_iff_ne] at e1
        rw [h2, beq_eq_false_iff_ne] at e2
        rw [hstep, if_neg e1, if_neg e2]; omega)
      clear hbd hz a1 a2 a3 a4 a5 hstep hq ha hb' hd b2
      cases E1
      · cases E2
        · go_wp2
          go_roundw
          case rel => exact ⟨k + 1, by omega, by rw [unhide HS4 rfl rfl], by go_num, by first | rfl | trivial⟩
          case measure => simp only [intOf]; omega
        · go_wp2
          go_roundw
          case rel => exact ⟨k + 1, by omega, by rw [unhide HS3 rfl rfl], by go_num, by first | rfl | trivial⟩
          case measure => simp only [intOf]; omega
      · cases E2
        · go_wp2
          go_roundw
          case rel => exact ⟨k + 1, by omega, by rw [unhide HS2 rfl rfl], by go_num, by first | rfl | trivial⟩
          case measure => simp only [intOf]; omega
        · go_wp2
          go_roundw
          case rel => exact ⟨k + 1, by omega, by rw [unhide HS1 rfl rfl], by go_num, by first | rfl | trivial⟩
          case measure => simp only [intOf]; omega
    · have hlti : ¬ (k : Int) < (N : Int) := by omega
      have hkl : l.take k = l := List.take_of_length_le (by have := unhide HN; omega)
      rw [hkl]
      clear hbd hkl
      go_wp2
      go_ret
      exact ⟨rfl, rfl⟩
end Go.Proofs.Ytdpjkfmhmjgokaa
