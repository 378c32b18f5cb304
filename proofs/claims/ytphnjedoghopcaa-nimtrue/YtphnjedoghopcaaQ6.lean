/-
  package nim, walked: Values.
-/
import Derived.Test.YtphnjedoghopcaaQ5
namespace Go.Proofs.Ytphnjedoghopcaa
open Go.RowKit
attribute [local go_sem ↓] Go.wp_at_zero Go.wp_at_succ

theorem mostN_le : ∀ (G : List (List Int)) (n a : Nat), a ≤ n → (G.foldl (fun n r => max n r.length) a ≤ n ↔ ∀ r ∈ G, r.length ≤ n)
  | [], n, a, h => by simp [h]
  | r :: G, n, a, h => by
    rw [List.foldl_cons]
    by_cases hr : r.length ≤ n
    · rw [mostN_le G n (max a r.length) (by omega)]
      simp [hr]
    · constructor
      · intro hc
        have big : ∀ (l : List (List Int)) (b : Nat), b ≤ l.foldl (fun n r => max n r.length) b := by
          intro l
          induction l with
          | nil => intro b; exact Nat.le_refl _
          | cons x l ih => intro b; rw [List.foldl_cons]; have := ih (max b x.length); omega
        have := big G (max a r.length)
        omega
      · intro hc
        exact absurd (hc r (by simp)) hr
/-- Check takes just the graphs within their bounds. -/
theorem chk_ok {G : List (List Int)} : chkI G = 0 ↔ OkG G := by
  unfold chkI
  constructor
  · intro h
    split at h
    · omega
    · rename_i h1
      split at h
      · omega
      · rename_i h2
        refine ⟨by omega, fun i r hr => ?_, fun i r hr x hx => ?_⟩
        · have := (mostN_le G 1000 0 (by omega)).1 (by unfold mostN at h1; omega) r (List.mem_of_getElem? hr)
          exact this
        · have h3 : (G.any (outB G.length)) = false := by simpa using h2
          rw [List.any_eq_false] at h3
          have h4 := h3 r (List.mem_of_getElem? hr)
          unfold outB at h4
          simp only [Bool.not_eq_true, List.any_eq_false] at h4
          have h5 := h4 x hx
          simp at h5
          omega
  · intro ok
    rw [if_neg, if_neg]
    · intro h
      rw [List.any_eq_true] at h
      obtain ⟨r, hr, h⟩ := h
      unfold outB at h
      rw [List.any_eq_true] at h
      obtain ⟨x, hx, h⟩ := h
      obtain ⟨i, hi⟩ := List.getElem?_of_mem hr
      have := ok.in_ i r hi x hx
      simp at h
      omega
    · intro h
      have := ok.len
      have h2 := (mostN_le G 1000 0 (by omega)).2 (fun r hr => by obtain ⟨i, hi⟩ := List.getElem?_of_mem hr; exact ok.row i r hi)
      unfold mostN at h
      omega
theorem chk_range (G : List (List Int)) : chkI G = 0 ∨ chkI G = 2 ∨ chkI G = 4 := by unfold chkI; split; simp; split <;> simp
/-- What Values leaves. -/
structure ValsEnd (G : List (List Int)) (w : World) (e : Ending) (w' : World) : Prop where
  low : Below w.heap.size w w'
  out : (OkG G ∧ ∃ gv V, e = .returned (.tuple #[.slice (some ⟨gv, 0, none⟩) G.length G.length, .int .i64 0]) ∧ w.heap.size ≤ gv ∧ rowN w' gv V ∧ Solves G V ∧ ∃ rk, Down G rk) ∨ (OkG G ∧ e = .returned (.tuple #[.slice none 0 0, .int .i64 7]) ∧ ∃ c, Reach G c c) ∨ (¬ OkG G ∧ e = .returned (.tuple #[.slice none 0 0, .int .i64 (chkI G)]))

set_option maxHeartbeats 2000000 in
set_option maxRecDepth 100000 in
theorem Values_any (G : List (List Int)) (ao : Option Addr) (cap : Nat) (w : World) (hG : isG w w.heap.size ao cap G) :
    Calls Try.prog 13 #[.slice ao G.length cap] w fun e w' => ValsEnd G w e w' := by
  have HC := hide (check_any _ ao cap G w hG)
  have HG := hide hG
  clear hG
  rcases Decidable.em (chkI G = 0) with h0 | h0
  · have ok := chk_ok.1 h0
    rw [h0] at HC
    have HV := hide (values_any G ok ao cap w (unhide HG))
    have HOK := hide ok
    clear h0 ok
    go_enter Try.func13, Try.ntmps13
    go_wp2_with fail
    refine (unhide HC).mono ?_
    rintro e w1 ⟨rfl, rfl⟩
    go_wp2_with fail
    refine (unhide HV).mono ?_
    rintro e w2 ⟨hb, hout⟩
    rcases hout with ⟨gv, V, rfl, h1, h2, h3, h4⟩ | ⟨rfl, hc⟩
    · have HO : Hid (ValsEnd G w1 (.returned (.tuple #[.slice (some ⟨gv, 0, none⟩) G.length G.length, .int .i64 0])) w2) := hide ⟨hb, .inl ⟨unhide HOK, gv, V, rfl, h1, h2, h3, h4⟩⟩
      clear hb h1 h2 h3 h4
      go_wp2
      go_ret2
      exact unhide HO
    · have HO : Hid (ValsEnd G w1 (.returned (.tuple #[.slice none 0 0, .int .i64 7])) w2) := hide ⟨hb, .inr (.inl ⟨unhide HOK, rfl, hc⟩)⟩
      clear hb hc
      go_wp2
      go_ret2
      exact unhide HO
  · have HO : Hid (ValsEnd G w (.returned (.tuple #[.slice none 0 0, .int .i64 (chkI G)])) w) := hide ⟨Below.refl _ _, .inr (.inr ⟨fun ok => h0 (chk_ok.2 ok), rfl⟩)⟩
    have hne : (chkI G != 0) = true := by simp [h0]
    generalize chkI G = C at *
    clear h0
    go_enter Try.func13, Try.ntmps13
    go_wp2_with fail
    refine (unhide HC).mono ?_
    rintro e w1 ⟨rfl, rfl⟩
    go_wp2
    go_ret2
    exact unhide HO
end Go.Proofs.Ytphnjedoghopcaa
