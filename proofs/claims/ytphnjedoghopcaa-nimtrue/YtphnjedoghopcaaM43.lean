/-
  Plain mathematics: values over and over, those of which all others are known.
-/
import Derived.Test.YtphnjedoghopcaaM41
namespace Go.Proofs.Ytphnjedoghopcaa

/-- What is known is done. -/
def fb (K : List Bool) : List Nat := K.map fun b => if b then 2 else 0
theorem fb_len (K : List Bool) : (fb K).length = K.length := by simp [fb]
theorem fb_at (K : List Bool) (j : Nat) : (fb K)[j]! = if K[j]! then 2 else 0 := by
  by_cases h : j < K.length
  · rw [getElem!_pos _ j (by rw [fb_len]; exact h), getElem!_pos K j h]
    simp [fb]
  · rw [getElem!_neg _ j (by rw [fb_len]; exact h), getElem!_neg K j h]
    rfl
theorem fb_set (K : List Bool) (i : Nat) : fb (K.set i true) = (fb K).set i 2 := by simp [fb, List.map_set]
theorem fb_rep (n : Nat) : fb (List.replicate n false) = List.replicate n 0 := by simp [fb]
theorem Dfs.learn {G : List (List Int)} {K : List Bool} {V : List Nat} (h : Dfs G (fb K) V) {i : Nat} {r : List Int} (hr : G[i]? = some r) (h0 : K[i]! = false) (hk : ∀ x ∈ r, K[x.toNat]! = true) :
    Dfs G (fb (K.set i true)) (V.set i (mexN (kidV V r))) := by
  have hi : i < G.length := (List.getElem?_eq_some_iff.1 hr).1
  have hi' : i < (fb K).length := by rw [h.lf]; exact hi
  have h1 := h.begin hi (by rw [fb_at, h0]; rfl)
  have e1 : ((fb K).set i 1)[i]! = 1 := by rw [get_set!, if_pos ⟨rfl, hi'⟩]
  have h2 := h1.finish hr e1 (fun x hx => by
    rw [get_set!, if_neg]
    · rw [fb_at, hk x hx]; rfl
    · rintro ⟨e, -⟩
      have := hk x hx
      rw [← e, h0] at this
      cases this)
  rw [List.set_set, ← fb_set] at h2
  exact h2
theorem zer_learn {K : List Bool} {i : Nat} (hi : i < K.length) (h0 : K[i]! = false) : zer (fb (K.set i true)) + 1 = zer (fb K) := by
  rw [fb_set]
  exact zer_set (fb K) i 2 (by rw [fb_len]; exact hi) (by rw [fb_at, h0]; rfl) (by omega)
/-- Nothing more can be learned. -/
def Stuck (G : List (List Int)) (K : List Bool) (n : Nat) : Prop := ∀ (i : Nat) (r : List Int), i < n → G[i]? = some r → K[i]! = false → ∃ x ∈ r, K[x.toNat]! = false
theorem stuck_no {G : List (List Int)} {K : List Bool} (ok : OkG G) (h : Stuck G K G.length) {rk : Nat → Nat} (hd : Down G rk) : ∀ (n j : Nat), rk j < n → j < G.length → K[j]! = false → False
  | 0, _, hn, _, _ => by omega
  | n + 1, j, hn, hj, hk => by
    have hr := List.getElem?_eq_getElem hj
    obtain ⟨x, hx, hx0⟩ := h j _ hj hr hk
    have := hd j _ hr x hx
    have h2 := ok.in_ j _ hr x hx
    exact stuck_no ok h hd n x.toNat (by omega) (by omega) hx0
theorem zer_zero : ∀ (F : List Nat), zer F = 0 → ∀ j, j < F.length → F[j]! ≠ 0 := fun F h j hj h0 => by
  have := zer_pos F j hj h0
  omega
theorem zer_some : ∀ (F : List Nat), 0 < zer F → ∃ j, j < F.length ∧ F[j]! = 0
  | [], h => by simp [zer] at h
  | x :: F, h => by
    by_cases hx : x = 0
    · exact ⟨0, by simp, by simp [hx]⟩
    · have : zer F = zer (x :: F) := by unfold zer; rw [List.countP_cons]; simp [hx]
      obtain ⟨j, hj, h0⟩ := zer_some F (by omega)
      exact ⟨j + 1, by simpa using hj, by simpa using h0⟩
theorem low_le {l : List Nat} {v : Nat} (h : ∀ j, j < v → j ∈ l) : v ≤ mexN l := by
  rcases Nat.lt_or_ge (mexN l) v with h1 | h1
  · exact absurd (h _ h1) (mex_no l)
  · exact h1
end Go.Proofs.Ytphnjedoghopcaa
