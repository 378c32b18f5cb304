/-
  Plain mathematics of texts rune by rune, as lists of bytes: decoding ahead of more text and cut off behind a rune.
-/
import Derived.Lib.ValidLaws
namespace Go.Proofs.YtdibjdpnleepmacDoor
open Go.Lib
/-- Is what begins here a rune? -/
def okD (l : List UInt8) : Prop := ¬ ((decodeL l).1 = 65533 ∧ (decodeL l).2 = 1)
instance (l : List UInt8) : Decidable (okD l) := by unfold okD; infer_instance

set_option maxRecDepth 100000 in
set_option maxHeartbeats 4000000 in
theorem decN_app (n n' b0 b1 b2 b3 c1 c2 c3 : Nat) (hn : n ≤ n') (h1 : 1 < n → c1 = b1) (h2 : 2 < n → c2 = b2) (h3 : 3 < n → c3 = b3) (hok : ¬ ((decodeN n b0 b1 b2 b3).1 = 65533 ∧ (decodeN n b0 b1 b2 b3).2 = 1)) :
    decodeN n' b0 c1 c2 c3 = decodeN n b0 b1 b2 b3 := by
  rcases decodeN_shape n b0 b1 b2 b3 with ⟨h, e⟩ | ⟨a1, a2, a3, a4, e⟩ | ⟨a1, a2, a3, a4, a5, a6, e⟩ | ⟨a1, a2, a3, a4, a5, a6, a7, e⟩ | e
  · rw [e]; unfold decodeN; rw [if_pos h]
  · rw [e, h1 a2]; unfold decodeN; rw [if_neg (by omega), if_pos ⟨a1, by omega, a3⟩, if_pos a4]
  · rw [e, h1 (by omega), h2 a2]; unfold decodeN; rw [if_neg (by omega), if_neg (by omega), if_pos ⟨a1, ⟨by omega, a3⟩, by omega, a4⟩, if_pos ⟨a5, by omega⟩]
  · rw [e, h1 (by omega), h2 (by omega), h3 a2]; unfold decodeN; rw [if_neg (by omega), if_neg (by omega), if_neg (by omega), if_pos ⟨a1, ⟨by omega, a3⟩, ⟨by omega, a4⟩, by omega, a5⟩, if_pos ⟨a6, by omega⟩]
  · rw [e] at hok; simp at hok
set_option maxRecDepth 100000 in
set_option maxHeartbeats 4000000 in
theorem decN_cut (n n' b0 b1 b2 b3 c1 c2 c3 : Nat) (hw : (decodeN n b0 b1 b2 b3).2 ≤ n') (h1 : 1 < n' → c1 = b1) (h2 : 2 < n' → c2 = b2) (h3 : 3 < n' → c3 = b3) (hok : ¬ ((decodeN n b0 b1 b2 b3).1 = 65533 ∧ (decodeN n b0 b1 b2 b3).2 = 1)) :
    decodeN n' b0 c1 c2 c3 = decodeN n b0 b1 b2 b3 := by
  rcases decodeN_shape n b0 b1 b2 b3 with ⟨h, e⟩ | ⟨a1, a2, a3, a4, e⟩ | ⟨a1, a2, a3, a4, a5, a6, e⟩ | ⟨a1, a2, a3, a4, a5, a6, a7, e⟩ | e <;> rw [e] at hw <;> simp only at hw
  · rw [e]; unfold decodeN; rw [if_pos h]
  · rw [e, h1 (by omega)]; unfold decodeN; rw [if_neg (by omega), if_pos ⟨a1, by omega, a3⟩, if_pos a4]
  · rw [e, h1 (by omega), h2 (by omega)]; unfold decodeN; rw [if_neg (by omega), if_neg (by omega), if_pos ⟨a1, ⟨by omega, a3⟩, by omega, a4⟩, if_pos ⟨a5, by omega⟩]
  · rw [e, h1 (by omega), h2 (by omega), h3 (by omega)]; unfold decodeN; rw [if_neg (by omega), if_neg (by omega), if_neg (by omega), if_pos ⟨a1, ⟨by omega, a3⟩, ⟨by omega, a4⟩, by omega, a5⟩, if_pos ⟨a6, by omega⟩]
  · rw [e] at hok; simp at hok
theorem getD_app (p t : List UInt8) (i : Nat) (h : i < p.length) : (p ++ t).getD i 0 = p.getD i 0 := by
  rw [List.getD_eq_getElem?_getD, List.getD_eq_getElem?_getD, List.getElem?_append_left h]
/-- A rune at hand stays, whatever stands behind the text. -/
theorem dec_app (p t : List UInt8) (hp : p ≠ []) (hok : okD p) : decodeL (p ++ t) = decodeL p := by
  have hl : 0 < p.length := List.length_pos_iff.2 hp
  unfold okD at hok
  rw [decodeL_N] at hok
  rw [decodeL_N, decodeL_N, getD_app p t 0 hl]
  exact decN_app _ _ _ _ _ _ _ _ _ (by simp) (fun h => by rw [getD_app p t 1 h]) (fun h => by rw [getD_app p t 2 h]) (fun h => by rw [getD_app p t 3 h]) hok
/-- A rune at hand stays, if the text is cut off behind it. -/
theorem dec_cut (p t : List UInt8) (hp : p ≠ []) (hok : okD (p ++ t)) (hw : (decodeL (p ++ t)).2 ≤ p.length) : decodeL p = decodeL (p ++ t) := by
  have hl : 0 < p.length := List.length_pos_iff.2 hp
  unfold okD at hok
  rw [decodeL_N] at hok hw
  rw [decodeL_N, decodeL_N, getD_app p t 0 hl]
  rw [getD_app p t 0 hl] at hok hw
  exact decN_cut _ _ _ _ _ _ _ _ _ hw (fun h => by rw [getD_app p t 1 h]) (fun h => by rw [getD_app p t 2 h]) (fun h => by rw [getD_app p t 3 h]) hok
theorem decL_le (l : List UInt8) (h : l ≠ []) : (decodeL l).2 ≤ l.length := by
  have hl : 0 < l.length := List.length_pos_iff.2 h
  rw [decodeL_N]
  rcases decodeN_shape l.length (l.getD 0 0).toNat (l.getD 1 0).toNat (l.getD 2 0).toNat (l.getD 3 0).toNat with ⟨h, e⟩ | ⟨a1, a2, a3, a4, e⟩ | ⟨a1, a2, a3, a4, a5, a6, e⟩ | ⟨a1, a2, a3, a4, a5, a6, a7, e⟩ | e <;> rw [e] <;> simp only <;> omega
theorem valid_step (l : List UInt8) (hne : l ≠ []) : validD l = (decide (okD l) && validD (l.drop (decodeL l).2)) := by
  rw [validD_step l hne]
  unfold okD
  by_cases h : (decodeL l).1 = 65533 ∧ (decodeL l).2 = 1
  · rw [if_pos h]; simp [h]
  · rw [if_neg h]; simp [h]
end Go.Proofs.YtdibjdpnleepmacDoor
