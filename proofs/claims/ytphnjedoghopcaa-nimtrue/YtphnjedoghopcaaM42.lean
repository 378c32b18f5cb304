/-
  Plain mathematics: two graphs side by side.
-/
import Derived.Test.YtphnjedoghopcaaM41
namespace Go.Proofs.Ytphnjedoghopcaa

/-- From i of a and j of b. -/
def rowAB (nb i j : Nat) (a b : List Int) : List Int := a.map (fun x => x * (nb : Int) + (j : Int)) ++ b.map (fun y => ((i * nb : Nat) : Int) + y)
/-- The two side by side. -/
def bothG (A C : List (List Int)) : List (List Int) := (List.range (A.length * C.length)).map fun m => rowAB C.length (m / C.length) (m % C.length) A[m / C.length]! C[m % C.length]!
theorem bothG_len (A C : List (List Int)) : (bothG A C).length = A.length * C.length := by simp [bothG]
theorem pair_lt {i j na nb : Nat} (hi : i < na) (hj : j < nb) : i * nb + j < na * nb := by
  have : (i + 1) * nb ≤ na * nb := Nat.mul_le_mul_right _ hi
  rw [Nat.add_mul, Nat.one_mul] at this
  omega
theorem pair_div {i j nb : Nat} (hj : j < nb) : (i * nb + j) / nb = i := by
  rw [Nat.mul_comm, Nat.mul_add_div (by omega), Nat.div_eq_of_lt hj, Nat.add_zero]
theorem pair_mod {i j nb : Nat} (hj : j < nb) : (i * nb + j) % nb = j := by
  rw [Nat.mul_comm, Nat.mul_add_mod, Nat.mod_eq_of_lt hj]
theorem bothG_at {A C : List (List Int)} {i j : Nat} {a c : List Int} (ha : A[i]? = some a) (hc : C[j]? = some c) : (bothG A C)[i * C.length + j]? = some (rowAB C.length i j a c) := by
  obtain ⟨hi, rfl⟩ := List.getElem?_eq_some_iff.1 ha
  obtain ⟨hj, rfl⟩ := List.getElem?_eq_some_iff.1 hc
  unfold bothG
  rw [List.getElem?_map, List.getElem?_range (pair_lt hi hj)]
  simp only [Option.map_some, pair_div hj, pair_mod hj, getElem!_pos A i hi, getElem!_pos C j hj]
theorem bothG_of {A C : List (List Int)} {m : Nat} {r : List Int} (h : (bothG A C)[m]? = some r) : ∃ i j a c, A[i]? = some a ∧ C[j]? = some c ∧ m = i * C.length + j ∧ i < A.length ∧ j < C.length ∧ r = rowAB C.length i j a c := by
  have hm := (List.getElem?_eq_some_iff.1 h).1
  rw [bothG_len] at hm
  have hp : 0 < C.length := by
    rcases Nat.eq_zero_or_pos C.length with h0 | h0
    · rw [h0, Nat.mul_zero] at hm; omega
    · exact h0
  have hi : m / C.length < A.length := (Nat.div_lt_iff_lt_mul hp).2 hm
  have hj : m % C.length < C.length := Nat.mod_lt _ hp
  have e : m = m / C.length * C.length + m % C.length := by rw [Nat.mul_comm]; exact (Nat.div_add_mod m C.length).symm
  refine ⟨m / C.length, m % C.length, A[m / C.length], C[m % C.length], List.getElem?_eq_getElem hi, List.getElem?_eq_getElem hj, e, hi, hj, ?_⟩
  have := bothG_at (List.getElem?_eq_getElem hi) (List.getElem?_eq_getElem hj)
  rw [← e, h] at this
  exact Option.some.inj this
theorem both_ok {A C : List (List Int)} (hA : OkG A) (hC : OkG C) (hn : A.length * C.length ≤ 1000) (hl : ∀ (i : Nat) (a : List Int) (j : Nat) (c : List Int), A[i]? = some a → C[j]? = some c → a.length + c.length ≤ 1000) : OkG (bothG A C) := by
  refine ⟨by rw [bothG_len]; exact hn, fun m r hr => ?_, fun m r hr x hx => ?_⟩
  · obtain ⟨i, j, a, c, ha, hc, -, -, -, rfl⟩ := bothG_of hr
    have := hl i a j c ha hc
    simp [rowAB]; omega
  · obtain ⟨i, j, a, c, ha, hc, -, hi, hj, rfl⟩ := bothG_of hr
    rw [bothG_len]
    unfold rowAB at hx
    rcases List.mem_append.1 hx with hx | hx
    · obtain ⟨y, hy, rfl⟩ := List.mem_map.1 hx
      obtain ⟨h1, h2⟩ := hA.in_ i a ha y hy
      obtain ⟨Y, rfl⟩ := Int.eq_ofNat_of_zero_le h1
      have := pair_lt (i := Y) (na := A.length) (by omega) hj
      have e : (Y : Int) * (C.length : Int) + (j : Int) = ((Y * C.length + j : Nat) : Int) := by simp
      rw [e]; omega
    · obtain ⟨y, hy, rfl⟩ := List.mem_map.1 hx
      obtain ⟨h1, h2⟩ := hC.in_ j c hc y hy
      obtain ⟨Y, rfl⟩ := Int.eq_ofNat_of_zero_le h1
      have := pair_lt (j := Y) hi (nb := C.length) (by omega)
      have e : ((i * C.length : Nat) : Int) + (Y : Int) = ((i * C.length + Y : Nat) : Int) := by omega
      rw [e]; omega
theorem both_down {A C : List (List Int)} (hA : OkG A) (hC : OkG C) {ra rc : Nat → Nat} (h1 : Down A ra) (h2 : Down C rc) : Down (bothG A C) fun m => ra (m / C.length) + rc (m % C.length) := by
  intro m r hr x hx
  obtain ⟨i, j, a, c, ha, hc, rfl, hi, hj, rfl⟩ := bothG_of hr
  unfold rowAB at hx
  rcases List.mem_append.1 hx with hx | hx
  · obtain ⟨y, hy, rfl⟩ := List.mem_map.1 hx
    obtain ⟨k1, k2⟩ := hA.in_ i a ha y hy
    have hd := h1 i a ha y hy
    obtain ⟨Y, rfl⟩ := Int.eq_ofNat_of_zero_le k1
    have e : ((Y : Int) * (C.length : Int) + (j : Int)).toNat = Y * C.length + j := by
      rw [show (Y : Int) * (C.length : Int) + (j : Int) = ((Y * C.length + j : Nat) : Int) by simp]; exact Int.toNat_natCast _
    rw [e]
    simp only [pair_div hj, pair_mod hj, Int.toNat_natCast] at hd ⊢
    omega
  · obtain ⟨y, hy, rfl⟩ := List.mem_map.1 hx
    obtain ⟨k1, k2⟩ := hC.in_ j c hc y hy
    have hd := h2 j c hc y hy
    obtain ⟨Y, rfl⟩ := Int.eq_ofNat_of_zero_le k1
    have e : (((i * C.length : Nat) : Int) + (Y : Int)).toNat = i * C.length + Y := by omega
    rw [e]
    have hY : Y < C.length := by omega
    simp only [pair_div hj, pair_mod hj, pair_div hY, pair_mod hY, Int.toNat_natCast] at hd ⊢
    omega

/-! ### Without carrying -/
theorem xor_back (x y : Nat) : (x ^^^ y) ^^^ y = x := by rw [Nat.xor_assoc, Nat.xor_self, Nat.xor_zero]
theorem xor_bit (x y : Nat) : (x ^^^ y) % 2 = (x % 2 + y % 2) % 2 := by
  have h : (x ^^^ y) % 2 = x % 2 ^^^ y % 2 := Nat.xor_mod_two_pow (a := x) (b := y) (n := 1)
  rw [h]
  rcases Nat.mod_two_eq_zero_or_one x with hx | hx <;> rcases Nat.mod_two_eq_zero_or_one y with hy | hy <;> rw [hx, hy] <;> rfl
theorem xor_less : ∀ (n t x y : Nat), x + y < n → t < x ^^^ y → t ^^^ y < x ∨ t ^^^ x < y
  | 0, _, _, _, h, _ => by omega
  | n + 1, t, x, y, hn, h => by
    have hpos : 0 < x + y := by
      rcases Nat.eq_zero_or_pos (x + y) with h0 | h0
      · have hx : x = 0 := by omega
        have hy : y = 0 := by omega
        subst hx hy
        simp at h
      · exact h0
    have e1 := Nat.xor_div_two (a := x) (b := y)
    have e2 := Nat.xor_div_two (a := t) (b := y)
    have e3 := Nat.xor_div_two (a := t) (b := x)
    have m1 := xor_bit x y
    have m2 := xor_bit t y
    have m3 := xor_bit t x
    rcases Nat.lt_or_ge (t / 2) ((x ^^^ y) / 2) with h1 | h1
    · rw [e1] at h1
      rcases xor_less n (t / 2) (x / 2) (y / 2) (by omega) h1 with h2 | h2
      · left; omega
      · right; omega
    · have h2 : t / 2 = (x ^^^ y) / 2 := by omega
      rw [e1] at h2
      have k1 : t / 2 ^^^ y / 2 = x / 2 := by rw [h2]; exact xor_back _ _
      have k2 : t / 2 ^^^ x / 2 = y / 2 := by rw [h2, Nat.xor_comm (x / 2)]; exact xor_back _ _
      rw [k1] at e2
      rw [k2] at e3
      clear h2 k1 k2
      have b1 : t % 2 = 0 ∧ (x ^^^ y) % 2 = 1 := by omega
      rw [b1.1] at m2 m3
      rw [b1.2] at m1
      clear b1 e1 h1 h
      rcases Nat.mod_two_eq_zero_or_one x with hx | hx <;> rcases Nat.mod_two_eq_zero_or_one y with hy | hy <;> rw [hx] at m1 m3 <;> rw [hy] at m1 m2
      · omega
      · right; omega
      · left; omega
      · omega
theorem xor_inj {x y z : Nat} (h : x ^^^ z = y ^^^ z) : x = y := by rw [← xor_back x z, h, xor_back]
/-- SPRAGUE, GRUNDY: what two lists of values come to, side by side. -/
theorem mex_xor (l m : List Nat) : mexN (l.map (fun v => v ^^^ mexN m) ++ m.map (fun v => mexN l ^^^ v)) = mexN l ^^^ mexN m := by
  refine (mex_eq ?_ ?_).symm
  · intro h
    rcases List.mem_append.1 h with h | h
    · obtain ⟨v, hv, e⟩ := List.mem_map.1 h
      rw [xor_inj e] at hv
      exact mex_no l hv
    · obtain ⟨v, hv, e⟩ := List.mem_map.1 h
      rw [Nat.xor_comm _ v, Nat.xor_comm _ (mexN m)] at e
      rw [xor_inj e] at hv
      exact mex_no m hv
  · intro t ht
    rcases xor_less _ t _ _ (Nat.lt_succ_self _) ht with h | h
    · refine List.mem_append_left _ (List.mem_map.2 ⟨_, mex_low l h, ?_⟩)
      exact xor_back _ _
    · refine List.mem_append_right _ (List.mem_map.2 ⟨_, mex_low m h, ?_⟩)
      rw [Nat.xor_comm]; exact xor_back _ _
/-- The values of two graphs side by side. -/
def xorV (V U : List Nat) : List Nat := (List.range (V.length * U.length)).map fun m => V[m / U.length]! ^^^ U[m % U.length]!
theorem xorV_len (V U : List Nat) : (xorV V U).length = V.length * U.length := by simp [xorV]
theorem xorV_at (V U : List Nat) {m : Nat} (h : m < V.length * U.length) : (xorV V U)[m]! = V[m / U.length]! ^^^ U[m % U.length]! := by
  rw [getElem!_pos _ m (by rw [xorV_len]; exact h)]
  simp [xorV]
theorem both_solves {A C : List (List Int)} (hA : OkG A) (hC : OkG C) {V U : List Nat} (h1 : Solves A V) (h2 : Solves C U) : Solves (bothG A C) (xorV V U) := by
  refine ⟨by rw [xorV_len, bothG_len, h1.len, h2.len], fun m r hr => ?_⟩
  obtain ⟨i, j, a, c, ha, hc, rfl, hi, hj, rfl⟩ := bothG_of hr
  have hl := h2.len
  have at_ : ∀ p q, p < A.length → q < C.length → (xorV V U)[p * C.length + q]! = V[p]! ^^^ U[q]! := by
    intro p q hp hq
    rw [xorV_at _ _ (by rw [h1.len, hl]; exact pair_lt hp hq), hl, pair_div hq, pair_mod hq]
  rw [at_ i j hi hj, h1.at_ i a ha, h2.at_ j c hc, ← mex_xor]
  congr 1
  unfold kidV rowAB
  rw [List.map_append, List.map_map, List.map_map, List.map_map, List.map_map]
  congr 1
  · refine List.map_congr_left fun y hy => ?_
    obtain ⟨k1, k2⟩ := hA.in_ i a ha y hy
    obtain ⟨Y, rfl⟩ := Int.eq_ofNat_of_zero_le k1
    have e : ((Y : Int) * (C.length : Int) + (j : Int)).toNat = Y * C.length + j := by
      rw [show (Y : Int) * (C.length : Int) + (j : Int) = ((Y * C.length + j : Nat) : Int) by simp]; exact Int.toNat_natCast _
    simp only [Function.comp, e, Int.toNat_natCast]
    rw [at_ Y j (by omega) hj]
    congr 1
    exact (h2.at_ j c hc).symm
  · refine List.map_congr_left fun y hy => ?_
    obtain ⟨k1, k2⟩ := hC.in_ j c hc y hy
    obtain ⟨Y, rfl⟩ := Int.eq_ofNat_of_zero_le k1
    have e : (((i * C.length : Nat) : Int) + (Y : Int)).toNat = i * C.length + Y := by omega
    simp only [Function.comp, e, Int.toNat_natCast]
    rw [at_ i Y hi (by omega)]
    congr 1
    exact (h1.at_ i a ha).symm
end Go.Proofs.Ytphnjedoghopcaa
