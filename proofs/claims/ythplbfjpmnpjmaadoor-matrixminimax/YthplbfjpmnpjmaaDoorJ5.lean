/-
  Plain mathematics of a long division by whole numbers, no program: the guess of a digit, what is subtracted, what is added back.
  parlourbig.small, walked: words divided by one word.
-/
import Derived.Test.YthplbfjpmnpjmaaDoorJ0
import Derived.Test.YthplbfjpmnpjmaaDoorJ4
import Derived.Test.YthplbfjpmnpjmaaDoorJ3
namespace Go.Proofs.YthplbfjpmnpjmaaDoor

theorem val_ge (B : Nat) (l : List Nat) (i x : Nat) (h : l[i]? = some x) : x * B ^ i ≤ val B l := by
  have h1 := val_set B l i x 0 h
  rw [Nat.zero_mul] at h1
  omega
theorem zero_hi (B : Nat) (l : List Nat) (p i x : Nat) (hB : 0 < B) (hl : val B l < B ^ p) (hi : p ≤ i) (h : l[i]? = some x) : x = 0 := by
  rcases Nat.eq_zero_or_pos x with h0 | h0
  · exact h0
  · have h1 := val_ge B l i x h
    have h2 : B ^ p ≤ B ^ i := Nat.pow_le_pow_right hB hi
    have h3 : 1 * B ^ i ≤ x * B ^ i := Nat.mul_le_mul_right _ h0
    omega
theorem val_all0 (B : Nat) : ∀ l : List Nat, (∀ x ∈ l, x = 0) → val B l = 0
  | [], _ => rfl
  | x :: l, h => by
    rw [val, h x (by simp), val_all0 B l (fun y hy => h y (by simp [hy]))]
    simp
theorem val_hi (B : Nat) (l : List Nat) (p : Nat) (hB : 0 < B) (hs : ∀ x ∈ l, x < B) (hz : ∀ i x, p ≤ i → l[i]? = some x → x = 0) : val B l = val B (l.take p) ∧ val B l < B ^ p := by
  have h1 := val_app B (l.take p) (l.drop p)
  rw [List.take_append_drop] at h1
  have h2 : val B (l.drop p) = 0 := by
    refine val_all0 B _ (fun x hx => ?_)
    obtain ⟨i, hi⟩ := List.getElem?_of_mem hx
    rw [List.getElem?_drop] at hi
    exact hz (p + i) x (by omega) hi
  rw [h2, Nat.mul_zero, Nat.add_zero] at h1
  have h3 := val_lt B (l.take p) (fun x hx => hs x (List.mem_of_mem_take hx))
  have h4 : B ^ (l.take p).length ≤ B ^ p := Nat.pow_le_pow_right hB (by rw [List.length_take]; omega)
  exact ⟨h1, by omega⟩
theorem val_two_up (B : Nat) (l : List Nat) (p y x : Nat) (hy : l[p]? = some y) (hx : l[p + 1]? = some x) : val B (l.take (p + 2)) = (x * B + y) * B ^ p + val B (l.take p) := by
  rw [val_take_succ B l (p + 1) x hx, val_take_succ B l p y hy, Nat.pow_succ, Nat.add_mul, Nat.mul_comm (B ^ p) B, ← Nat.mul_assoc]
  omega
theorem val_three_up (B : Nat) (l : List Nat) (p z y x : Nat) (hz : l[p]? = some z) (hy : l[p + 1]? = some y) (hx : l[p + 2]? = some x) : val B (l.take (p + 3)) = ((x * B + y) * B + z) * B ^ p + val B (l.take p) := by
  rw [val_take_succ B l (p + 2) x hx, val_two_up B l p z y hz hy, Nat.pow_add B p 2]
  have e : x * (B ^ p * B ^ 2) = x * B * B * B ^ p := by
    rw [Nat.pow_two, Nat.mul_comm (B ^ p), ← Nat.mul_assoc, ← Nat.mul_assoc]
  rw [e]
  simp only [Nat.add_mul]
  omega

/-- What the guess of a digit q goes by: top and next: what is divided by; h and u: what is divided. -/
structure Gs (B top next h u q : Nat) : Prop where
  first : q ≤ h / top
  small : q < B
  down : ∀ g r, g * top + r = h → r * B + u < g * next → q < g
  last : ∀ g r, g * top + r = h → g < B → g * next ≤ r * B + u → g ≤ q + 1
  brk : ∀ g r, g * top + r = h → B ≤ r → g < B ∧ g ≤ q + 1

theorem gs_of (B E top next VL h u WL N M : Nat) (hM : M = (top * B + next) * E + VL) (hN : N = (h * B + u) * E + WL) (hVL : VL < E) (hWL : WL < E) (hu : u < B) (hnx : next < B) (ht : 0 < top) (hlt : N < M * B) : Gs B top next h u (N / M) := by
  have hE : 0 < E := by omega
  have hB : 0 < B := by omega
  have hMpos : 0 < M := by
    rcases Nat.eq_zero_or_pos M with h0 | h0
    · rw [h0] at hlt; simp at hlt
    · exact h0
  have d : Dig E (top * B + next) VL (h * B + u) WL := ⟨hVL, hWL⟩
  have hq1 : N / M * ((top * B + next) * E + VL) ≤ (h * B + u) * E + WL := by
    rw [← hM, ← hN]; exact Nat.div_mul_le_self N M
  have hq2 : (h * B + u) * E + WL < (N / M + 1) * ((top * B + next) * E + VL) := by
    rw [← hM, ← hN]
    have := Nat.lt_div_mul_add hMpos (a := N)
    rw [Nat.add_mul, Nat.one_mul]; exact this
  have hV2 : B ≤ top * B + next := by
    have : 1 * B ≤ top * B := Nat.mul_le_mul_right B ht
    omega
  have hle : h ≤ top * B + next := by
    have h1 : (h * B + u) * E < (top * B + next + 1) * B * E := by
      have e1 : M ≤ (top * B + next + 1) * E := by rw [Nat.add_mul (top * B + next) 1, Nat.one_mul]; omega
      have e2 : M * B ≤ (top * B + next + 1) * E * B := Nat.mul_le_mul_right B e1
      have e3 : (top * B + next + 1) * E * B = (top * B + next + 1) * B * E := by rw [Nat.mul_assoc, Nat.mul_comm E B, ← Nat.mul_assoc]
      omega
    have h2 : h * B + u < (top * B + next + 1) * B := Nat.lt_of_mul_lt_mul_right h1
    have h3 : h * B < (top * B + next + 1) * B := by omega
    exact Nat.lt_succ_iff.1 (Nat.lt_of_mul_lt_mul_right h3)
  have hsplit : ∀ g r, g * top + r = h → g * (top * B + next) + r * B = h * B + g * next := by
    intro g r e
    have e1 : (g * top + r) * B = h * B := by rw [e]
    rw [Nat.add_mul] at e1
    rw [Nat.mul_add, ← Nat.mul_assoc]
    omega
  refine ⟨d.first hu ht hq1, Nat.div_lt_of_lt_mul hlt, ?_, ?_, ?_⟩
  · intro g r e hg
    refine d.down hq1 ?_
    have := hsplit g r e
    omega
  · intro g r e hgB hg
    refine d.last hV2 ?_ hgB hE hq2
    have := hsplit g r e
    omega
  · intro g r e hr
    have hgB : g < B := by
      have : g * top < top * B := by omega
      rw [Nat.mul_comm top B] at this
      exact Nat.lt_of_mul_lt_mul_right this
    refine ⟨hgB, d.last hV2 ?_ hgB hE hq2⟩
    have h1 := hsplit g r e
    have h2 : g * next ≤ B * next := Nat.mul_le_mul_right _ (by omega)
    have h3 : B * B ≤ r * B := Nat.mul_le_mul_right B hr
    have h4 : B * next ≤ B * B := Nat.mul_le_mul_left B (by omega)
    omega

/-- The guess goes by the three highest words of what is left, and the two highest of what is divided by. -/
theorem gs_words (B : Nat) (U v : List Nat) (j p top next h u1 u2 : Nat) (sU : ∀ x ∈ U, x < B) (sv : ∀ x ∈ v, x < B) (hv : v.length = p + 2) (h1 : v[p + 1]? = some top) (h2 : v[p]? = some next)
    (k2 : U[j + p]? = some u2) (k1 : U[j + p + 1]? = some u1) (k0 : U[j + p + 2]? = some h) (ht : 0 < top) (hlt : val B U < val B v * B ^ (j + 1)) :
    Gs B top next (u1 + B * h) u2 (val B U / (val B v * B ^ j)) ∧ (∀ i x, j + p + 3 ≤ i → U[i]? = some x → x = 0) := by
  have hB : 0 < B := by have := sv top (List.mem_of_getElem? h1); omega
  have hpow : val B v < B ^ (p + 2) := by rw [← hv]; exact val_lt B v sv
  have hz : ∀ i x, j + p + 3 ≤ i → U[i]? = some x → x = 0 := by
    intro i x hi hx
    refine zero_hi B U (j + p + 3) i x hB ?_ hi hx
    have e1 : val B v * B ^ (j + 1) ≤ B ^ (p + 2) * B ^ (j + 1) := Nat.mul_le_mul_right _ (by omega)
    rw [← Nat.pow_add] at e1
    have e2 : p + 2 + (j + 1) = j + p + 3 := by omega
    rw [e2] at e1
    omega
  refine ⟨?_, hz⟩
  have hU := (val_hi B U (j + p + 3) hB sU hz).1
  rw [val_three_up B U (j + p) u2 u1 h k2 k1 k0] at hU
  have hV := val_two_up B v p next top h2 h1
  rw [List.take_of_length_le (by omega)] at hV
  refine gs_of B (B ^ (j + p)) top next (val B (v.take p) * B ^ j) (u1 + B * h) u2 (val B (U.take (j + p))) _ _ ?_ ?_ ?_ ?_ (sU _ (List.mem_of_getElem? k2)) (sv _ (List.mem_of_getElem? h2)) ht ?_
  · rw [hV, Nat.add_mul, Nat.mul_assoc _ (B ^ p), ← Nat.pow_add, Nat.add_comm p j]
  · rw [hU, Nat.mul_comm B h, Nat.add_comm u1]
  · have e := val_lt B (v.take p) (fun x hx => sv x (List.mem_of_mem_take hx))
    rw [List.length_take, Nat.min_eq_left (by omega)] at e
    rw [Nat.pow_add, Nat.mul_comm (B ^ j)]
    exact (Nat.mul_lt_mul_right (Nat.pow_pos hB)).2 e
  · have e := val_lt B (U.take (j + p)) (fun x hx => sU x (List.mem_of_mem_take hx))
    have hl : j + p < U.length := (List.getElem?_eq_some_iff.1 k2).1
    rw [List.length_take, Nat.min_eq_left (by omega)] at e
    exact e
  · rw [Nat.mul_assoc, ← Nat.pow_succ]; exact hlt

/-- One word of 'subtract g times v', by the whole numbers. -/
theorem sub_val (B X X' N g x uo c d lo s c' d' vt i j : Nat) (hset : X' + uo * B ^ (j + i) = X + s * B ^ (j + i)) (hinv : X + g * vt * B ^ j = N + (c + d) * B ^ (j + i)) (hc : c + g * x = lo + B * c') (hs : s + (lo + d) = uo + d' * B) :
    X' + g * (vt + x * B ^ i) * B ^ j = N + (c' + d') * B ^ (j + (i + 1)) := by
  have e1 : B ^ (j + (i + 1)) = B * B ^ (j + i) := by rw [← Nat.add_assoc, Nat.pow_succ, Nat.mul_comm]
  have e2 : g * (vt + x * B ^ i) * B ^ j = g * vt * B ^ j + g * x * B ^ (j + i) := by
    rw [Nat.mul_add, Nat.add_mul, Nat.pow_add, ← Nat.mul_assoc g x]
    congr 1
    rw [Nat.mul_assoc (g * x), Nat.mul_comm (B ^ i) (B ^ j)]
  have e3 : (c + g * x) * B ^ (j + i) = (lo + B * c') * B ^ (j + i) := by rw [hc]
  have e4 : (s + (lo + d)) * B ^ (j + i) = (uo + d' * B) * B ^ (j + i) := by rw [hs]
  have e5 : (c' + d') * (B * B ^ (j + i)) = B * c' * B ^ (j + i) + d' * B * B ^ (j + i) := by
    rw [Nat.add_mul, ← Nat.mul_assoc, ← Nat.mul_assoc, Nat.mul_comm c' B]
  simp only [Nat.add_mul] at e3 e4 hinv
  rw [e1, e2, e5]
  omega
/-- One word of 'add v back'. -/
theorem add_val (B X X' Y x uo c s c' vt i j : Nat) (hset : X' + uo * B ^ (j + i) = X + s * B ^ (j + i)) (hinv : X + c * B ^ (j + i) = Y + vt * B ^ j) (hs : c + (uo + x) = s + B * c') :
    X' + c' * B ^ (j + (i + 1)) = Y + (vt + x * B ^ i) * B ^ j := by
  have e1 : c' * B ^ (j + (i + 1)) = B * c' * B ^ (j + i) := by rw [← Nat.add_assoc, Nat.pow_succ, Nat.mul_comm (B ^ (j + i)), ← Nat.mul_assoc, Nat.mul_comm c' B]
  have e2 : (vt + x * B ^ i) * B ^ j = vt * B ^ j + x * B ^ (j + i) := by
    rw [Nat.add_mul, Nat.mul_assoc x, ← Nat.pow_add, Nat.add_comm i j]
  have e3 : (c + (uo + x)) * B ^ (j + i) = (s + B * c') * B ^ (j + i) := by rw [hs]
  simp only [Nat.add_mul] at e3
  rw [e1, e2]
  omega

/-- The subtraction came out: g is the digit. -/
theorem digit_fits (X X' N M P g h c d : Nat) (hset : X' + h * P = X + (h - (c + d)) * P) (hend : X + g * M = N + (c + d) * P) (hle : c + d ≤ h) (hgq : N / M ≤ g) (hM : 0 < M) :
    g = N / M ∧ X' + N / M * M = N ∧ X' < M := by
  have e1 : h * P = (h - (c + d)) * P + (c + d) * P := by rw [← Nat.add_mul]; congr 1; omega
  have e2 : X' + g * M = N := by omega
  have e3 : g ≤ N / M := (Nat.le_div_iff_mul_le hM).2 (by omega)
  have e4 : g = N / M := by omega
  have e5 := Nat.lt_div_mul_add hM (a := N)
  rw [e4] at e2
  exact ⟨e4, e2, by omega⟩
/-- It did not: g is one too great, the word above is 2^32 - 1, and adding back carries one. Y: what is left below the word above. -/
theorem digit_back (X N M P Y g h c d : Nat) (hY : X = Y + h * P) (hend : X + g * M = N + (c + d) * P) (hgt : h < c + d) (hgq : g ≤ N / M + 1) (hYP : Y < P) (hMP : M < P) :
    g = N / M + 1 ∧ c + d = h + 1 ∧ Y + M = N % M + P := by
  have e1 : (c + d) * P = h * P + (c + d - h) * P := by rw [← Nat.add_mul]; congr 1; omega
  have hq := Nat.div_add_mod N M
  rw [Nat.mul_comm] at hq
  have h1 : 1 * P ≤ (c + d - h) * P := Nat.mul_le_mul_right P (by omega)
  have hg : g = N / M + 1 := by
    rcases Nat.lt_or_ge (N / M) g with hl | hl
    · omega
    · have : g * M ≤ N / M * M := Nat.mul_le_mul_right M hl
      omega
  have hgM : g * M = N / M * M + M := by rw [hg, Nat.add_mul, Nat.one_mul]
  have he : c + d - h = 1 := by
    rcases Nat.lt_or_ge (c + d - h) 2 with h2 | h2
    · omega
    · have : 2 * P ≤ (c + d - h) * P := Nat.mul_le_mul_right P h2
      have := Nat.mod_le N M
      omega
  rw [he, Nat.one_mul] at e1
  exact ⟨hg, by omega, by omega⟩
end Go.Proofs.YthplbfjpmnpjmaaDoor

namespace Go.Proofs.YthplbfjpmnpjmaaDoor
open Go.RowKit
attribute [local go_sem ↓] Go.wp_at_zero Go.wp_at_succ

/-- One word's quotient: what is stored, what is left. -/
theorem small_step (B Q Q' A x d q r r' k V : Nat) (h : Q' = Q + q * B ^ k) (hq : q * d + r' = x + B * r) (hinv : Q * d + r * B ^ (k + 1) + (A + x * B ^ k) = V) :
    Q' * d + r' * B ^ k + A = V := by
  have e1 : r * B ^ (k + 1) = B * r * B ^ k := by rw [Nat.pow_succ, Nat.mul_comm (B ^ k) B, ← Nat.mul_assoc, Nat.mul_comm r B]
  have e2 : (q * d + r') * B ^ k = (x + B * r) * B ^ k := by rw [hq]
  simp only [Nat.add_mul] at e2
  have e3 : q * B ^ k * d = q * d * B ^ k := by rw [Nat.mul_assoc, Nat.mul_comm (B ^ k), ← Nat.mul_assoc]
  rw [h, Nat.add_mul, e3]
  omega

set_option maxHeartbeats 2000000 in
set_option maxRecDepth 100000 in
theorem small_any (ao : Option Addr) (ca d : Nat) (a : List Nat) (w : World) (ha : isWs w ao ca a) (hla : a.length ≤ 30000) (hd0 : 0 < d) (hd : d < 4294967296) :
    Calls Tryd.prog 89 #[.slice ao a.length ca, .int .u32 (d : Int)] w fun e w' => ∃ o cap l r, e = .returned (.tuple #[.slice o (trimL l).length cap, .int .u32 ((r : Nat) : Int)]) ∧ isWs w' o cap (trimL l) ∧ val 4294967296 l * d + r = val 4294967296 a ∧ r < d ∧ Below w.heap.size w w' := by
  obtain ⟨i0, hi, hz0, hz1, hz2⟩ := info_parts Tryd.infoU
  obtain ⟨n, hn⟩ : ∃ n, n = a.length := ⟨_, rfl⟩
  rw [← hn]
  rw [← hn] at hla
  have hd0i : ¬ (d : Int) = 0 := by omega
  have HN := hide hn
  have HA := hide ha
  clear hn ha
  go_enter Tryd.func89, Tryd.ntmps89
  go_wp2_with (at_make; go_must (refine wpList_make_full _ rfl _ _ 35 rfl w.heap.size 106 i0 (.int .u32 0) 1 Tryd.underlying35 hi hz0 hz1 .i64 .i64 _ _ n rfl rfl (by go_num) (by go_num) (by rw [hz2]; omega) (by unfold maxLen; omega) (Nat.le_refl _) ?_; intro wm hown hgrow))
  have hbm : Below w.heap.size w wm := (Below.refl _ _).grown hgrow (Nat.le_refl _) (by simp)
  have hrow : ownU wm w.heap.size w.heap.size (List.replicate n 0) := by
    unfold ownU
    rw [List.length_replicate, ← made_zeros]
    exact hown
  clear hown hgrow
  go_loopw [7, 8] (fun rv v wr => ∃ (k r : Nat) (Q : List Nat), k ≤ n ∧ v = .int .i64 ((k : Int) - 1) ∧ rv = .int .u64 (r : Int) ∧ r < d ∧ Q.length = n ∧ (∀ x ∈ Q, x < 4294967296) ∧ (∀ j, j < k → Q[j]? = some 0) ∧ val 4294967296 Q * d + r * 4294967296 ^ k + val 4294967296 (a.take k) = val 4294967296 a ∧ ownU wr w.heap.size w.heap.size Q ∧ Below w.heap.size w wr) (fun _ v _ => (intOf v + 1).toNat)
  case atStart =>
    refine ⟨n, 0, List.replicate n 0, Nat.le_refl _, by go_num, rfl, hd0, by simp, ?_, ?_, ?_, hrow, hbm⟩
    · intro x hx
      rw [List.eq_of_mem_replicate hx]; omega
    · intro j hj
      rw [List.getElem?_replicate, if_pos hj]
    · rw [val_zeros, List.take_of_length_le (by rw [← unhide HN]; exact Nat.le_refl _)]; simp
  case round =>
    obtain ⟨k, r, Q, hk, rfl, rfl, hr, hQl, hQs, hQz, hQv, hQo, hbr⟩ := hrel
    clear hrow hbm
    cases k with
    | zero =>
      have hws := hQo.ws hQs (by omega)
      have htr := trim_any _ _ Q wr hws
      rw [hQl] at htr
      have HTR := hide htr
      have hval : val 4294967296 Q * d + r = val 4294967296 a := by simpa [val] using hQv
      have HVAL := hide hval
      have hrm : (r : Int) % 4294967296 = (r : Int) := by omega
      clear htr hval hQv hws
      go_wp2_with fail
      refine (unhide HTR).mono ?_
      rintro e w1 ⟨o, cap, rfl, hw1, rfl⟩
      go_wp2
      go_ret2
      exact ⟨o, cap, Q, r, rfl, hw1, unhide HVAL, hr, hbr⟩
    | succ k =>
      have hki : ((k + 1 : Nat) : Int) - 1 = (k : Int) := by omega
      rw [hki]
      clear hki
      have hkl : k < a.length := by rw [← unhide HN]; omega
      obtain ⟨x, hx⟩ : ∃ x, a[k]? = some x := ⟨a[k], List.getElem?_eq_getElem hkl⟩
      obtain ⟨g, eg, hg, hc⟩ := (unhide HA).cells (fun e => by rw [e] at hkl; simp at hkl)
      subst eg
      have cx := (hbr.cell (p := ⟨g, k, none⟩) hg).trans (hc k x hx)
      have hxs := (unhide HA).small x (List.mem_of_getElem? hx)
      have hz := hQz k (by omega)
      have cr := hQo.cell hz
      have zr := hQo.frozen k
      have hor := or_words' x r hxs (by omega)
      obtain ⟨t, ht⟩ : ∃ t, t = x + 4294967296 * r := ⟨_, rfl⟩
      rw [← ht] at hor
      obtain ⟨q, hq⟩ : ∃ q, q = t / d := ⟨_, rfl⟩
      obtain ⟨r', hr'⟩ : ∃ r', r' = t % d := ⟨_, rfl⟩
      have hqi : (t : Int) / (d : Int) = (q : Int) := by rw [hq]; simp
      have hri : (t : Int) % (d : Int) = (r' : Int) := by rw [hr']; simp
      have hqr : q * d + r' = t := by rw [hq, hr', Nat.mul_comm]; exact Nat.div_add_mod t d
      have hrd : r' < d := by rw [hr']; exact Nat.mod_lt _ hd0
      have htb : t < d * 4294967296 := by
        have := Nat.mul_le_mul_right 4294967296 (by omega : r + 1 ≤ d)
        rw [Nat.add_mul] at this
        omega
      have hqb : q < 4294967296 := by rw [hq]; exact Nat.div_lt_of_lt_mul htb
      have hqm : (q : Int) % 4294967296 = (q : Int) := by omega
      have htu : t < 18446744073709551616 := by omega
      have hvs := val_set 4294967296 Q k 0 q hz
      rw [val_take_succ _ a k x hx] at hQv
      have hnew := small_step 4294967296 (val 4294967296 Q) (val 4294967296 (Q.set k q)) (val 4294967296 (a.take k)) x d q r r' k (val 4294967296 a) (by omega) (by omega) hQv
      have HNEW := hide hnew
      have hkb : (k : Int) < (n : Int) := by omega
      clear hnew hvs ht hq hr' hqr htb hQv hx hz hc hkl
      go_wp2
      go_roundw
      case rel =>
        refine ⟨k, r', Q.set k q, by omega, by go_num, by rw [hri], hrd, by rw [List.length_set]; exact hQl, mem_set hQs hqb, ?_, unhide HNEW, hQo.set k q, hbr.setCell (p := ⟨w.heap.size, k, none⟩) (Nat.le_refl _) _⟩
        intro j hj1
        rw [List.getElem?_set_ne (by omega)]
        exact hQz j (by omega)
      case measure => simp [intOf]
end Go.Proofs.YthplbfjpmnpjmaaDoor
