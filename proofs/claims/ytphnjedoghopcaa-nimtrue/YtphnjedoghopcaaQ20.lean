/-
  package nim, walked: small functions of heaps; slices.Max, slices.Clone.
-/
import Derived.Test.YtphnjedoghopcaaQ10
import Derived.Test.YtphnjedoghopcaaM44
namespace Go.Proofs.Ytphnjedoghopcaa
open Go.RowKit
attribute [local go_sem ↓] Go.wp_at_zero Go.wp_at_succ

def natI (x : List Nat) : List Int := x.map fun n : Nat => (n : Int)
theorem natI_len (x : List Nat) : (natI x).length = x.length := by simp [natI]
theorem natI_at {x : List Nat} {k : Nat} (hk : k < x.length) : (natI x)[k]? = some (x[k]! : Int) := by
  rw [getElem!_pos x k hk]; simp [natI, hk]
theorem isIs.nat {w : World} {B : Nat} {ao : Option Addr} {cap : Nat} {x : List Nat} (h : isIs w B ao cap (natI x)) {k : Nat} (hk : k < x.length) : ∃ g off, ao = some ⟨g, off, none⟩ ∧ g < B ∧ w.cell? ⟨g, off + k, none⟩ = some (.int .i64 (x[k]! : Int)) := h.at_ (natI_at hk)

set_option maxHeartbeats 1000000 in
set_option maxRecDepth 100000 in
theorem of_any (B B' : Nat) (wo ho : Option Addr) (wc hc : Nat) (W x : List Nat) (w : World) (hW : isIs w B wo wc (natI W)) (hx : isIs w B' ho hc (natI x)) (hlt : ∀ y ∈ x, y < W.length) (hv : ∀ i : Nat, W[i]! < 4096) :
    Calls Try.prog 30 #[.slice wo W.length wc, .slice ho x.length hc] w fun e w' => e = .returned (.int .i64 (xorL W x : Int)) ∧ w' = w := by
  have hl1 := hW.1
  have hl2 := hx.1
  have hm1 := hW.2.1
  have hm2 := hx.2.1
  rw [natI_len] at hl1 hl2
  unfold maxLen at hm1 hm2
  have HW := hide hW
  have HX := hide hx
  have HLT := hide hlt
  have HV := hide hv
  clear hW hx hlt hv
  go_enter Try.func30, Try.ntmps30
  go_wp2
  go_loop [5, 10] (fun sv iv => ∃ (k s : Nat), k ≤ x.length ∧ iv = .int .i64 (k : Int) ∧ sv = .int .i64 (s : Int) ∧ s < 4096 ∧ Hid (s = xorL W (x.take k))) (fun _ iv => x.length - (intOf iv).toNat)
  case atStart => exact ⟨0, 0, Nat.zero_le _, rfl, rfl, by omega, hide rfl⟩
  case round =>
    obtain ⟨k, s, hk, rfl, rfl, hs, HS⟩ := hrel
    by_cases hlt : k < x.length
    · have hlti : (k : Int) < (x.length : Int) := by omega
      have hk0 : (0 : Int) ≤ (k : Int) := by omega
      obtain ⟨g, off, e, hg, c0⟩ := (unhide HX).nat hlt
      subst e
      have hy : x[k]! < W.length := by rw [getElem!_pos x k hlt]; exact unhide HLT _ (List.getElem_mem hlt)
      obtain ⟨g2, off2, e2, hg2, c1⟩ := (unhide HW).nat hy
      subst e2
      have hv1 := unhide HV x[k]!
      have htk : x.take (k + 1) = x.take k ++ [x[k]!] := by rw [getElem!_pos x k hlt]; exact List.take_succ_eq_append_getElem hlt
      generalize x[k]! = y at *
      have hxs : xorL W (x.take (k + 1)) = s ^^^ W[y]! := by rw [htk, unhide HS]; unfold xorL; rw [List.foldl_append]; rfl
      have hyi : (y : Int) < (W.length : Int) := by omega
      have hy0 : (0 : Int) ≤ (y : Int) := by omega
      generalize W[y]! = v at *
      have hxx := xor_i64 s v (by omega) (by omega)
      have hb : s ^^^ v < 4096 := Nat.xor_lt_two_pow (n := 12) hs hv1
      generalize s ^^^ v = z at *
      have HXS := hide hxs.symm
      clear hxs htk
      go_wp2
      go_round
      case rel => exact ⟨k + 1, z, by omega, by go_num, rfl, hb, HXS⟩
      case measure => simp only [intOf]; omega
    · have hlti : ¬ (k : Int) < (x.length : Int) := by omega
      go_wp2
      go_ret
      exact ⟨ret_int (by rw [unhide HS, List.take_of_length_le (by omega)]), rfl⟩

def heapB (n : Int) : Bool := decide (0 ≤ n) && decide (n ≤ 400)
set_option maxHeartbeats 400000 in
theorem isHeap_any (n : Int) (w : World) :
    Calls Try.prog 19 #[.int .i64 n] w fun e w' => e = .returned (.bool (heapB n)) ∧ w' = w := by
  go_enter Try.func19, Try.ntmps19
  go_wp2
  all_goals go_ret
  all_goals refine ⟨ret_bool ?_, rfl⟩
  all_goals (unfold heapB; simp; try omega)

set_option maxHeartbeats 1000000 in
set_option maxRecDepth 100000 in
theorem areHeaps_any (B : Nat) (ao : Option Addr) (cap : Nat) (r : List Int) (w : World) (h : isIs w B ao cap r) :
    Calls Try.prog 21 #[.slice ao r.length cap] w fun e w' => e = .returned (.bool (r.all heapB)) ∧ w' = w := by
  have hl := h.1
  have hm := h.2.1
  unfold maxLen at hm
  obtain ⟨R, hR⟩ : ∃ R, R = r.all heapB := ⟨_, rfl⟩
  rw [← hR]
  have HR := hide hR
  have HH := hide h
  clear h hR
  go_enter Try.func21, Try.ntmps21
  go_wp2
  go_loop [7] (fun iv => ∃ k : Nat, k ≤ r.length ∧ iv = .int .i64 (k : Int) ∧ Hid (R = (r.drop k).all heapB)) (fun iv => r.length - (intOf iv).toNat)
  case atStart => exact ⟨0, Nat.zero_le _, rfl, HR⟩
  case round =>
    obtain ⟨k, hk, rfl, HK⟩ := hrel
    by_cases hlt : k < r.length
    · have hlti : (k : Int) < (r.length : Int) := by omega
      have hk0 : (0 : Int) ≤ (k : Int) := by omega
      obtain ⟨g, off, e, hg, c0⟩ := (unhide HH).at_ (List.getElem?_eq_getElem hlt)
      subst e
      have hst := unhide HK
      rw [List.drop_eq_getElem_cons hlt, List.all_cons] at hst
      generalize r[k] = x at *
      have HIS := hide (isHeap_any x)
      obtain ⟨b, hb⟩ : ∃ b, b = heapB x := ⟨_, rfl⟩
      rw [← hb] at HIS hst
      have HST := hide hst
      clear hb hst
      go_wp2_with fail
      refine (unhide HIS _).mono ?_
      rintro e w1 ⟨rfl, rfl⟩
      cases b with
      | true =>
        have HS2 : Hid (R = (r.drop (k + 1)).all heapB) := hide (by rw [unhide HST, Bool.true_and])
        go_wp2
        go_round
        case rel => exact ⟨k + 1, by omega, by go_num, HS2⟩
        case measure => simp only [intOf]; omega
      | false =>
        go_wp2
        go_ret
        exact ⟨ret_bool (by rw [unhide HST]; rfl), rfl⟩
    · have hlti : ¬ (k : Int) < (r.length : Int) := by omega
      go_wp2
      go_ret
      exact ⟨ret_bool (by rw [unhide HK, List.drop_eq_nil_of_le (by omega)]; rfl), rfl⟩

def maxL (x : List Nat) : Nat := x.foldl max 0
theorem maxL_snoc (x : List Nat) (y : Nat) : maxL (x ++ [y]) = max (maxL x) y := by simp [maxL]
theorem maxL_ge : ∀ (x : List Nat) (a y : Nat), y ∈ x → y ≤ x.foldl max a
  | z :: x, a, y, h => by
    rw [List.foldl_cons]
    have big : ∀ (l : List Nat) (b : Nat), b ≤ l.foldl max b := by
      intro l
      induction l with
      | nil => intro b; exact Nat.le_refl _
      | cons u l ih => intro b; rw [List.foldl_cons]; have := ih (max b u); omega
    rcases List.mem_cons.1 h with rfl | h
    · have := big x (max a y); omega
    · exact maxL_ge x _ y h
theorem maxL_le : ∀ (x : List Nat) (a n : Nat), a ≤ n → (∀ y ∈ x, y ≤ n) → x.foldl max a ≤ n
  | [], a, n, h, _ => h
  | z :: x, a, n, h, hx => by rw [List.foldl_cons]; exact maxL_le x _ n (by have := hx z (by simp); omega) (fun y hy => hx y (by simp [hy]))

set_option maxHeartbeats 1000000 in
set_option maxRecDepth 100000 in
theorem Max_any (B : Nat) (ao : Option Addr) (cap : Nat) (x : List Nat) (w : World) (h : isIs w B ao cap (natI x)) (hne : 0 < x.length) :
    Calls Try.prog 32 #[.slice ao x.length cap] w fun e w' => e = .returned (.int .i64 (maxL x : Int)) ∧ w' = w := by
  have hl := h.1
  have hm := h.2.1
  rw [natI_len] at hl
  unfold maxLen at hm
  have hn1 : ¬ (x.length : Int) < 1 := by omega
  have hni : (0 : Int) < (x.length : Int) := by omega
  obtain ⟨g, off, e, hg, c0⟩ := h.nat hne
  subst e
  rw [Nat.add_zero] at c0
  have HH := hide h
  have H1 : Hid (x[0]! = maxL (x.take 1)) := hide (by
    cases x with
    | nil => simp at hne
    | cons y x => simp [maxL])
  generalize x[0]! = y0 at *
  clear h
  go_enter Try.func32, Try.ntmps32
  go_wp2
  go_loop [3, 4] (fun mv iv => ∃ (k m : Nat), 1 ≤ k ∧ k ≤ x.length ∧ iv = .int .i64 (k : Int) ∧ mv = .int .i64 (m : Int) ∧ Hid (m = maxL (x.take k))) (fun _ iv => x.length - (intOf iv).toNat)
  case atStart => exact ⟨1, y0, Nat.le_refl _, hne, rfl, rfl, H1⟩
  case round =>
    obtain ⟨k, m, hk1, hk, rfl, rfl, HM⟩ := hrel
    by_cases hlt : k < x.length
    · have hlti : (k : Int) < (x.length : Int) := by omega
      have hk0 : (0 : Int) ≤ (k : Int) := by omega
      obtain ⟨g2, off2, e2, hg2, c1⟩ := (unhide HH).nat hlt
      simp only [Option.some.injEq, Addr.mk.injEq, and_true] at e2
      obtain ⟨rfl, rfl⟩ := e2
      have hsn : maxL (x.take (k + 1)) = max m x[k]! := by rw [List.take_succ_eq_append_getElem hlt, maxL_snoc, unhide HM, getElem!_pos x k hlt]
      generalize x[k]! = y at *
      have HSN := hide hsn
      clear hsn
      go_wp2
      go_round
      case rel => exact ⟨k + 1, max m y, by omega, by omega, by go_num, by go_num, hide (unhide HSN).symm⟩
      case measure => simp only [intOf]; omega
    · have hlti : ¬ (k : Int) < (x.length : Int) := by omega
      go_wp2
      go_ret
      exact ⟨ret_int (by rw [unhide HM, List.take_of_length_le (by omega)]), rfl⟩
end Go.Proofs.Ytphnjedoghopcaa
