/-
  parlourbig's Rat.SetString of a whole number, walked.
  Plain mathematics of decimal digits, the least first, and of a row that is turned round in place.
  parlourbig's numbers as decimal texts: Text, String.
-/
import Derived.Test.YthplbfjpmnpjmaaDoorJ15
import Derived.Test.YthplbfjpmnpjmaaDoorJ1
import Derived.Lib.ItoaNum
import Derived.Test.YthplbfjpmnpjmaaDoorB4
namespace Go.Proofs.YthplbfjpmnpjmaaDoor
open Go.RowKit
attribute [local go_sem ↓] Go.wp_at_zero Go.wp_at_succ

theorem ext_zero (S : ByteArray) : S.extract 0 0 = ⟨#[]⟩ := by
  apply ByteArray.ext
  rw [ByteArray.data_extract]
  simp
theorem ext_app (S : ByteArray) {k l : Nat} (h : k ≤ l) : S.extract 0 k ++ S.extract k l = S.extract 0 l := by
  apply ByteArray.ext
  rw [ByteArray.data_append, ByteArray.data_extract, ByteArray.data_extract, ByteArray.data_extract, Array.extract_append_extract, Nat.min_eq_left (Nat.zero_le _), Nat.max_eq_right h]
theorem ext_all (S : ByteArray) : S.extract 0 S.size = S := by
  apply ByteArray.ext
  rw [ByteArray.data_extract]
  exact Array.extract_size

set_option maxHeartbeats 4000000 in
set_option maxRecDepth 100000 in
theorem SetStr_int (b : Nat) (z : Int) (S : ByteArray) (w : World) (hb : isTR w b) (hS : S.data.toList = Lib.itoa z) (hZ : z.natAbs < 9223372036854775808) (hsz : S.size ≤ 1000) :
    Calls Tryd.prog 21 #[.pointer (some ⟨b, 0, none⟩), .string S] w (RsE b (z : Rat) w) := by
  have HNO : Hid (∀ k (hk : k < S.size), (S[k].toNat = 45 ∨ (48 ≤ S[k].toNat ∧ S[k].toNat ≤ 57))) := hide (fun k hk => by
    refine itoa_byte z _ ?_
    rw [← hS]
    have : S[k] = S.data.toList[k]'(by rw [len_data]; exact hk) := rfl
    rw [this]
    exact List.getElem_mem _)
  have HEX : Hid (∀ k l, k ≤ l → S.extract 0 k ++ S.extract k l = S.extract 0 l) := hide (fun k l h => ext_app S h)
  have HE0 := hide (ext_zero S)
  have HEA := hide (ext_all S)
  have hblt := hb.a.nb.lt
  obtain ⟨w1, hw1⟩ : ∃ w1, w1 = w.alloc (.cells #[.bool false, .slice none 0 0] 37 (0, 0)) := ⟨_, rfl⟩
  have hsz1 : w1.heap.size = w.heap.size + 1 := by rw [hw1]; simp
  have hb1 : Below w.heap.size w w1 := by rw [hw1]; exact (Below.refl _ _).alloc (Nat.le_refl _) _
  have ht1 : isTo w1 w.heap.size 0 := by rw [hw1]; exact new_to w
  have HS1 := hide (SetString_z w.heap.size z S w1 ht1 hS hZ hsz)
  have HB := hide hb
  have HW1 := hide hw1
  have HB1 := hide hb1
  clear hb hw1 hb1 ht1 hS
  go_enter Tryd.func21, Tryd.ntmps21
  go_wp2
  go_loopw [6] (fun iv wr => ∃ k : Nat, k ≤ S.size ∧ iv = .int .i64 (k : Int) ∧ wr = w) (fun iv _ => S.size - (intOf iv).toNat)
  case atStart => exact ⟨0, Nat.zero_le _, rfl, rfl⟩
  case round =>
    obtain ⟨k, hk, rfl, hwe⟩ := hrel
    replace hwe := hwe.symm
    subst hwe
    by_cases hkl : k < S.size
    · have hne := unhide HNO k hkl
      have hki : (k : Int) < (S.size : Int) := by omega
      have hk0 : (0 : Int) ≤ (k : Int) := by omega
      have hnb : ((S[k].toNat : Int) == 47) = false := by simp; omega
      clear hne
      go_wp2
      go_roundw
      case rel => exact ⟨k + 1, by omega, by go_num, trivial⟩
      case measure => simp only [intOf]; omega
    · obtain rfl : k = S.size := by omega
      have hki : ¬ (S.size : Int) < (S.size : Int) := by omega
      go_wp2
      go_loopw [1, 10, 11] (fun sv ev iv wr => ∃ k : Nat, k ≤ S.size ∧ iv = .int .i64 (k : Int) ∧ sv = .string S ∧ ev = .int .i64 0 ∧ wr = w) (fun _ _ iv _ => S.size - (intOf iv).toNat)
      case atStart => exact ⟨0, Nat.zero_le _, rfl, rfl, rfl, rfl⟩
      case round =>
        obtain ⟨k, hk, rfl, rfl, rfl, hwe⟩ := hrel
        replace hwe := hwe.symm
        subst hwe
        by_cases hkl : k < S.size
        · have hne := unhide HNO k hkl
          have hki : (k : Int) < (S.size : Int) := by omega
          have hk0 : (0 : Int) ≤ (k : Int) := by omega
          have hnb : ((S[k].toNat : Int) == 101) = false := by simp; omega
          have hnb2 : ((S[k].toNat : Int) == 69) = false := by simp; omega
          clear hne
          go_wp2
          go_roundw
          case rel => exact ⟨k + 1, by omega, by go_num, rfl, rfl, trivial⟩
          case measure => simp only [intOf]; omega
        · obtain rfl : k = S.size := by omega
          have hki : ¬ (S.size : Int) < (S.size : Int) := by omega
          go_wp2
          go_loopw [10, 14, 15, 16] (fun ev tv dv iv wr => ∃ (k : Nat) (T : ByteArray), k ≤ S.size ∧ iv = .int .i64 (k : Int) ∧ tv = .string T ∧ ev = .int .i64 0 ∧ dv = .bool false ∧ Hid (T = S.extract 0 k) ∧ wr = w) (fun _ _ _ iv _ => S.size - (intOf iv).toNat)
          case atStart => exact ⟨0, ⟨#[]⟩, Nat.zero_le _, rfl, rfl, rfl, rfl, hide (unhide HE0).symm, rfl⟩
          case round =>
            obtain ⟨k, T, hk, rfl, rfl, rfl, rfl, HT, hwe⟩ := hrel
            replace hwe := hwe.symm
            subst hwe
            have hTs : T.size = k := by
              rw [unhide HT, ByteArray.size_extract]; omega
            by_cases hkl : k < S.size
            · have hne := unhide HNO k hkl
              have hki : (k : Int) < (S.size : Int) := by omega
              have hk0 : (0 : Int) ≤ (k : Int) := by omega
              have hnb : ((S[k].toNat : Int) == 46) = false := by simp; omega
              have hk1 : (k : Int) + 1 ≤ (S.size : Int) := by omega
              have hkb : (S.size : Int) ≤ 1000 := by omega
              have hlen : ¬ 9223372036854775807 < T.size + (S.extract k (k + 1)).size := by rw [ByteArray.size_extract, hTs]; omega
              have HTU : Hid (T ++ S.extract k (k + 1) = S.extract 0 (k + 1)) := hide (by rw [unhide HT]; exact unhide HEX k (k + 1) (by omega))
              clear hne HT hTs
              go_wp2
              go_roundw
              case rel => exact ⟨k + 1, _, by omega, by go_num, rfl, rfl, rfl, HTU, trivial⟩
              case measure => simp only [intOf]; omega
            · obtain rfl : k = S.size := by omega
              have hki : ¬ (S.size : Int) < (S.size : Int) := by omega
              have hTS : T = S := (unhide HT).trans (unhide HEA)
              subst hTS
              clear hTs HT
              go_wp2_with fail
              rw [← unhide HW1]
              refine (unhide HS1).mono ?_
              rintro e w2 ⟨rfl, i2, p2⟩
              have hs2 := p2.but.size
              have HI2 := hide i2
              have HB2 := hide ((unhide HB1).trans (p2.but.fresh (B := w.heap.size) (by omega) (by omega)))
              clear i2 p2 HS1
              obtain ⟨w3, hw3⟩ : ∃ w3, w3 = w2.alloc (.cells #[.bool false, .slice none 0 0] 37 (0, 0)) := ⟨_, rfl⟩
              have hs3 : w3.heap.size = w2.heap.size + 1 := by rw [hw3]; simp
              have hb3 : Below w2.heap.size w2 w3 := by rw [hw3]; exact (Below.refl _ _).alloc (Nat.le_refl _) _
              have ht3 : isTo w3 w2.heap.size 0 := by rw [hw3]; exact new_to w2
              have HT3 := hide ht3
              have HB3 := hide hb3
              have HW3 := hide hw3
              have HN := hide (NewInt_z 10 w3 (by omega) (by omega))
              clear hw3 hb3 ht3
              go_wp2_with fail
              rw [← unhide HW3]
              refine (unhide HN).mono ?_
              rintro e w4 ⟨rfl, i4, b4⟩
              have hs4 := b4.size
              have HI4 := hide i4
              have HT4 := hide ((unhide HT3).below b4 (Nat.le_refl _))
              have HB4 := hide ((unhide HB3).trans (b4.mono (by omega)))
              clear i4 b4 HN HT3 HB3 HW3
              obtain ⟨w5, hw5⟩ : ∃ w5, w5 = w4.alloc (.cells #[.bool false, .slice none 0 0] 37 (0, 0)) := ⟨_, rfl⟩
              have hs5 : w5.heap.size = w4.heap.size + 1 := by rw [hw5]; simp
              have hb5 : Below w4.heap.size w4 w5 := by rw [hw5]; exact (Below.refl _ _).alloc (Nat.le_refl _) _
              have ht5 : isTo w5 w4.heap.size 0 := by rw [hw5]; exact new_to w4
              have HT5 := hide ht5
              have HB5 := hide hb5
              have HW5 := hide hw5
              have HN := hide (NewInt_z 0 w5 (by omega) (by omega))
              clear hw5 hb5 ht5
              go_wp2_with fail
              rw [← unhide HW5]
              refine (unhide HN).mono ?_
              rintro e w6 ⟨rfl, i6, b6⟩
              have hs6 := b6.size
              rw [hs5] at i6
              have HAB := hide (Abs_z w4.heap.size 0 (w4.heap.size + 1) 0 0 w6 ((unhide HT5).below b6 (Nat.le_refl _)) i6)
              have HB6 := hide ((unhide HB5).trans (b6.mono (by omega)))
              clear i6 b6 HN HT5 HB5 HW5
              go_wp2_with fail
              refine (unhide HAB).mono ?_
              rintro e w7 ⟨rfl, i7, p7⟩
              rw [show (((0 : Int).natAbs : Nat) : Int) = 0 from rfl] at i7
              have hs7 := p7.but.size
              have HB7 := hide ((unhide HB6).trans (p7.but.fresh (B := w4.heap.size) (by omega) (by omega)))
              rw [hs3] at HI4
              have HEXP := hide (Exp_zero w2.heap.size (w2.heap.size + 1) w4.heap.size 10 w7 ((unhide HT4).below (unhide HB7) (Nat.le_refl _)) ((unhide HI4).below (unhide HB7) (Nat.le_refl _)) i7)
              clear i7 p7 HAB HB6
              go_wp2_with fail
              refine (unhide HEXP).mono ?_
              rintro e w8 ⟨rfl, i8, p8⟩
              have hs8 := p8.but.size
              have HB8 := hide ((unhide HB4).trans (((unhide HB7).mono (by omega)).trans (p8.but.fresh (B := w2.heap.size) (by omega) (by omega))))
              have HMU := hide (Mul_self w.heap.size w2.heap.size 2 z 1 w8 ((unhide HI2).below (unhide HB8) (Nat.le_refl _)) i8 (by omega) (pow2_lt hZ) (pow2_lt (by omega)))
              clear i8 p8 HEXP HT4 HI4 HB4 HB7
              go_wp2_with fail
              refine (unhide HMU).mono ?_
              rintro e w9 ⟨rfl, i9, p9⟩
              rw [Int.mul_one] at i9
              have hs9 := p9.but.size
              have HB9 := hide ((unhide HB2).trans (((unhide HB8).mono (by omega)).trans (p9.but.fresh (B := w.heap.size) (by omega) (by omega))))
              have HSI := hide (SetInt_q b w.heap.size z w9 ((unhide HB).below (unhide HB9) (Nat.le_refl _)) i9 hZ)
              have hs0 := (unhide HB9).size
              clear i9 p9 HMU
              go_wp2_with fail
              refine (unhide HSI).mono ?_
              rintro e w10 ⟨rfl, r10, p10⟩
              have HE : Hid (isR w10 b (z : Rat) ∧ But w.heap.size b w w10) := hide ⟨r10, (But.of_below (unhide HB9)).trans (p10.mono hs0)⟩
              clear r10 p10 HSI
              go_wp2
              go_ret2
              exact ⟨rfl, (unhide HE).1, (unhide HE).2⟩
end Go.Proofs.YthplbfjpmnpjmaaDoor

namespace Go.Proofs.YthplbfjpmnpjmaaDoor

/-- The digits of a number; none of 0. -/
def dgs (n : Nat) : List UInt8 := if _h : n = 0 then [] else dgs (n / 10) ++ [UInt8.ofNat (48 + n % 10)]
termination_by n
decreasing_by omega
theorem dgs_zero : dgs 0 = [] := by rw [dgs]; simp
theorem dgs_pos (n : Nat) (h : n ≠ 0) : dgs n = dgs (n / 10) ++ [UInt8.ofNat (48 + n % 10)] := by
  conv => lhs; rw [dgs]
  rw [dif_neg h]
theorem dgs_dec (n : Nat) : n ≠ 0 → dgs n = Lib.decDigits n := by
  induction n using Nat.strongRecOn with
  | ind n ih =>
    intro h
    rw [dgs_pos n h, Lib.decDigits]
    split
    · have : n / 10 = 0 := by omega
      rw [this, dgs_zero, Nat.mod_eq_of_lt (by omega)]; rfl
    · rw [ih (n / 10) (by omega) (by omega)]
theorem dgs_len (m : Nat) : ∀ n, n < 10 ^ m → (dgs n).length ≤ m := by
  induction m with
  | zero => intro n h; have : n = 0 := by simpa using h
            rw [this, dgs_zero]; simp
  | succ m ih =>
    intro n h
    by_cases h0 : n = 0
    · rw [h0, dgs_zero]; simp
    · have := ih (n / 10) (by rw [Nat.pow_succ] at h; omega)
      rw [dgs_pos n h0]; simp; omega
theorem dgs_words (n k : Nat) (h : n < 4294967296 ^ k) : (dgs n).length ≤ 10 * k := by
  apply dgs_len
  have h1 : (4294967296 : Nat) ^ k ≤ (10 ^ 10) ^ k := Nat.pow_le_pow_left (by decide) k
  rw [← Nat.pow_mul] at h1
  omega
theorem dgs_step (N A : Nat) (D : List UInt8) (hA : A ≠ 0) (h : dgs N = dgs A ++ D.reverse) : dgs N = dgs (A / 10) ++ (D ++ [UInt8.ofNat (48 + A % 10)]).reverse := by
  rw [h, dgs_pos A hA]; simp

/-- A row while it is turned round: the first and the last i have been exchanged. -/
structure Rv (L R : List UInt8) (i : Nat) : Prop where
  len : R.length = L.length
  at_ : ∀ k, k < L.length → R[k]? = if k < i ∨ L.length ≤ k + i then L[L.length - 1 - k]? else L[k]?
theorem Rv.start (L : List UInt8) : Rv L L 0 := ⟨rfl, fun k hk => by rw [if_neg (by omega)]⟩
theorem Rv.step {L R : List UInt8} {i : Nat} {x y : UInt8} (h : Rv L R i) (hi : i + i + 1 < L.length) (hx : R[i]? = some x) (hy : R[L.length - 1 - i]? = some y) : Rv L ((R.set i y).set (L.length - 1 - i) x) (i + 1) := by
  have hl := h.len
  refine ⟨by simp [hl], fun k hk => ?_⟩
  have hxi := h.at_ i (by omega)
  rw [if_neg (by omega), hx] at hxi
  have hyi := h.at_ (L.length - 1 - i) (by omega)
  rw [if_neg (by omega), hy] at hyi
  by_cases h1 : k = L.length - 1 - i
  · subst h1
    rw [List.getElem?_set_self (by simp; omega), if_pos (by omega), hxi]
    congr 1; omega
  · rw [List.getElem?_set_ne (by omega)]
    by_cases h2 : k = i
    · subst h2
      rw [List.getElem?_set_self (by omega), if_pos (by omega), hyi]
    · rw [List.getElem?_set_ne (by omega), h.at_ k hk]
      by_cases h3 : k < i ∨ L.length ≤ k + i
      · rw [if_pos h3, if_pos (by omega)]
      · rw [if_neg h3, if_neg (by omega)]
theorem Rv.fin {L R : List UInt8} {i : Nat} (h : Rv L R i) (hi : L.length ≤ i + i + 1) : R = L.reverse := by
  apply List.ext_getElem?
  intro k
  by_cases hk : k < L.length
  · rw [h.at_ k hk, List.getElem?_reverse hk]
    split
    · rfl
    · congr 1; omega
  · rw [List.getElem?_eq_none (by have := h.len; omega), List.getElem?_eq_none (by simp; omega)]
end Go.Proofs.YthplbfjpmnpjmaaDoor

namespace Go.Proofs.YthplbfjpmnpjmaaDoor
open Go.RowKit
attribute [local go_sem ↓] Go.wp_at_zero Go.wp_at_succ

theorem Tryd.infoB : (Tryd.prog.info? 5).map (fun i => (i.zero, i.size, i.bytes)) = some (some (.int .u8 0), 1, 1) := by kernel_rfl
/-- A row of bytes of the call's own. -/
def ownY (w : World) (base : Nat) (v : Value) (l : List UInt8) : Prop := w.ownsRow base 5 1 v l.length (bvals l)
theorem ownY.slice {w : World} {base : Nat} {v : Value} {l : List UInt8} (h : ownY w base v l) : ∃ uo uc, v = .slice uo l.length uc := by
  rcases h.2 with ⟨h1, h2⟩ | ⟨g, cap, cur, h1, -⟩
  · exact ⟨none, 0, by rw [h1, h2]⟩
  · exact ⟨_, _, h1⟩
theorem ownY.keep {w w' : World} {base : Nat} {v : Value} {l : List UInt8} (h : ownY w base v l) (e : ∀ g, v.ownBlock = some g → w'.heap[g]? = w.heap[g]?) : ownY w' base v l := by
  obtain ⟨h1, h2⟩ := h
  refine ⟨h1, ?_⟩
  rcases h2 with h2 | ⟨g, cap, cur, e1, hb, hg, r⟩
  · exact .inl h2
  · exact .inr ⟨g, cap, cur, e1, hb, (e g (by rw [e1]; rfl)).trans hg, r⟩
theorem ownY.below {w w' : World} {base S : Nat} {v : Value} {l : List UInt8} (h : ownY w base v l) (k : Below S w w') (hS : w.heap.size ≤ S) : ownY w' base v l :=
  h.keep fun g hg => k.block g (by have := (World.ownsRow.lt h g hg).2; omega)
theorem ownY.conv {w : World} {base : Nat} {v : Value} {l : List UInt8} (h : ownY w base v l) (hn : l ≠ []) : (convert 115 9 v).run Tryd.prog w = .ok (.string ⟨l.toArray⟩) w := by
  rcases h.2 with ⟨h1, h2⟩ | ⟨g, cap, cur, h1, -, hg, hnc, -, -, ht⟩
  · exact absurd (List.length_eq_zero_iff.1 h2) hn
  · subst h1
    refine run_convert_bytes_back w 115 9 5 ⟨g, 0, none⟩ cap l Tryd.underlying115 Tryd.underlying5 Tryd.underlying9 fun k hk => ?_
    have h1 : (cur.toList.take (l.length * 1))[k]? = some (.int .u8 (l[k].toNat : Int)) := by rw [ht]; simp [bvals, hk]
    rw [List.getElem?_take, if_pos (by omega)] at h1
    have h2 : cur[k]? = some (.int .u8 (l[k].toNat : Int)) := by simpa using h1
    by_cases h0 : k = 0
    · subst h0; simp [Addr.add, World.cell?, hg, h2]
    · simp [Addr.add, h0, World.cell?, hg, h2]
end Go.Proofs.YthplbfjpmnpjmaaDoor
