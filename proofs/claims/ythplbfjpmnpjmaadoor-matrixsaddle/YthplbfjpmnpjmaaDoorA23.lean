/-
  package matrix, walked: fraction.
-/
import Derived.Test.YthplbfjpmnpjmaaDoorA22
import Derived.Test.YthplbfjpmnpjmaaDoorShelf
import Derived.BigQuiet
import Derived.Lib.ItoaLen
namespace Go.Proofs.YthplbfjpmnpjmaaDoor
open Go.RowKit Lp
attribute [local go_sem ↓] Go.wp_at_zero Go.wp_at_succ

theorem grow_below (w : World) (k : Nat) (os : Array Obj) : Below w.heap.size w (Go.Sort.grow (w.drewN k) os) := by
  refine ⟨rfl, rfl, rfl, ?_, ?_⟩
  · simp [Go.Sort.grow, World.drewN]
  · intro i hi
    simp only [Go.Sort.grow, World.drewN]
    rw [Array.getElem?_append_left hi]
/-- Go's table of the powers of ten lies as the program lays it. -/
def isTab (w : World) : Prop := Lib.TabIs Tryd.prog w "internal/strconv.uint64pow10" .u64 Lib.pow10Tab
theorem isTab.below {w w' : World} (h : isTab w) (hb : Below w.heap.size w w') : isTab w' := by
  unfold isTab Lib.TabIs World.var? at *
  cases hg : Tryd.prog.globalNamed "internal/strconv.uint64pow10" with
  | none => simp [hg] at h
  | some g =>
    simp only [hg, Option.bind_some] at h ⊢
    have hlt : g < w.heap.size := by
      rcases Nat.lt_or_ge g w.heap.size with h' | h'
      · exact h'
      · rw [Array.getElem?_eq_none h'] at h; simp at h
    rw [hb.block g hlt]
    exact h
/-- A whole number's numeral. -/
def itS (n : Int) : ByteArray := ⟨(Lib.itoa n).toArray⟩
theorem FormatInt_any (n : Int) (h : n.natAbs < 9223372036854775808) (w : World) (ht : isTab w) :
    Calls Tryd.prog 36 #[.int .i64 n, .int .i64 10] w fun e w' => e = .returned (.string (itS n)) ∧ Below w.heap.size w w' := by
  refine (Tryd.strconv_FormatInt_10 n (by omega) (by omega) w ht).mono ?_
  rintro e w' ⟨rfl, k, os, rfl⟩
  exact ⟨rfl, grow_below w k os⟩
theorem itS_size (n : Int) (h : n.natAbs < 9223372036854775808) : (itS n).size ≤ 21 := by
  have := Lib.itoa_length_le n (by omega) (by omega)
  unfold itS
  simpa [ByteArray.size] using this
/-- A fraction in lowest terms, as it is written. -/
def frS (n : Int) (d : Nat) : ByteArray := if d = Nat.gcd n.natAbs d then itS (n.tdiv (Nat.gcd n.natAbs d : Nat)) else itS (n.tdiv (Nat.gcd n.natAbs d : Nat)) ++ ⟨#[47]⟩ ++ itS ((d : Int).tdiv (Nat.gcd n.natAbs d : Nat))
theorem tdiv_nab (n : Int) (g : Nat) : (n.tdiv (g : Int)).natAbs ≤ n.natAbs := by
  rw [Int.natAbs_tdiv]
  exact Nat.div_le_self _ _
theorem ret_str {a b : ByteArray} (h : a = b) : Ending.returned (.string a) = .returned (.string b) := by rw [h]

set_option maxHeartbeats 4000000 in
theorem fraction_any (n : Int) (d : Nat) (hn : n.natAbs < 4611686018427387904) (hd : d < 4611686018427387904) (hd1 : 1 ≤ d) (w : World) (ht : isTab w) :
    Calls Tryd.prog 18 #[.int .i64 n, .int .i64 (d : Int)] w fun e w' => e = .returned (.string (frS n d)) ∧ Below w.heap.size w w' := by
  have hD := mDivisor_any n.natAbs d w (by omega) (by omega)
  have q1 := tdiv_nab n (Nat.gcd n.natAbs d)
  have q2 := tdiv_nab (d : Int) (Nat.gcd n.natAbs d)
  have HFR : Hid (frS n d = if d = Nat.gcd n.natAbs d then itS (n.tdiv (Nat.gcd n.natAbs d : Nat)) else itS (n.tdiv (Nat.gcd n.natAbs d : Nat)) ++ ⟨#[47]⟩ ++ itS ((d : Int).tdiv (Nat.gcd n.natAbs d : Nat))) := hide rfl
  have hg1 : 1 ≤ Nat.gcd n.natAbs d := Nat.gcd_pos_of_pos_right _ (by omega)
  have hgd : Nat.gcd n.natAbs d ≤ d := Nat.gcd_le_right _ (by omega)
  generalize frS n d = FR at *
  generalize Nat.gcd n.natAbs d = G at *
  obtain ⟨a, ha⟩ : ∃ a, a = n.natAbs := ⟨_, rfl⟩
  obtain ⟨nn, hnn⟩ : ∃ nn, nn = -n := ⟨_, rfl⟩
  have hw : wrap64 (-n) = nn := by rw [hnn]; exact wrap_id (by omega)
  have hmax : max n nn = (a : Int) := by rw [hnn]; omega
  rw [← ha] at hD
  obtain ⟨x, hx⟩ : ∃ x, n.tdiv (G : Int) = x := ⟨_, rfl⟩
  obtain ⟨y, hy⟩ : ∃ y, (d : Int).tdiv (G : Int) = y := ⟨_, rfl⟩
  rw [hx] at q1 HFR
  rw [hy] at q2 HFR
  have hxn : x.natAbs < 9223372036854775808 := by omega
  have hyn : y.natAbs < 9223372036854775808 := by omega
  have HF1 := hide (fun u hu => FormatInt_any x hxn u hu)
  have HF2 := hide (fun u hu => FormatInt_any y hyn u hu)
  have z1 := itS_size x hxn
  have z2 := itS_size y hyn
  generalize itS x = S1 at *
  generalize itS y = S2 at *
  have hG0 : ¬ (G : Int) = 0 := by omega
  have wx : IntKind.i64.wrap x = x := by rw [wrapI64]; exact wrap_id (by omega)
  have wy : IntKind.i64.wrap y = y := by rw [wrapI64]; exact wrap_id (by omega)
  have vx : wrap64 x = x := wrap_id (by omega)
  have vy : wrap64 y = y := wrap_id (by omega)
  have HD := hide hD
  have HT := hide ht
  have HNN := hide hnn
  have HAE := hide ha
  clear hD ht hnn ha q1 q2 hn hxn hyn
  obtain ⟨E, hE⟩ : ∃ E : Bool, ((d : Int) == (G : Int)) = E := ⟨_, rfl⟩
  have HEQ : Hid (E = true ↔ d = G) := hide (by rw [← hE, beq_iff_eq]; omega)
  have hz3 : S1.size + 1 ≤ 9223372036854775807 := by omega
  have hz4 : (S1 ++ ⟨#[47]⟩).size + S2.size ≤ 9223372036854775807 := by rw [ByteArray.size_append]; have : (⟨#[47]⟩ : ByteArray).size = 1 := rfl; omega
  go_enter Tryd.func18, Tryd.ntmps18
  go_wp2_with fail
  refine (unhide HD).mono ?_
  rintro e w1 ⟨rfl, hb1⟩
  have C1 := unhide HF1 w1 ((unhide HT).below hb1)
  have HC1 := hide C1
  have HB1 := hide hb1
  clear C1 hb1 HD HF1
  go_wp2_with fail
  refine (unhide HC1).mono ?_
  rintro e w2 ⟨rfl, hb2⟩
  have HB2 := hide ((unhide HB1).trans (hb2.mono (unhide HB1).size))
  clear HC1 HB1 hb2
  cases E
  · have C2 := unhide HF2 w2 ((unhide HT).below (unhide HB2))
    have HC2 := hide C2
    have HE : Hid (S1 ++ ⟨#[47]⟩ ++ S2 = FR) := hide (by rw [unhide HFR, if_neg (fun e => by have := (unhide HEQ).2 e; cases this)])
    clear C2 HF2 HFR
    go_wp2_with fail
    refine (unhide HC2).mono ?_
    rintro e w3 ⟨rfl, hb3⟩
    have HB3 := hide ((unhide HB2).trans (hb3.mono (unhide HB2).size))
    clear hb3 HC2
    go_wp2
    go_ret
    exact ⟨ret_str (unhide HE), unhide HB3⟩
  · have HE : Hid (S1 = FR) := hide (by rw [unhide HFR, if_pos ((unhide HEQ).1 rfl)])
    clear HF2 HFR
    go_wp2
    go_ret
    exact ⟨ret_str (unhide HE), unhide HB2⟩
end Go.Proofs.YthplbfjpmnpjmaaDoor
