/-
  package matrix, walked: fraction.
  gameref.RatOf of a fraction's text, walked; what matrix.fraction writes is a fraction's text.
  package matrix, walked: texts.
-/
import Derived.Test.YthplbfjpmnpjmaaDoorJ35
import Derived.BigQuiet
import Derived.Lib.ItoaLen
import Derived.Test.YthplbfjpmnpjmaaDoorJ15
import Derived.Test.YthplbfjpmnpjmaaDoorJ16
import Derived.Test.YthplbfjpmnpjmaaDoorJ18
namespace Go.Proofs.YthplbfjpmnpjmaaDoor
open Go.RowKit Lp
attribute [local go_sem ↓] Go.wp_at_zero Go.wp_at_succ

theorem grow_below (w : World) (k : Nat) (os : Array Obj) : Below w.heap.size w (Go.Sort.grow (w.drewN k) os) := by
  refine ⟨rfl, rfl, rfl, ?_, ?_⟩
  · simp [Go.Sort.grow, World.drewN]
  · intro i hi
    simp only [Go.Sort.grow, World.drewN]
    rw [Array.getElem?_append_left hi]
/-- Go's table of the powers of ten lies as the program lays it. -/
def isTab (w : World) : Prop := Lib.TabIs Tryd.prog w "internal/strconv.uint64pow10" .u64 Lib.pow10Tab
theorem isTab.below {w w' : World} (h : isTab w) (hb : Below w.heap.size w w') : isTab w' := by
  unfold isTab Lib.TabIs World.var? at *
  cases hg : Tryd.prog.globalNamed "internal/strconv.uint64pow10" with
  | none => simp [hg] at h
  | some g =>
    simp only [hg, Option.bind_some] at h ⊢
    have hlt : g < w.heap.size := by
      rcases Nat.lt_or_ge g w.heap.size with h' | h'
      · exact h'
      · rw [Array.getElem?_eq_none h'] at h; simp at h
    rw [hb.block g hlt]
    exact h
/-- A whole number's numeral. -/
def itS (n : Int) : ByteArray := ⟨(Lib.itoa n).toArray⟩
theorem FormatInt_any (n : Int) (h : n.natAbs < 9223372036854775808) (w : World) (ht : isTab w) :
    Calls Tryd.prog 36 #[.int .i64 n, .int .i64 10] w fun e w' => e = .returned (.string (itS n)) ∧ Below w.heap.size w w' := by
  refine (Tryd.strconv_FormatInt_10 n (by omega) (by omega) w ht).mono ?_
  rintro e w' ⟨rfl, k, os, rfl⟩
  exact ⟨rfl, grow_below w k os⟩
theorem itS_size (n : Int) (h : n.natAbs < 9223372036854775808) : (itS n).size ≤ 21 := by
  have := Lib.itoa_length_le n (by omega) (by omega)
  unfold itS
  simpa [ByteArray.size] using this
/-- A fraction in lowest terms, as it is written. -/
def frS (n : Int) (d : Nat) : ByteArray := if d = Nat.gcd n.natAbs d then itS (n.tdiv (Nat.gcd n.natAbs d : Nat)) else itS (n.tdiv (Nat.gcd n.natAbs d : Nat)) ++ ⟨#[47]⟩ ++ itS ((d : Int).tdiv (Nat.gcd n.natAbs d : Nat))
theorem tdiv_nab (n : Int) (g : Nat) : (n.tdiv (g : Int)).natAbs ≤ n.natAbs := by
  rw [Int.natAbs_tdiv]
  exact Nat.div_le_self _ _
theorem ret_str {a b : ByteArray} (h : a = b) : Ending.returned (.string a) = .returned (.string b) := by rw [h]

set_option maxHeartbeats 4000000 in
theorem fraction_any (n : Int) (d : Nat) (hn : n.natAbs < 4611686018427387904) (hd : d < 4611686018427387904) (hd1 : 1 ≤ d) (w : World) (ht : isTab w) :
    Calls Tryd.prog 18 #[.int .i64 n, .int .i64 (d : Int)] w fun e w' => e = .returned (.string (frS n d)) ∧ Below w.heap.size w w' := by
  have hD := mDivisor_any n.natAbs d w (by omega) (by omega)
  have q1 := tdiv_nab n (Nat.gcd n.natAbs d)
  have q2 := tdiv_nab (d : Int) (Nat.gcd n.natAbs d)
  have HFR : Hid (frS n d = if d = Nat.gcd n.natAbs d then itS (n.tdiv (Nat.gcd n.natAbs d : Nat)) else itS (n.tdiv (Nat.gcd n.natAbs d : Nat)) ++ ⟨#[47]⟩ ++ itS ((d : Int).tdiv (Nat.gcd n.natAbs d : Nat))) := hide rfl
  have hg1 : 1 ≤ Nat.gcd n.natAbs d := Nat.gcd_pos_of_pos_right _ (by omega)
  have hgd : Nat.gcd n.natAbs d ≤ d := Nat.gcd_le_right _ (by omega)
  generalize frS n d = FR at *
  generalize Nat.gcd n.natAbs d = G at *
  obtain ⟨a, ha⟩ : ∃ a, a = n.natAbs := ⟨_, rfl⟩
  obtain ⟨nn, hnn⟩ : ∃ nn, nn = -n := ⟨_, rfl⟩
  have hw : wrap64 (-n) = nn := by rw [hnn]; exact wrap_id (by omega)
  have hmax : max n nn = (a : Int) := by rw [hnn]; omega
  rw [← ha] at hD
  obtain ⟨x, hx⟩ : ∃ x, n.tdiv (G : Int) = x := ⟨_, rfl⟩
  obtain ⟨y, hy⟩ : ∃ y, (d : Int).tdiv (G : Int) = y := ⟨_, rfl⟩
  rw [hx] at q1 HFR
  rw [hy] at q2 HFR
  have hxn : x.natAbs < 9223372036854775808 := by omega
  have hyn : y.natAbs < 9223372036854775808 := by omega
  have HF1 := hide (fun u hu => FormatInt_any x hxn u hu)
  have HF2 := hide (fun u hu => FormatInt_any y hyn u hu)
  have z1 := itS_size x hxn
  have z2 := itS_size y hyn
  generalize itS x = S1 at *
  generalize itS y = S2 at *
  have hG0 : ¬ (G : Int) = 0 := by omega
  have wx : IntKind.i64.wrap x = x := by rw [wrapI64]; exact wrap_id (by omega)
  have wy : IntKind.i64.wrap y = y := by rw [wrapI64]; exact wrap_id (by omega)
  have vx : wrap64 x = x := wrap_id (by omega)
  have vy : wrap64 y = y := wrap_id (by omega)
  have HD := hide hD
  have HT := hide ht
  have HNN := hide hnn
  have HAE := hide ha
  clear hD ht hnn ha q1 q2 hn hxn hyn
  obtain ⟨E, hE⟩ : ∃ E : Bool, ((d : Int) == (G : Int)) = E := ⟨_, rfl⟩
  have HEQ : Hid (E = true ↔ d = G) := hide (by rw [← hE, beq_iff_eq]; omega)
  have hz3 : S1.size + 1 ≤ 9223372036854775807 := by omega
  have hz4 : (S1 ++ ⟨#[47]⟩).size + S2.size ≤ 9223372036854775807 := by rw [ByteArray.size_append]; have : (⟨#[47]⟩ : ByteArray).size = 1 := rfl; omega
  go_enter Tryd.func18, Tryd.ntmps18
  go_wp2_with fail
  refine (unhide HD).mono ?_
  rintro e w1 ⟨rfl, hb1⟩
  have C1 := unhide HF1 w1 ((unhide HT).below hb1)
  have HC1 := hide C1
  have HB1 := hide hb1
  clear C1 hb1 HD HF1
  go_wp2_with fail
  refine (unhide HC1).mono ?_
  rintro e w2 ⟨rfl, hb2⟩
  have HB2 := hide ((unhide HB1).trans (hb2.mono (unhide HB1).size))
  clear HC1 HB1 hb2
  cases E
  · have C2 := unhide HF2 w2 ((unhide HT).below (unhide HB2))
    have HC2 := hide C2
    have HE : Hid (S1 ++ ⟨#[47]⟩ ++ S2 = FR) := hide (by rw [unhide HFR, if_neg (fun e => by have := (unhide HEQ).2 e; cases this)])
    clear C2 HF2 HFR
    go_wp2_with fail
    refine (unhide HC2).mono ?_
    rintro e w3 ⟨rfl, hb3⟩
    have HB3 := hide ((unhide HB2).trans (hb3.mono (unhide HB2).size))
    clear hb3 HC2
    go_wp2
    go_ret
    exact ⟨ret_str (unhide HE), unhide HB3⟩
  · have HE : Hid (S1 = FR) := hide (by rw [unhide HFR, if_pos ((unhide HEQ).1 rfl)])
    clear HF2 HFR
    go_wp2
    go_ret
    exact ⟨ret_str (unhide HE), unhide HB2⟩
end Go.Proofs.YthplbfjpmnpjmaaDoor

namespace Go.Proofs.YthplbfjpmnpjmaaDoor
open Go.RowKit
attribute [local go_sem ↓] Go.wp_at_zero Go.wp_at_succ

theorem frS_ratS (n : Int) (d : Nat) (hd : 1 ≤ d) : (frS n d).data.toList = ratS (mkRat n d) := by
  have hd0 : d ≠ 0 := by omega
  have hg : 0 < Nat.gcd n.natAbs d := Nat.gcd_pos_of_pos_right _ (by omega)
  have hgd : Nat.gcd n.natAbs d ∣ d := Nat.gcd_dvd_right _ _
  have hn : n.tdiv (Nat.gcd n.natAbs d : Nat) = (mkRat n d).num := by
    rw [mk_num n d hd0, Int.tdiv_eq_ediv_of_dvd (gcd_dvd_int n d)]
  have hdn : (d : Int).tdiv (Nat.gcd n.natAbs d : Nat) = ((mkRat n d).den : Int) := by
    rw [mk_den n d hd0, Int.tdiv_eq_ediv_of_dvd (Int.natCast_dvd_natCast.2 hgd)]
    exact (Int.natCast_ediv _ _).symm
  have hc : (d = Nat.gcd n.natAbs d) ↔ (mkRat n d).den = 1 := by
    rw [mk_den n d hd0]
    constructor
    · intro h
      rw [← h]
      exact Nat.div_self (by omega)
    · intro h
      obtain ⟨k, hk⟩ := hgd
      have : k = 1 := by
        rw [← h]
        conv => rhs; lhs; rw [hk]
        rw [Nat.mul_div_cancel_left _ hg]
      rw [this, Nat.mul_one] at hk
      exact hk
  unfold frS ratS
  rw [hn, hdn]
  by_cases h : d = Nat.gcd n.natAbs d
  · rw [if_pos h, if_pos (hc.1 h)]
    rfl
  · rw [if_neg h, if_neg (fun e => h (hc.2 e))]
    simp [itS, ByteArray.data_append]

theorem itoa_21 (n : Int) (h : n.natAbs < 9223372036854775808) : (Lib.itoa n).length ≤ 21 := by
  have := Lib.itoa_length_le n (by omega) (by omega)
  omega
/-- What the text of a fraction is. -/
theorem ratS_facts (q : Rat) (S : ByteArray) (hS : S.data.toList = ratS q) (h1 : q.num.natAbs < 9223372036854775808) (h2 : q.den < 9223372036854775808) :
    S.size ≤ 1000 ∧ ∀ k, (hk : k < S.size) → S[k].toNat = 45 ∨ S[k].toNat = 47 ∨ (48 ≤ S[k].toNat ∧ S[k].toNat ≤ 57) := by
  have l1 := itoa_21 q.num h1
  have l2 := itoa_21 (q.den : Int) (by omega)
  have hm : ∀ c ∈ ratS q, c.toNat = 45 ∨ c.toNat = 47 ∨ (48 ≤ c.toNat ∧ c.toNat ≤ 57) := by
    intro c hc
    unfold ratS at hc
    split at hc
    · rcases itoa_byte _ c hc with h | h
      · exact .inl h
      · exact .inr (.inr h)
    · rcases List.mem_append.1 hc with hc | hc
      · rcases itoa_byte _ c hc with h | h
        · exact .inl h
        · exact .inr (.inr h)
      · rcases List.mem_cons.1 hc with rfl | hc
        · right; left; rfl
        · rcases itoa_byte _ c hc with h | h
          · exact .inl h
          · exact .inr (.inr h)
  refine ⟨?_, fun k hk => hm _ ?_⟩
  · rw [← len_data, hS]
    unfold ratS
    split
    · omega
    · simp; omega
  · rw [← hS]
    have : S[k] = S.data.toList[k]'(by rw [len_data]; exact hk) := rfl
    rw [this]
    exact List.getElem_mem _
theorem rat_int (q : Rat) (h : q.den = 1) : (q.num : Rat) = q := by
  rw [← mk_one, ← h]
  exact Rat.mkRat_self q
theorem str_eta (S : ByteArray) : (⟨S.data.toList.toArray⟩ : ByteArray) = S := by
  apply ByteArray.ext
  simp

set_option maxHeartbeats 4000000 in
set_option maxRecDepth 100000 in
theorem RatOf_any (q : Rat) (S : ByteArray) (w : World) (hS : S.data.toList = ratS q) (h1 : q.num.natAbs < 9223372036854775808) (h2 : q.den < 9223372036854775808) :
    Calls Tryd.prog 9 #[.string S] w fun e w' => e = .returned (.pointer (some ⟨w.heap.size, 0, none⟩)) ∧ isR w' w.heap.size q ∧ Below w.heap.size w w' := by
  obtain ⟨hsz, hch⟩ := ratS_facts q S hS h1 h2
  obtain ⟨w1, hw1⟩ : ∃ w1, w1 = w.alloc (.cells #[.bool false, .slice none 0 0, .bool false, .slice none 0 0] 39 (0, 0)) := ⟨_, rfl⟩
  have hb1 : Below w.heap.size w w1 := by rw [hw1]; exact (Below.refl _ w).alloc (Nat.le_refl _) _
  have ht1 : isTR w1 w.heap.size := by rw [hw1]; exact newR_to w
  have hs1 : w1.heap.size = w.heap.size + 1 := by rw [hw1]; simp
  have HSS : Hid (Calls Tryd.prog 21 #[.pointer (some ⟨w.heap.size, 0, none⟩), .string S] w1 (RsE w.heap.size q w1)) := hide (by
    by_cases hd : q.den = 1
    · have e : S.data.toList = Lib.itoa q.num := by rw [hS]; unfold ratS; rw [if_pos hd]
      have := SetStr_int w.heap.size q.num S w1 ht1 e h1 hsz
      rw [rat_int q hd] at this
      exact this
    · have e : S.data.toList = Lib.itoa q.num ++ 47 :: Lib.itoa (q.den : Int) := by rw [hS]; unfold ratS; rw [if_neg hd]
      have := SetStr_frac w.heap.size q.den q.num S w1 ht1 e (Nat.pos_of_ne_zero q.den_nz) h1 h2 hsz
      rw [Rat.mkRat_self q] at this
      exact this)
  have HRS : Hid (∀ u, isR u w.heap.size q → Calls Tryd.prog 22 #[.pointer (some ⟨w.heap.size, 0, none⟩)] u fun e u' => e = .returned (.string S) ∧ Below u.heap.size u u') := hide (fun u hu => by
    refine (RatString_q w.heap.size 2 q u hu (by omega) (pow2_lt h1) (pow2_lt h2)).mono ?_
    rintro e u' ⟨rfl, hb⟩
    rw [← hS, str_eta]
    exact ⟨rfl, hb⟩)
  have HCH := hide hch
  have HB1 := hide hb1
  have HW1 := hide hw1
  clear hb1 hw1 ht1 hch hS
  go_enter Tryd.func9, Tryd.ntmps9
  go_wp2
  go_loopw [3] (fun iv wr => ∃ k : Nat, k ≤ S.size ∧ iv = .int .i64 (k : Int) ∧ wr = w) (fun iv _ => S.size - (intOf iv).toNat)
  case atStart => exact ⟨0, Nat.zero_le _, rfl, rfl⟩
  case round =>
    obtain ⟨k, hk, rfl, hwe⟩ := hrel
    replace hwe := hwe.symm
    subst hwe
    by_cases hkl : k < S.size
    · have hne := unhide HCH k hkl
      have hki : (k : Int) < (S.size : Int) := by omega
      have hk0 : (0 : Int) ≤ (k : Int) := by omega
      obtain ⟨c, hc⟩ : ∃ c, S[k].toNat = c := ⟨_, rfl⟩
      rw [hc] at hne
      rcases hne with rfl | rfl | ⟨a1, a2⟩
      · go_wp2
        go_roundw
        case rel => exact ⟨k + 1, by omega, by go_num, trivial⟩
        case measure => simp only [intOf]; omega
      · go_wp2
        go_roundw
        case rel => exact ⟨k + 1, by omega, by go_num, trivial⟩
        case measure => simp only [intOf]; omega
      · have b1 : ((S[k].toNat : Int) == 45) = false := by simp; omega
        have b2 : ((S[k].toNat : Int) == 47) = false := by simp; omega
        have b3 : ¬ (S[k].toNat : Int) < 48 := by omega
        have b4 : ¬ (57 : Int) < (S[k].toNat : Int) := by omega
        have b5 : ¬ (S[k].toNat : Int) = 45 := by omega
        have b6 : ¬ (S[k].toNat : Int) = 47 := by omega
        clear hc a1 a2
        go_wp2
        go_roundw
        case rel => exact ⟨k + 1, by omega, by go_num, trivial⟩
        case measure => simp only [intOf]; omega
    · obtain rfl : k = S.size := by omega
      have hki : ¬ (S.size : Int) < (S.size : Int) := by omega
      go_wp2_with fail
      rw [← unhide HW1]
      refine (unhide HSS).mono ?_
      rintro e w2 ⟨rfl, r2, p2⟩
      have hs2 := p2.size
      have HR2 := hide r2
      have HB2 := hide ((unhide HB1).trans (p2.fresh (B := w.heap.size) (by omega) (by omega)))
      have HC := hide (unhide HRS w2 r2)
      clear r2 p2 HSS HRS
      go_wp2_with fail
      refine (unhide HC).mono ?_
      rintro e w3 ⟨rfl, b3⟩
      have HE : Hid (isR w3 w.heap.size q ∧ Below w.heap.size w w3) := hide ⟨(unhide HR2).below b3 (Nat.le_refl _), (unhide HB2).trans (b3.mono (by omega))⟩
      clear b3 HC
      go_wp2
      go_ret
      exact ⟨rfl, (unhide HE).1, (unhide HE).2⟩
end Go.Proofs.YthplbfjpmnpjmaaDoor

namespace Go.Proofs.YthplbfjpmnpjmaaDoor
open Go.RowKit Lp
attribute [local go_sem ↓] Go.wp_at_zero Go.wp_at_succ

def svl (l : List ByteArray) : List Value := l.map fun s => Value.string s
theorem infoSt : (Tryd.prog.info? 9).map (fun i => (i.zero, i.size, i.bytes)) = some (some (.string ⟨#[]⟩), 1, 16) := by kernel_rfl
theorem made_strs (n : Nat) (hn : n ≤ 100000) (W : World) : (Instr.makeSlice 26 (.int .i64 (n : Int)) (.int .i64 (n : Int))).run Tryd.prog W = .ok (.slice (some ⟨W.heap.size, 0, none⟩) n n) (W.alloc (.cells (svl (List.replicate n ⟨#[]⟩)).toArray 9 (0, 0))) := by
  obtain ⟨i0, hi, hz0, hz1, hz2⟩ := info_parts infoSt
  have h := run_make (P := Tryd.prog) W 26 9 i0 (.string ⟨#[]⟩) Tryd.underlying26 hi hz0 .i64 .i64 (n : Int) (n : Int) (by omega) (by omega) (by rw [hz2]; omega) (by omega)
  rw [h, hz1]
  simp only [Int.toNat_natCast]
  have e : madeCells (Value.string ⟨#[]⟩).cells (n * 1) = (svl (List.replicate n ⟨#[]⟩)).toArray := by
    apply Array.toList_inj.1
    rw [show (Value.string ⟨#[]⟩).cells = #[Value.string ⟨#[]⟩] from rfl, toList_madeCells_one]
    rw [Nat.mul_one]
    simp [svl]
  rw [e]
/-- A row of strings of the call's own. -/
structure StR (u : World) (base g : Nat) (l : List ByteArray) : Prop where
  row : u.ownsRow base 9 1 (.slice (some ⟨g, 0, none⟩) l.length l.length) l.length (svl l)
theorem StR.of_block {u : World} {base g : Nat} {l : List ByteArray} (hb : base ≤ g) (hl : l.length ≤ 100000) (h : u.heap[g]? = some (.cells (svl l).toArray 9 (0, 0))) : StR u base g l := by
  refine ⟨by simp [svl], .inr ⟨g, l.length, (svl l).toArray, rfl, hb, h, Nat.le_refl _, by unfold maxLen; omega, by simp [svl], ?_⟩⟩
  rw [List.take_of_length_le (by simp [svl])]
theorem StR.lt {u : World} {base g : Nat} {l : List ByteArray} (h : StR u base g l) : base ≤ g ∧ g < u.heap.size := by
  rcases h.row.2 with ⟨e, -⟩ | ⟨g', cap, cur, e, h1, h2, -⟩
  · cases e
  · cases e
    exact ⟨h1, (Array.getElem?_eq_some_iff.1 h2).1⟩
theorem StR.keep {u u' : World} {base g : Nat} {l : List ByteArray} (h : StR u base g l) (hk : u'.heap[g]? = u.heap[g]?) : StR u' base g l := by
  refine ⟨h.row.1, ?_⟩
  rcases h.row.2 with ⟨e, -⟩ | ⟨g', cap, cur, e, h1, h2, r⟩
  · cases e
  · cases e
    exact .inr ⟨g, _, cur, rfl, h1, hk.trans h2, r⟩
theorem StR.cell {u : World} {base g : Nat} {l : List ByteArray} (h : StR u base g l) {i : Nat} {x : ByteArray} (hi : l[i]? = some x) : u.cell? ⟨g, i, none⟩ = some (.string x) ∧ u.frozen? ⟨g, i, none⟩ = false := by
  have hil := (List.getElem?_eq_some_iff.1 hi).1
  refine ⟨?_, h.row.frozenAt _⟩
  rw [h.row.cellAt i (by omega)]
  unfold svl
  rw [List.getElem?_map, hi]
  rfl
theorem StR.put {u : World} {base g : Nat} {l : List ByteArray} (h : StR u base g l) (i : Nat) (x : ByteArray) : StR (u.setCell ⟨g, i, none⟩ (.string x)) base g (l.set i x) := by
  obtain ⟨h1, -⟩ := h.row.stored i (.string x)
  refine ⟨?_⟩
  rw [List.length_set, show svl (l.set i x) = (svl l).set i (.string x) by simp [svl, List.map_set]]
  exact h1

/-- What texts leaves. -/
structure TxE (l : List Int) (t : Nat) (w : World) (e : Ending) (w' : World) : Prop where
  bw : Below w.heap.size w w'
  out : ∃ g, e = .returned (.slice (some ⟨g, 0, none⟩) l.length l.length) ∧ StR w' w.heap.size g (l.map fun n => frS n t)
/-- The first k texts. -/
def txK (l : List Int) (t k : Nat) : List ByteArray := (l.map fun n => frS n t).take k ++ List.replicate (l.length - k) ⟨#[]⟩
theorem txK_len (l : List Int) (t k : Nat) (hk : k ≤ l.length) : (txK l t k).length = l.length := by simp [txK]; omega
theorem txK_next (l : List Int) (t k : Nat) (n : Int) (hn : l[k]? = some n) : (txK l t k)[k]? = some ⟨#[]⟩ ∧ (txK l t k).set k (frS n t) = txK l t (k + 1) := by
  have hk := (List.getElem?_eq_some_iff.1 hn).1
  have hl : ((l.map fun n => frS n t).take k).length = k := by simp; omega
  obtain ⟨q, hq⟩ : ∃ q, l.length - k = q + 1 := ⟨l.length - k - 1, by omega⟩
  unfold txK
  refine ⟨?_, ?_⟩
  · rw [List.getElem?_append_right (by omega), hl, Nat.sub_self, hq]; rfl
  · rw [List.set_append_right _ _ (by omega), hl, Nat.sub_self, hq, List.replicate_succ, List.set_cons_zero, show l.length - (k + 1) = q by omega, List.take_add_one, List.getElem?_map, hn]
    simp

set_option maxRecDepth 100000 in
set_option maxHeartbeats 4000000 in
theorem texts_any (s : So) (t : Nat) (ht : s.t = (t : Int)) (ht1 : 1 ≤ t) (ht2 : t < 4611686018427387904) (l : List Int) (hl : l.length ≤ 6) (hlb : ∀ x ∈ l, x.natAbs < 4611686018427387904) (ao : Option Addr) (cap : Nat) (w : World) (htab : isTab w) (h : isWl w w.heap.size ao cap l) :
    Calls Tryd.prog 19 #[soV s, .slice ao l.length cap] w (TxE l t w) := by
  have hcap1 := h.le
  have hcap2 := h.most
  unfold maxLen at hcap2
  have HFR : Hid (∀ (n : Int) u, n.natAbs < 4611686018427387904 → isTab u → Calls Tryd.prog 18 #[.int .i64 n, .int .i64 (t : Int)] u fun e w' => e = .returned (.string (frS n t)) ∧ Below u.heap.size u w') := hide (fun n u hn hu => fraction_any n t hn ht2 ht1 u hu)
  obtain ⟨W1, hW1⟩ : ∃ W1, W1 = w.alloc (Obj.cells (soC s).toArray 48 (0, 0)) := ⟨_, rfl⟩
  have hs1 : W1.heap.size = w.heap.size + 1 := by rw [hW1]; simp
  have hb1 : Below w.heap.size w W1 := by rw [hW1]; exact (Below.refl _ w).alloc (Nat.le_refl _) _
  have hso : isSo W1 w.heap.size s := by rw [hW1]; exact heap_alloc_new w _
  have hmk := made_strs l.length (by omega) W1
  obtain ⟨W2, hW2⟩ : ∃ W2, W2 = W1.alloc (.cells (svl (List.replicate l.length ⟨#[]⟩)).toArray 9 (0, 0)) := ⟨_, rfl⟩
  rw [← hW2, hs1] at hmk
  have hb2 : Below w.heap.size w W2 := by rw [hW2]; exact hb1.alloc (by omega) _
  have hso2 : isSo W2 w.heap.size s := hso.keep (by rw [hW2]; exact Below.heap_alloc _ _ _ (by omega))
  have hst2 : StR W2 w.heap.size (w.heap.size + 1) (txK l t 0) := by
    have := heap_alloc_new W1 (.cells (svl (List.replicate l.length ⟨#[]⟩)).toArray 9 (0, 0))
    rw [hs1, ← hW2] at this
    have e : txK l t 0 = List.replicate l.length ⟨#[]⟩ := by simp [txK]
    rw [e]
    exact StR.of_block (by omega) (by simp; omega) this
  have HL := hide h
  have HLB := hide hlb
  have HTB := hide htab
  have HT := hide ht
  obtain ⟨N, hN⟩ : ∃ N, N = l.length := ⟨_, rfl⟩
  have HN := hide hN
  rw [← hN] at hcap1 hl hmk ⊢
  have HI0 : Hid (Below w.heap.size w W2 ∧ isSo W2 w.heap.size s ∧ StR W2 w.heap.size (w.heap.size + 1) (txK l t 0)) := hide ⟨hb2, hso2, hst2⟩
  simp only [soC] at hW1
  have HW1 := hide hW1
  have hN6 : (N : Int) ≤ 6 := by omega
  unfold soV
  simp only [soC]
  clear hW1 hW2 h hlb htab ht hN hb1 hb2 hso hso2 hst2
  go_enter Tryd.func19, Tryd.ntmps19
  go_upto_region 1 with fail
  rw [← unhide HW1]
  clear HW1
  go_wp2
  clear hmk
  go_loopw [13] (fun iv wr => ∃ k : Nat, k ≤ N ∧ iv = .int .i64 (k : Int) ∧ Hid (Below w.heap.size w wr ∧ isSo wr w.heap.size s ∧ StR wr w.heap.size (w.heap.size + 1) (txK l t k))) (fun iv _ => N - (intOf iv).toNat)
  case atStart => exact ⟨0, Nat.zero_le _, rfl, HI0⟩
  case round =>
    obtain ⟨k, hk, rfl, HI⟩ := hrel
    rename World => wr
    clear HI0
    by_cases hlt : k < N
    · have hlti : (k : Int) < (N : Int) := by omega
      have hk0 : (0 : Int) ≤ (k : Int) := by omega
      obtain ⟨n, hn⟩ : ∃ n, l[k]? = some n := ⟨_, List.getElem?_eq_getElem (by rw [← unhide HN]; exact hlt)⟩
      obtain ⟨g, off, rfl, hg, hc⟩ := (unhide HL).cells (fun e => by rw [e] at hn; simp at hn)
      have cn := ((unhide HI).1.cell (p := ⟨g, off + k, none⟩) hg).trans (hc k n hn)
      obtain ⟨⟨-, ct⟩, -⟩ := (unhide HI).2.1.cells
      rw [unhide HT] at ct
      have C1 := unhide HFR n wr (unhide HLB n (List.mem_of_getElem? hn)) ((unhide HTB).below (unhide HI).1)
      obtain ⟨tn1, tn2⟩ := txK_next l t k n hn
      obtain ⟨S, hS⟩ : ∃ S, S = frS n t := ⟨_, rfl⟩
      rw [← hS] at C1 tn2
      have HC1 := hide C1
      have HT1 := hide tn1
      have HT2 := hide tn2
      clear C1 tn1 tn2 hc hn hS
      go_wp2_with fail
      refine (unhide HC1).mono ?_
      rintro e w2 ⟨rfl, hb2⟩
      have hlt2 := (unhide HI).2.2.lt
      have hst := (unhide HI).2.2.keep (hb2.block _ hlt2.2)
      obtain ⟨cs, cf⟩ := hst.cell (unhide HT1)
      have HE : Hid (Below w.heap.size w (w2.setCell ⟨w.heap.size + 1, k, none⟩ (.string S)) ∧ isSo (w2.setCell ⟨w.heap.size + 1, k, none⟩ (.string S)) w.heap.size s ∧ StR (w2.setCell ⟨w.heap.size + 1, k, none⟩ (.string S)) w.heap.size (w.heap.size + 1) (txK l t (k + 1))) := hide (by
        refine ⟨((unhide HI).1.trans (hb2.mono (unhide HI).1.size)).setCell (p := ⟨w.heap.size + 1, k, none⟩) (by dsimp only; omega) _, ?_, by rw [← unhide HT2]; exact hst.put k S⟩
        refine (unhide HI).2.1.keep ?_
        rw [Below.heap_setCell _ _ _ _ (by dsimp only; omega)]
        exact hb2.block _ (by have := (unhide HI).2.1.lt; exact this))
      clear hb2 hst HC1 hlt2 HI
      go_wp2
      go_roundw
      case rel => exact ⟨k + 1, by omega, by go_num, HE⟩
      case measure => simp only [intOf]; omega
    · have hlti : ¬ (k : Int) < (N : Int) := by omega
      have HE : Hid (TxE l t w (.returned (.slice (some ⟨w.heap.size + 1, 0, none⟩) N N)) wr) := hide (by
        refine ⟨(unhide HI).1, w.heap.size + 1, by rw [unhide HN], ?_⟩
        have e : txK l t k = l.map fun n => frS n t := by
          have := unhide HN
          unfold txK
          rw [List.take_of_length_le (by simp; omega), show l.length - k = 0 by omega]
          simp
        rw [← e]
        exact (unhide HI).2.2)
      clear HI
      go_wp2
      go_ret
      exact unhide HE
end Go.Proofs.YthplbfjpmnpjmaaDoor
