/-
  package rules, walked: sets of letters.
  package rules, walked: isPiece.
  package rules, walked: lettersOf.
  package rules, walked: haveAllOf.
-/
import Derived.Test.YtihojhfpepbjhaaGreatDoorJ1
namespace Go.Proofs.YtihojhfpepbjhaaGreatDoor
open Go.RowKit
attribute [local go_sem ↓] Go.wp_at_zero Go.wp_at_succ

theorem ofInt32_nat (a : Nat) (ha : a < 4294967296) : (BitVec.ofInt 32 (a : Int)).toNat = a := by
  rw [BitVec.ofInt_natCast, BitVec.toNat_ofNat]; exact Nat.mod_eq_of_lt (by omega)
theorem and_u32_nat (a b : Nat) (ha : a < 4294967296) (hb : b < 4294967296) : bits .and .u32 (a : Int) (b : Int) = ((a &&& b : Nat) : Int) := by
  have hx : a &&& b < 2 ^ 32 := Nat.and_lt_two_pow a (by omega)
  show IntKind.u32.wrap ((BitVec.ofInt 32 (a : Int) &&& BitVec.ofInt 32 (b : Int)).toNat : Int) = _
  rw [BitVec.toNat_and, ofInt32_nat a ha, ofInt32_nat b hb, IntKind.wrap_u32]
  omega
theorem or_u32_nat (a b : Nat) (ha : a < 4294967296) (hb : b < 4294967296) : bits .or .u32 (a : Int) (b : Int) = ((a ||| b : Nat) : Int) := by
  have hx : a ||| b < 2 ^ 32 := Nat.or_lt_two_pow (by omega) (by omega)
  show IntKind.u32.wrap ((BitVec.ofInt 32 (a : Int) ||| BitVec.ofInt 32 (b : Int)).toNat : Int) = _
  rw [BitVec.toNat_or, ofInt32_nat a ha, ofInt32_nat b hb, IntKind.wrap_u32]
  omega
theorem pow26 (s : Nat) (h : s < 26) : 2 ^ s < 4294967296 := by
  have h1 : (2 : Nat) ^ s ≤ 2 ^ 26 := Nat.pow_le_pow_right (by omega) (by omega)
  have h2 : (2 : Nat) ^ 26 = 67108864 := by decide
  omega

set_option maxHeartbeats 400000 in
theorem bitOf_any (c s : Nat) (w : World) (hc : c = s + 65) (hs : s < 26) :
    Calls Tryz.prog 96 #[.int .u8 (c : Int)] w fun e w' => e = .returned (.int .u32 ((2 ^ s : Nat) : Int)) ∧ w' = w := by
  have hi : (c : Int) - 65 = (s : Int) := by omega
  have hp := pow26 s hs
  have hw : (2 : Int) ^ s % 4294967296 = ((2 ^ s : Nat) : Int) := by
    have : (2 : Int) ^ s = ((2 ^ s : Nat) : Int) := by simp
    rw [this]
    generalize 2 ^ s = P at hp
    omega
  have hc0 : (0 : Int) ≤ (s : Int) := by omega
  have hc2 : (c : Int) ≤ 255 := by omega
  have hc1 : (65 : Int) ≤ (c : Int) := by omega
  have HW := hide hw
  clear hc hp hw
  go_enter Tryz.func96, Tryz.ntmps96
  go_wp2
  go_ret
  refine ⟨?_, rfl⟩
  rw [← unhide HW]
  simp

theorem and_bit (S s : Nat) : (S &&& 2 ^ s != 0) = S.testBit s := by
  cases h : S.testBit s with
  | false =>
    have : S &&& 2 ^ s = 0 := by
      apply Nat.eq_of_testBit_eq
      intro i
      rw [Nat.testBit_and, Nat.testBit_two_pow, Nat.zero_testBit]
      by_cases hi : s = i
      · subst hi; simp [h]
      · simp [hi]
    simp [this]
  | true =>
    have h1 : (S &&& 2 ^ s).testBit s = true := by rw [Nat.testBit_and, Nat.testBit_two_pow, h]; simp
    have : S &&& 2 ^ s ≠ 0 := by
      intro h0
      rw [h0, Nat.zero_testBit] at h1
      cases h1
    simp [this]

/-- Is the letter in the set? -/
def hasL (S : Nat) (c : Int) : Bool := capB c && S.testBit (c - 65).toNat

set_option maxHeartbeats 400000 in
theorem have_any (S c : Nat) (w : World) (hS : S < 4294967296) (hc : c < 256) :
    Calls Tryz.prog 95 #[.int .u32 (S : Int), .int .u8 (c : Int)] w fun e w' => e = .returned (.bool (hasL S c)) ∧ w' = w := by
  cases hcap : capB c with
  | false =>
    have hr : hasL S c = false := by simp [hasL, hcap]
    rw [hr]
    have HC := hide hcap
    clear hcap hr
    go_enter Tryz.func95, Tryz.ntmps95
    go_wp2_with fail
    refine (rCapital_any _ _).mono ?_
    rintro e w' ⟨rfl, rfl⟩
    rw [unhide HC]
    go_wp2
    go_ret
    exact ⟨rfl, rfl⟩
  | true =>
    have hcap' := hcap
    simp only [capB, Bool.and_eq_true, decide_eq_true_eq] at hcap'
    obtain ⟨s, hs⟩ : ∃ s, c = s + 65 := ⟨c - 65, by omega⟩
    have hs26 : s < 26 := by omega
    have hr : hasL S c = S.testBit s := by
      have : ((c : Int) - 65).toNat = s := by omega
      simp [hasL, hcap, this]
    rw [hr]
    have hand := and_u32_nat S (2 ^ s) hS (pow26 s hs26)
    obtain ⟨P, hP⟩ : ∃ P, P = 2 ^ s := ⟨_, rfl⟩
    obtain ⟨R, hR⟩ : ∃ R, R = S &&& 2 ^ s := ⟨_, rfl⟩
    have hbo := bitOf_any c s w hs hs26
    rw [← hP] at hbo hand
    rw [hP, ← hR, ← hP] at hand
    have hR0 : (R != 0) = S.testBit s := by rw [hR]; exact and_bit S s
    obtain ⟨b, hb⟩ : ∃ b, b = S.testBit s := ⟨_, rfl⟩
    rw [← hb] at hR0 ⊢
    have hRi : ((R : Int) != 0) = b := by
      rw [← hR0]
      cases R with
      | zero => rfl
      | succ n => rfl
    have HC := hide hcap
    have HBO := hide hbo
    have HRI := hide hRi
    have HR0 := hide hR0
    clear hcap hr hcap' hs hbo hP hR hR0 hb hRi
    go_enter Tryz.func95, Tryz.ntmps95
    go_wp2_with fail
    refine (rCapital_any _ _).mono ?_
    rintro e w' ⟨rfl, rfl⟩
    rw [unhide HC]
    go_wp2_with fail
    refine (unhide HBO).mono ?_
    rintro e w' ⟨rfl, rfl⟩
    go_wp2
    all_goals go_ret
    all_goals refine ⟨ret_bool ?_, rfl⟩
    all_goals (first | exact unhide HRI | exact unhide HR0 | (have h1 := unhide HR0; simp_all))

/-- 0, or in the set? -/
def hasZ (S : Nat) (c : Int) : Bool := decide (c = 0) || hasL S c

set_option maxHeartbeats 400000 in
theorem haveIfAny_any (S c : Nat) (w : World) (hS : S < 4294967296) (hc : c < 256) :
    Calls Tryz.prog 55 #[.int .u32 (S : Int), .int .u8 (c : Int)] w fun e w' => e = .returned (.bool (hasZ S c)) ∧ w' = w := by
  by_cases h0 : c = 0
  · subst h0
    go_enter Tryz.func55, Tryz.ntmps55
    go_wp2
    go_ret
    exact ⟨rfl, rfl⟩
  · have h1 : ¬ (c : Int) = 0 := by omega
    have h2 : ((c : Int) == 0) = false := by simp; omega
    have hz : hasZ S c = hasL S c := by simp [hasZ, h0]
    rw [hz]
    go_enter Tryz.func55, Tryz.ntmps55
    go_wp2_with fail
    refine (have_any S c _ hS hc).mono ?_
    rintro e w' ⟨rfl, rfl⟩
    go_wp2
    go_ret
    exact ⟨rfl, rfl⟩
end Go.Proofs.YtihojhfpepbjhaaGreatDoor

namespace Go.Proofs.YtihojhfpepbjhaaGreatDoor
open Go.RowKit
attribute [local go_sem ↓] Go.wp_at_zero Go.wp_at_succ

/-- A slice of ways. -/
structure isWys (w : World) (ao : Option Addr) (cap : Nat) (ws : List Wy) : Prop where
  le : ws.length ≤ cap
  mx : cap ≤ maxLen
  nil : ao = none → cap = 0
  cells : ws ≠ [] → ∃ g off, ao = some ⟨g, off, none⟩ ∧ g < w.heap.size ∧ ∀ (i : Nat) (z : Wy), ws[i]? = some z → w.cell? ⟨g, off + i * 4, none⟩ = some (.int .i64 z.k) ∧ w.cell? ⟨g, off + i * 4 + 1, none⟩ = some (.int .i64 z.x) ∧ w.cell? ⟨g, off + i * 4 + 2, none⟩ = some (.int .i64 z.y) ∧ w.cell? ⟨g, off + i * 4 + 3, none⟩ = some (.int .i64 z.t)
theorem isWys.below {w w' : World} {ao : Option Addr} {cap B : Nat} {ws : List Wy} (h : isWys w ao cap ws) (hb : Below B w w') (hB : w.heap.size ≤ B) : isWys w' ao cap ws := by
  refine ⟨h.le, h.mx, h.nil, fun hl => ?_⟩
  obtain ⟨g, off, e, hg, hc⟩ := h.cells hl
  have := hb.size
  refine ⟨g, off, e, by omega, fun i z hz => ?_⟩
  obtain ⟨c0, c1, c2, c3⟩ := hc i z hz
  exact ⟨(hb.cell (by dsimp only; omega)).trans c0, (hb.cell (by dsimp only; omega)).trans c1, (hb.cell (by dsimp only; omega)).trans c2, (hb.cell (by dsimp only; omega)).trans c3⟩

/-- P6: a piece. -/
def pcB (l v : Int) (ws : List Wy) : Bool := capB l && inB v 0 100 && decide (ws.length ≤ 8) && ws.all Wy.ok

theorem take_snocW (l : List Wy) (k : Nat) (z : Wy) (h : l[k]? = some z) : l.take (k + 1) = l.take k ++ [z] := by
  obtain ⟨hk, he⟩ := List.getElem?_eq_some_iff.1 h
  rw [List.take_succ_eq_append_getElem hk, he]

set_option maxHeartbeats 1000000 in
set_option maxRecDepth 100000 in
theorem isPiece_any (l v : Int) (ao : Option Addr) (cap : Nat) (ws : List Wy) (w : World) (h : isWys w ao cap ws) :
    Calls Tryz.prog 94 #[.agg #[.int .u8 l, .int .i64 v, .slice ao ws.length cap]] w fun e w' => e = .returned (.bool (pcB l v ws)) ∧ Below w.heap.size w w' := by
  have hle := h.le
  have hmx := h.mx
  unfold maxLen at hmx
  have hb0 : Below w.heap.size w (w.alloc (.cells #[.int .u8 l, .int .i64 v, .slice ao ws.length cap] 71 (0, 0))) := (Below.refl _ w).alloc (Nat.le_refl _) _
  cases hl : capB l with
  | false =>
    have hr : pcB l v ws = false := by simp [pcB, hl]
    rw [hr]
    have HL := hide hl
    clear hl hr
    go_enter Tryz.func94, Tryz.ntmps94
    go_wp2_with fail
    refine (rCapital_any _ _).mono ?_
    rintro e w' ⟨rfl, rfl⟩
    rw [unhide HL]
    go_wp2
    go_ret
    exact ⟨rfl, hb0⟩
  | true =>
  cases hv : inB v 0 100 with
  | false =>
    have hr : pcB l v ws = false := by simp [pcB, hv]
    rw [hr]
    have HL := hide hl
    have HV := hide hv
    clear hl hr hv
    go_enter Tryz.func94, Tryz.ntmps94
    go_wp2_with fail
    refine (rCapital_any _ _).mono ?_
    rintro e w' ⟨rfl, rfl⟩
    rw [unhide HL]
    go_wp2_with fail
    refine (isWithin_any _ _ _ _).mono ?_
    rintro e w' ⟨rfl, rfl⟩
    rw [unhide HV]
    go_wp2
    go_ret
    exact ⟨rfl, hb0⟩
  | true =>
  by_cases h8 : ws.length ≤ 8
  · obtain ⟨n, hn⟩ : ∃ n, n = ws.length := ⟨_, rfl⟩
    have hr : pcB l v ws = ws.all Wy.ok := by simp [pcB, hl, hv, h8]
    rw [hr, ← hn]
    have h8i : ¬ (n : Int) > 8 := by omega
    have HL := hide hl
    have HV := hide hv
    have HN := hide hn
    have HW := hide h
    rw [← hn] at hb0
    have HB0 := hide hb0
    clear hl hr hv hn h hb0 h8 hle
    go_enter Tryz.func94, Tryz.ntmps94
    go_wp2_with fail
    refine (rCapital_any _ _).mono ?_
    rintro e w' ⟨rfl, rfl⟩
    rw [unhide HL]
    go_wp2_with fail
    refine (isWithin_any _ _ _ _).mono ?_
    rintro e w' ⟨rfl, rfl⟩
    rw [unhide HV]
    go_wp2
    go_loopw [24] (fun iv wr => ∃ k : Nat, k ≤ n ∧ iv = .int .i64 (k : Int) ∧ Hid ((ws.take k).all Wy.ok = true) ∧ Below w.heap.size w wr) (fun iv _ => n - (intOf iv).toNat)
    case atStart => exact ⟨0, Nat.zero_le _, rfl, by show _ = _; simp, unhide HB0⟩
    case round =>
      obtain ⟨k, hk, rfl, HK, hbr⟩ := hrel
      have hsz := hbr.size
      by_cases hkl : k < n
      · have hki : (k : Int) < (n : Int) := by omega
        have hkw : k < ws.length := by rw [← unhide HN]; exact hkl
        obtain ⟨z, hz⟩ : ∃ z, ws[k]? = some z := ⟨ws[k], List.getElem?_eq_getElem hkw⟩
        obtain ⟨g, off, eg, hg, hc⟩ := (unhide HW).cells (by rintro rfl; simp at hkw)
        subst eg
        obtain ⟨c0, c1, c2, c3⟩ := hc k z hz
        have d0 := (hbr.cell (p := ⟨g, off + k * 4, none⟩) hg).trans c0
        have d1 := (hbr.cell (p := ⟨g, off + k * 4 + 1, none⟩) hg).trans c1
        have d2 := (hbr.cell (p := ⟨g, off + k * 4 + 2, none⟩) hg).trans c2
        have d3 := (hbr.cell (p := ⟨g, off + k * 4 + 3, none⟩) hg).trans c3
        have hsn := take_snocW ws k z hz
        have HSN := hide hsn
        have hk0 : (0 : Int) ≤ (k : Int) := by omega
        have HZ := hide hz
        have HMEM := hide (List.mem_of_getElem? hz)
        clear hc c0 c1 c2 c3 hsn hz
        have hba : Below w.heap.size w (wr.alloc (.cells #[.int .i64 z.k, .int .i64 z.x, .int .i64 z.y, .int .i64 z.t] 68 (0, 0))) := hbr.alloc hbr.size _
        have HBA := hide hba
        clear hba
        go_wp2_with fail
        refine (isWay_any z _).mono ?_
        rintro e w1 ⟨rfl, hb1⟩
        have hb2 : Below w.heap.size w w1 := (unhide HBA).trans (hb1.mono (unhide HBA).size)
        cases hok : z.ok with
        | false =>
          have hall : ws.all Wy.ok = false := by
            rw [List.all_eq_false]
            exact ⟨z, unhide HMEM, by simp [hok]⟩
          have HALL := hide hall
          clear hall hb1
          go_wp2
          go_ret
          exact ⟨ret_bool (unhide HALL).symm, hb2⟩
        | true =>
          have hnew : (ws.take (k + 1)).all Wy.ok = true := by rw [unhide HSN, List.all_append, unhide HK]; simp [hok]
          have HNEW := hide hnew
          clear hnew hb1
          go_wp2
          go_roundw
          case rel => exact ⟨k + 1, by omega, by go_num, HNEW, hb2⟩
          case measure => simp [intOf]; omega
      · obtain rfl : k = n := by omega
        have hki : ¬ (k : Int) < (k : Int) := by omega
        have hall : ws.all Wy.ok = true := by
          have := unhide HK
          rw [List.take_of_length_le (by rw [← unhide HN]; exact Nat.le_refl _)] at this
          exact this
        have HALL := hide hall
        clear hall
        go_wp2
        go_ret
        exact ⟨ret_bool (unhide HALL).symm, hbr⟩
  · have hr : pcB l v ws = false := by simp [pcB, h8]
    rw [hr]
    have h8i : (8 : Int) < (ws.length : Int) := by omega
    have HL := hide hl
    have HV := hide hv
    clear hl hr hv h
    go_enter Tryz.func94, Tryz.ntmps94
    go_wp2_with fail
    refine (rCapital_any _ _).mono ?_
    rintro e w' ⟨rfl, rfl⟩
    rw [unhide HL]
    go_wp2_with fail
    refine (isWithin_any _ _ _ _).mono ?_
    rintro e w' ⟨rfl, rfl⟩
    rw [unhide HV]
    go_wp2
    go_ret
    exact ⟨rfl, hb0⟩
end Go.Proofs.YtihojhfpepbjhaaGreatDoor

namespace Go.Proofs.YtihojhfpepbjhaaGreatDoor
open Go.RowKit
attribute [local go_sem ↓] Go.wp_at_zero Go.wp_at_succ

/-- A piece: its letter, what it is worth, its ways. -/
structure Pc where
  l : Nat
  v : Int
  ws : List Wy
/-- A slice of pieces. -/
structure isPcs (w : World) (ao : Option Addr) (cap : Nat) (ps : List Pc) : Prop where
  le : ps.length ≤ cap
  mx : cap ≤ maxLen
  nil : ao = none → cap = 0
  cells : ps ≠ [] → ∃ g off, ao = some ⟨g, off, none⟩ ∧ g < w.heap.size ∧ ∀ (i : Nat) (p : Pc), ps[i]? = some p → p.l < 256 ∧ ∃ wo wc, w.cell? ⟨g, off + i * 3, none⟩ = some (.int .u8 (p.l : Int)) ∧ w.cell? ⟨g, off + i * 3 + 1, none⟩ = some (.int .i64 p.v) ∧ w.cell? ⟨g, off + i * 3 + 2, none⟩ = some (.slice wo p.ws.length wc) ∧ isWys w wo wc p.ws
theorem isPcs.below {w w' : World} {ao : Option Addr} {cap B : Nat} {ps : List Pc} (h : isPcs w ao cap ps) (hb : Below B w w') (hB : w.heap.size ≤ B) : isPcs w' ao cap ps := by
  refine ⟨h.le, h.mx, h.nil, fun hl => ?_⟩
  obtain ⟨g, off, e, hg, hc⟩ := h.cells hl
  have := hb.size
  refine ⟨g, off, e, by omega, fun i z hz => ?_⟩
  obtain ⟨hl, wo, wc, c0, c1, c2, c3⟩ := hc i z hz
  exact ⟨hl, wo, wc, (hb.cell (by dsimp only; omega)).trans c0, (hb.cell (by dsimp only; omega)).trans c1, (hb.cell (by dsimp only; omega)).trans c2, c3.below hb hB⟩

/-- The letters of pieces, as bits. -/
def bitsP : Nat → List Pc → Nat
  | S, [] => S
  | S, p :: t => bitsP (S ||| 2 ^ (p.l - 65)) t
/-- P6: pieces, no letter twice. -/
def okP : Nat → List Pc → Bool
  | _, [] => true
  | S, p :: t => pcB p.l p.v p.ws && !hasL S p.l && okP (S ||| 2 ^ (p.l - 65)) t
def psB (ps : List Pc) : Bool := inB ps.length 1 10 && okP 0 ps
def lettersS (ps : List Pc) : Nat := if psB ps then bitsP 0 ps else 0

theorem or26 (S s : Nat) (h : S < 67108864) (hs : s < 26) : S ||| 2 ^ s < 67108864 := by
  have h1 : (2 : Nat) ^ s < 2 ^ 26 := Nat.pow_lt_pow_right (by omega) hs
  exact Nat.or_lt_two_pow (n := 26) (by omega) h1
theorem dropP (ps : List Pc) (k : Nat) (p : Pc) (h : ps[k]? = some p) : ps.drop k = p :: ps.drop (k + 1) := by
  obtain ⟨hk, he⟩ := List.getElem?_eq_some_iff.1 h
  rw [List.drop_eq_getElem_cons hk, he]

set_option maxHeartbeats 1000000 in
set_option maxRecDepth 100000 in
theorem lettersOf_any (ao : Option Addr) (cap : Nat) (ps : List Pc) (w : World) (h : isPcs w ao cap ps) :
    Calls Tryz.prog 52 #[.slice ao ps.length cap] w fun e w' => e = .returned (.tuple #[.int .u32 (lettersS ps : Int), .bool (psB ps)]) ∧ Below w.heap.size w w' := by
  have hle := h.le
  have hmx := h.mx
  unfold maxLen at hmx
  obtain ⟨n, hn⟩ : ∃ n, n = ps.length := ⟨_, rfl⟩
  cases hin : inB ps.length 1 10 with
  | false =>
    have hr : psB ps = false := by simp [psB, hin]
    have hs : lettersS ps = 0 := by simp [lettersS, hr]
    rw [hr, hs]
    have HIN := hide hin
    clear hin hr hs h hn
    go_enter Tryz.func52, Tryz.ntmps52
    go_wp2_with fail
    refine (isWithin_any _ _ _ _).mono ?_
    rintro e w' ⟨rfl, rfl⟩
    rw [unhide HIN]
    go_wp2
    go_ret2
    exact ⟨rfl, Below.refl _ _⟩
  | true =>
    have hr : psB ps = okP 0 ps := by simp [psB, hin]
    have hs : okP 0 ps = true → lettersS ps = bitsP 0 ps := fun e => by simp [lettersS, hr, e]
    have hs0 : okP 0 ps = false → lettersS ps = 0 := fun e => by simp [lettersS, hr, e]
    rw [hr]
    have HIN := hide hin
    rw [← hn] at HIN hle ⊢
    have HS := hide hs
    have HS0 := hide hs0
    have HN := hide hn
    have HP := hide h
    clear hin hr hs hs0 h hn
    go_enter Tryz.func52, Tryz.ntmps52
    go_wp2_with fail
    refine (isWithin_any _ _ _ _).mono ?_
    rintro e w' ⟨rfl, rfl⟩
    rw [unhide HIN]
    go_wp2
    go_loopw [2, 12] (fun sv iv wr => ∃ k S : Nat, k ≤ n ∧ iv = .int .i64 (k : Int) ∧ sv = .int .u32 (S : Int) ∧ S < 67108864 ∧ Hid (okP S (ps.drop k) = okP 0 ps ∧ bitsP S (ps.drop k) = bitsP 0 ps) ∧ Below w'.heap.size w' wr) (fun _ iv _ => n - (intOf iv).toNat)
    case atStart => exact ⟨0, 0, Nat.zero_le _, rfl, rfl, by omega, ⟨rfl, rfl⟩, Below.refl _ _⟩
    case round =>
      obtain ⟨k, S, hk, rfl, rfl, hS, HK, hbr⟩ := hrel
      have hsz := hbr.size
      by_cases hkl : k < n
      · have hki : (k : Int) < (n : Int) := by omega
        have hk0 : (0 : Int) ≤ (k : Int) := by omega
        have hkw : k < ps.length := by rw [← unhide HN]; exact hkl
        obtain ⟨p, hp⟩ : ∃ p, ps[k]? = some p := ⟨ps[k], List.getElem?_eq_getElem hkw⟩
        obtain ⟨g, off, eg, hg, hc⟩ := (unhide HP).cells (by rintro rfl; simp at hkw)
        subst eg
        obtain ⟨hl, wo, wc, c0, c1, c2, c3⟩ := hc k p hp
        have d0 := (hbr.cell (p := ⟨g, off + k * 3, none⟩) hg).trans c0
        have d1 := (hbr.cell (p := ⟨g, off + k * 3 + 1, none⟩) hg).trans c1
        have d2 := (hbr.cell (p := ⟨g, off + k * 3 + 2, none⟩) hg).trans c2
        have hdp := dropP ps k p hp
        have hKK := unhide HK
        rw [hdp] at hKK
        simp only [okP, bitsP] at hKK
        have HKK := hide hKK
        obtain ⟨wa, hwa⟩ : ∃ wa, wa = wr.alloc (.cells #[.int .u8 (p.l : Int), .int .i64 p.v, .slice wo p.ws.length wc] 71 (0, 0)) := ⟨_, rfl⟩
        have hba : Below w'.heap.size w' wa := by rw [hwa]; exact hbr.alloc hbr.size _
        have hbox : wa.heap[wr.heap.size]? = some (.cells #[.int .u8 (p.l : Int), .int .i64 p.v, .slice wo p.ws.length wc] 71 (0, 0)) := by rw [hwa]; exact heap_alloc_new wr _
        have hwsz : wa.heap.size = wr.heap.size + 1 := by rw [hwa]; simp
        have hww := c3.below hba (Nat.le_refl _)
        have e0 : wa.cell? ⟨wr.heap.size, 0, none⟩ = some (.int .u8 (p.l : Int)) := cell_of_row _ _ _ _ _ _ hbox
        have e1 : wa.cell? ⟨wr.heap.size, 1, none⟩ = some (.int .i64 p.v) := cell_of_row _ _ _ _ _ _ hbox
        have e2 : wa.cell? ⟨wr.heap.size, 2, none⟩ = some (.slice wo p.ws.length wc) := cell_of_row _ _ _ _ _ _ hbox
        have HIP := hide (isPiece_any (p.l : Int) p.v wo wc p.ws wa hww)
        have HWA := hide hwa
        have HBA := hide hba
        have HE0 := hide e0
        clear hc c0 c1 c2 c3 hdp hKK hp hww hba hbox e0 e1 e2
        go_wp2_with fail
        rw [← unhide HWA]
        refine (unhide HIP).mono ?_
        rintro e w1 ⟨rfl, hb1⟩
        have hb2 : Below w'.heap.size w' w1 := (unhide HBA).trans (hb1.mono (unhide HBA).size)
        have e0 := (hb1.cell (p := ⟨wr.heap.size, 0, none⟩) (by dsimp only; omega)).trans (unhide HE0)
        cases hpc : pcB (p.l : Int) p.v p.ws with
        | false =>
          have hf : okP 0 ps = false := by rw [← (unhide HKK).1, hpc]; rfl
          have HF := hide hf
          clear hf hb1 hwa
          go_wp2
          go_ret2
          refine ⟨?_, hb2⟩
          rw [unhide HS0 (unhide HF), unhide HF]; rfl
        | true =>
          have hcap : capB (p.l : Int) = true := by
            simp only [pcB, Bool.and_eq_true] at hpc
            exact hpc.1.1.1
          cases hha : hasL S (p.l : Int) with
          | true =>
            have hf : okP 0 ps = false := by rw [← (unhide HKK).1, hha]; simp
            have HF := hide hf
            have HHA := hide hha
            clear hf hb1 hwa hha hpc hcap
            go_wp2_with fail
            refine (have_any S p.l _ (by omega) hl).mono ?_
            rintro e w2 ⟨rfl, rfl⟩
            rw [unhide HHA]
            go_wp2
            go_ret2
            refine ⟨?_, hb2⟩
            rw [unhide HS0 (unhide HF), unhide HF]; rfl
          | false =>
            have hK2 := unhide HKK
            rw [hpc, hha] at hK2
            simp only [Bool.not_false, Bool.and_self, Bool.true_and] at hK2
            have hcap' := hcap
            simp only [capB, Bool.and_eq_true, decide_eq_true_eq] at hcap'
            obtain ⟨s, hs⟩ : ∃ s, p.l = s + 65 := ⟨p.l - 65, by omega⟩
            have hs26 : s < 26 := by omega
            have hse : p.l - 65 = s := by omega
            rw [hse] at hK2
            have hor := or_u32_nat S (2 ^ s) (by omega) (pow26 s hs26)
            have hS2 := or26 S s hS hs26
            obtain ⟨S2, hS2e⟩ : ∃ S2, S2 = S ||| 2 ^ s := ⟨_, rfl⟩
            obtain ⟨P, hP⟩ : ∃ P, P = 2 ^ s := ⟨_, rfl⟩
            have hbo := fun w => bitOf_any p.l s w hs hs26
            rw [← hP] at hbo hor
            rw [hP, ← hS2e, ← hP] at hor
            rw [← hS2e] at hS2 hK2
            have HBO := hide hbo
            have HHA := hide hha
            have HK2 := hide hK2
            clear hb1 hwa hha hpc hcap hcap' hs hse hK2 hbo hP hS2e hs26
            go_wp2_with fail
            refine (have_any S p.l _ (by omega) hl).mono ?_
            rintro e w2 ⟨rfl, rfl⟩
            rw [unhide HHA]
            go_wp2_with fail
            refine (unhide HBO _).mono ?_
            rintro e w3 ⟨rfl, rfl⟩
            go_wp2
            go_roundw
            case rel => exact ⟨k + 1, S2, by omega, by go_num, rfl, hS2, HK2, hb2⟩
            case measure => simp [intOf]; omega
      · obtain rfl : k = n := by omega
        have hki : ¬ (k : Int) < (k : Int) := by omega
        have hK := unhide HK
        rw [List.drop_of_length_le (by rw [← unhide HN]; exact Nat.le_refl _)] at hK
        simp only [okP, bitsP] at hK
        have HK3 := hide hK
        clear hK
        go_wp2
        go_ret2
        refine ⟨?_, hbr⟩
        rw [unhide HS (unhide HK3).1.symm, ← (unhide HK3).1, ← (unhide HK3).2]; rfl
end Go.Proofs.YtihojhfpepbjhaaGreatDoor

namespace Go.Proofs.YtihojhfpepbjhaaGreatDoor
open Go.RowKit
attribute [local go_sem ↓] Go.wp_at_zero Go.wp_at_succ

/-- A letter, as a capital one. -/
def upN (c : Nat) : Nat := c &&& 223
theorem up_andNot : ∀ c : Nat, c < 256 → bits .andNot .u8 (c : Int) 32 = ((upN c : Nat) : Int) ∧ upN c < 256 := by decide +kernel
def cellL (S : Nat) (c : UInt8) : Bool := decide (c.toNat = 46) || hasL S (upN c.toNat : Nat)
def handL (S : Nat) (c : UInt8) : Bool := hasL S (c.toNat : Nat)
def allL (S : Nat) (C A B : List UInt8) : Bool := C.all (cellL S) && A.all (handL S) && B.all (handL S)

theorem all_snoc (f : UInt8 → Bool) (s : ByteArray) (k : Nat) (h : k < s.size) : (s.data.toList.take (k + 1)).all f = ((s.data.toList.take k).all f && f s[k]) := by rw [take_snoc s k h]; simp
theorem all_no (f : UInt8 → Bool) (s : ByteArray) (k : Nat) (h : k < s.size) (hf : f s[k] = false) : s.data.toList.all f = false := by
  rw [List.all_eq_false]
  refine ⟨s[k], ?_, by simp [hf]⟩
  have : s.data.toList[k]'(by rw [len_data]; exact h) = s[k] := rfl
  rw [← this]; exact List.getElem_mem _

theorem hands0 (A B : ByteArray) (w : World) : (Instr.index 22 (.agg #[.string A, .string B]) (.int .i64 0)).run Tryz.prog w = .ok (.string A) w := by kernel_rfl
theorem hands1 (A B : ByteArray) (w : World) : (Instr.index 22 (.agg #[.string A, .string B]) (.int .i64 1)).run Tryz.prog w = .ok (.string B) w := by kernel_rfl


set_option maxHeartbeats 2000000 in
set_option maxRecDepth 100000 in
theorem haveAllOf_any (S : Nat) (W H T : Int) (C A B : ByteArray) (w : World) (hS : S < 67108864) (hC : C.size ≤ maxLen) (hA : A.size ≤ maxLen) (hB : B.size ≤ maxLen) :
    Calls Tryz.prog 54 #[.int .u32 (S : Int), .agg #[.int .i64 W, .int .i64 H, .string C, .int .i64 T, .string A, .string B]] w fun e w' => e = .returned (.bool (allL S C.data.toList A.data.toList B.data.toList)) ∧ Below w.heap.size w w' := by
  unfold maxLen at hC hA hB
  have i0 := hands0 A B
  have i1 := hands1 A B
  obtain ⟨r, hr⟩ : ∃ r, r = allL S C.data.toList A.data.toList B.data.toList := ⟨_, rfl⟩
  rw [← hr]
  have hb0 : Below w.heap.size w (w.alloc (.cells #[.int .i64 W, .int .i64 H, .string C, .int .i64 T, .string A, .string B] 24 (0, 0))) := (Below.refl _ w).alloc (Nat.le_refl _) _
  have hx0 : (w.alloc (.cells #[.int .i64 W, .int .i64 H, .string C, .int .i64 T, .string A, .string B] 24 (0, 0))).cell? ⟨w.heap.size, 2, none⟩ = some (.string C) := cell_of_row _ _ _ _ _ _ (heap_alloc_new w _)
  have hx4 : (w.alloc (.cells #[.int .i64 W, .int .i64 H, .string C, .int .i64 T, .string A, .string B] 24 (0, 0))).cell? ⟨w.heap.size, 4, none⟩ = some (.string A) := cell_of_row _ _ _ _ _ _ (heap_alloc_new w _)
  have hx5 : (w.alloc (.cells #[.int .i64 W, .int .i64 H, .string C, .int .i64 T, .string A, .string B] 24 (0, 0))).cell? ⟨w.heap.size, 5, none⟩ = some (.string B) := cell_of_row _ _ _ _ _ _ (heap_alloc_new w _)
  obtain ⟨wa, hwa⟩ : ∃ wa, wa = w.alloc (.cells #[.int .i64 W, .int .i64 H, .string C, .int .i64 T, .string A, .string B] 24 (0, 0)) := ⟨_, rfl⟩
  rw [← hwa] at hb0 hx0 hx4 hx5
  have HR := hide hr
  have HWA := hide hwa
  clear hr hwa
  go_enter Tryz.func54, Tryz.ntmps54
  go_wp2
  rw [← unhide HWA]
  go_loopw [13] (fun iv wr => ∃ k : Nat, k ≤ C.size ∧ iv = .int .i64 (k : Int) ∧ Hid ((C.data.toList.take k).all (cellL S) = true) ∧ wr = wa) (fun iv _ => C.size - (intOf iv).toNat)
  case atStart => exact ⟨0, Nat.zero_le _, rfl, by show _ = _; simp, rfl⟩
  case round =>
    obtain ⟨k, hk, rfl, HK, rfl⟩ := hrel
    by_cases hkl : k < C.size
    · have hki : (k : Int) < (C.size : Int) := by omega
      have hk0 : (0 : Int) ≤ (k : Int) := by omega
      have h256 : C[k].toNat < 256 := C[k].toNat_lt
      obtain ⟨hup, hu256⟩ := up_andNot C[k].toNat h256
      obtain ⟨u, hu⟩ : ∃ u, u = upN C[k].toNat := ⟨_, rfl⟩
      rw [← hu] at hup hu256
      have hcl : cellL S C[k] = (decide (C[k].toNat = 46) || hasL S (u : Nat)) := by rw [hu]; rfl
      have HSN := hide (all_snoc (cellL S) C k hkl)
      have HNO := hide (all_no (cellL S) C k hkl)
      have HCL := hide hcl
      clear hcl hu
      by_cases h46 : C[k].toNat = 46
      · have hok : cellL S C[k] = true := by rw [unhide HCL, decide_eq_true h46]; rfl
        have hnew : (C.data.toList.take (k + 1)).all (cellL S) = true := by rw [unhide HSN, unhide HK, hok]; rfl
        have HNEW := hide hnew
        have h46i : (C[k].toNat : Int) = 46 := by omega
        clear hok hnew hup
        go_wp2
        go_roundw
        case rel => exact ⟨k + 1, by omega, by go_num, HNEW, trivial⟩
        case measure => simp [intOf]; omega
      · have h46i : ¬ (C[k].toNat : Int) = 46 := by omega
        have h46b : ((C[k].toNat : Int) != 46) = true := by simp; omega
        cases hha : hasL S (u : Nat) with
        | false =>
          have hok : cellL S C[k] = false := by rw [unhide HCL, hha]; simp [h46]
          have hff : r = false := by rw [unhide HR, allL, unhide HNO hok]; rfl
          have HFF := hide hff
          have HHA := hide hha
          clear hok hff hha
          go_wp2_with fail
          refine (Capital_any C[k].toNat _).mono ?_
          rintro e w1 ⟨rfl, hw1⟩
          subst hw1
          rw [hup]
          go_wp2_with fail
          refine (have_any S u _ (by omega) hu256).mono ?_
          rintro e w2 ⟨rfl, rfl⟩
          rw [unhide HHA]
          go_wp2
          go_ret
          exact ⟨ret_bool (unhide HFF).symm, hb0⟩
        | true =>
          have hok : cellL S C[k] = true := by rw [unhide HCL, hha]; simp
          have hnew : (C.data.toList.take (k + 1)).all (cellL S) = true := by rw [unhide HSN, unhide HK, hok]; rfl
          have HNEW := hide hnew
          have HHA := hide hha
          clear hok hnew hha
          go_wp2_with fail
          refine (Capital_any C[k].toNat _).mono ?_
          rintro e w1 ⟨rfl, hw1⟩
          subst hw1
          rw [hup]
          go_wp2_with fail
          refine (have_any S u _ (by omega) hu256).mono ?_
          rintro e w2 ⟨rfl, hw2⟩
          rw [unhide HHA]
          subst hw2
          go_wp2
          go_roundw
          case rel => exact ⟨k + 1, by omega, by go_num, HNEW, trivial⟩
          case measure => simp [intOf]; omega
    · obtain rfl : k = C.size := by omega
      have hki : ¬ (C.size : Int) < (C.size : Int) := by omega
      have hall : C.data.toList.all (cellL S) = true := by
        have := unhide HK
        rw [take_all C C.size (Nat.le_refl _)] at this
        exact this
      have hrab : r = (A.data.toList.all (handL S) && B.data.toList.all (handL S)) := by rw [unhide HR, allL, hall]; rfl
      have HRAB := hide hrab
      have HB0 := hide hb0
      clear hall hrab hb0
      go_wp2
      go_loopw [32] (fun iv wr => ∃ k : Nat, k ≤ 2 ∧ iv = .int .i64 (k : Int) ∧ (0 < k → Hid (A.data.toList.all (handL S) = true)) ∧ (1 < k → Hid (B.data.toList.all (handL S) = true)) ∧ Below w.heap.size w wr) (fun iv _ => 2 - (intOf iv).toNat)
      case atStart => exact ⟨0, by omega, rfl, by omega, by omega, unhide HB0⟩
      case round =>
        obtain ⟨k, hk, rfl, HKA, HKB, hbr⟩ := hrel
        match k, hk, HKA, HKB with
        | 0, _, HKA, HKB =>
          clear HKA HKB
          have hfalse : A.data.toList.all (handL S) = false → r = false := fun e => by rw [unhide HRAB, e]; rfl
          have HFALSE := hide hfalse
          clear hfalse
          rw [show ((0 : Nat) : Int) = 0 from rfl]
          obtain ⟨D, hD⟩ : ∃ D, D = A := ⟨_, rfl⟩
          subst hD
          have hrel2 : ∀ wx, Hid (D.data.toList.all (handL S) = true) → Below w.heap.size w wx → ∃ k : Nat, k ≤ 2 ∧ Value.int .i64 1 = .int .i64 (k : Int) ∧ (0 < k → Hid (D.data.toList.all (handL S) = true)) ∧ (1 < k → Hid (B.data.toList.all (handL S) = true)) ∧ Below w.heap.size w wx := fun wx h1 h2 => ⟨1, by omega, rfl, fun _ => h1, by omega, h2⟩
          have HREL := hide hrel2
          clear hrel2
          go_wp2
          go_loopw [37] (fun iv wx => ∃ j : Nat, j ≤ D.size ∧ iv = .int .i64 (j : Int) ∧ Hid ((D.data.toList.take j).all (handL S) = true) ∧ Below w.heap.size w wx) (fun iv _ => D.size - (intOf iv).toNat)
          case atStart => exact ⟨0, Nat.zero_le _, rfl, by show _ = _; simp, hbr⟩
          case round =>
            obtain ⟨j, hj, rfl, HJ, hbx⟩ := hrel
            by_cases hjl : j < D.size
            · have hji : (j : Int) < (D.size : Int) := by omega
              have hj0 : (0 : Int) ≤ (j : Int) := by omega
              have h256 : D[j].toNat < 256 := D[j].toNat_lt
              have hsn := all_snoc (handL S) D j hjl
              have HSN := hide hsn
              have HNO := hide (all_no (handL S) D j hjl)
              clear hsn
              cases hok : handL S D[j] with
              | false =>
                have hff := unhide HFALSE (unhide HNO hok)
                have HFF := hide hff
                have HOK := hide (show hasL S (D[j].toNat : Nat) = false from hok)
                clear hok hff
                go_wp2_with fail
                refine (have_any S D[j].toNat _ (by omega) h256).mono ?_
                rintro e w2 ⟨rfl, rfl⟩
                rw [unhide HOK]
                go_wp2
                go_ret
                exact ⟨ret_bool (unhide HFF).symm, hbx⟩
              | true =>
                have hnew : (D.data.toList.take (j + 1)).all (handL S) = true := by rw [unhide HSN, unhide HJ, hok]; rfl
                have HNEW := hide hnew
                have HOK := hide (show hasL S (D[j].toNat : Nat) = true from hok)
                clear hok hnew
                go_wp2_with fail
                refine (have_any S D[j].toNat _ (by omega) h256).mono ?_
                rintro e w2 ⟨rfl, rfl⟩
                rw [unhide HOK]
                go_wp2
                go_roundw
                case rel => exact ⟨j + 1, by omega, by go_num, HNEW, hbx⟩
                case measure => simp [intOf]; omega
            · obtain rfl : j = D.size := by omega
              have hji : ¬ (D.size : Int) < (D.size : Int) := by omega
              have hall : D.data.toList.all (handL S) = true := by
                have := unhide HJ
                rw [take_all D D.size (Nat.le_refl _)] at this
                exact this
              have HALLD := hide hall
              clear hall
              go_wp2
              go_roundw
              case rel => exact unhide HREL _ HALLD hbx
              case measure => simp [intOf]
        | 1, _, HKA, HKB =>
          have HA1 := HKA (by omega)
          clear HKA HKB
          have hfalse : B.data.toList.all (handL S) = false → r = false := fun e => by rw [unhide HRAB, e]; simp
          have HFALSE := hide hfalse
          clear hfalse
          rw [show ((1 : Nat) : Int) = 1 from rfl]
          obtain ⟨D, hD⟩ : ∃ D, D = B := ⟨_, rfl⟩
          subst hD
          have hrel2 : ∀ wx, Hid (D.data.toList.all (handL S) = true) → Below w.heap.size w wx → ∃ k : Nat, k ≤ 2 ∧ Value.int .i64 2 = .int .i64 (k : Int) ∧ (0 < k → Hid (A.data.toList.all (handL S) = true)) ∧ (1 < k → Hid (D.data.toList.all (handL S) = true)) ∧ Below w.heap.size w wx := fun wx h1 h2 => ⟨2, by omega, rfl, fun _ => HA1, fun _ => h1, h2⟩
          have HREL := hide hrel2
          clear hrel2
          go_wp2
          go_loopw [37] (fun iv wx => ∃ j : Nat, j ≤ D.size ∧ iv = .int .i64 (j : Int) ∧ Hid ((D.data.toList.take j).all (handL S) = true) ∧ Below w.heap.size w wx) (fun iv _ => D.size - (intOf iv).toNat)
          case atStart => exact ⟨0, Nat.zero_le _, rfl, by show _ = _; simp, hbr⟩
          case round =>
            obtain ⟨j, hj, rfl, HJ, hbx⟩ := hrel
            by_cases hjl : j < D.size
            · have hji : (j : Int) < (D.size : Int) := by omega
              have hj0 : (0 : Int) ≤ (j : Int) := by omega
              have h256 : D[j].toNat < 256 := D[j].toNat_lt
              have hsn := all_snoc (handL S) D j hjl
              have HSN := hide hsn
              have HNO := hide (all_no (handL S) D j hjl)
              clear hsn
              cases hok : handL S D[j] with
              | false =>
                have hff := unhide HFALSE (unhide HNO hok)
                have HFF := hide hff
                have HOK := hide (show hasL S (D[j].toNat : Nat) = false from hok)
                clear hok hff
                go_wp2_with fail
                refine (have_any S D[j].toNat _ (by omega) h256).mono ?_
                rintro e w2 ⟨rfl, rfl⟩
                rw [unhide HOK]
                go_wp2
                go_ret
                exact ⟨ret_bool (unhide HFF).symm, hbx⟩
              | true =>
                have hnew : (D.data.toList.take (j + 1)).all (handL S) = true := by rw [unhide HSN, unhide HJ, hok]; rfl
                have HNEW := hide hnew
                have HOK := hide (show hasL S (D[j].toNat : Nat) = true from hok)
                clear hok hnew
                go_wp2_with fail
                refine (have_any S D[j].toNat _ (by omega) h256).mono ?_
                rintro e w2 ⟨rfl, rfl⟩
                rw [unhide HOK]
                go_wp2
                go_roundw
                case rel => exact ⟨j + 1, by omega, by go_num, HNEW, hbx⟩
                case measure => simp [intOf]; omega
            · obtain rfl : j = D.size := by omega
              have hji : ¬ (D.size : Int) < (D.size : Int) := by omega
              have hall : D.data.toList.all (handL S) = true := by
                have := unhide HJ
                rw [take_all D D.size (Nat.le_refl _)] at this
                exact this
              have HALLD := hide hall
              clear hall
              go_wp2
              go_roundw
              case rel => exact unhide HREL _ HALLD hbx
              case measure => simp [intOf]
        | 2, _, HKA, HKB =>
          have hr : r = true := by rw [unhide HRAB, unhide (HKA (by omega)), unhide (HKB (by omega))]; rfl
          have HRT := hide hr
          clear hr HKA HKB
          go_wp2
          go_ret
          exact ⟨ret_bool (unhide HRT).symm, hbr⟩
end Go.Proofs.YtihojhfpepbjhaaGreatDoor
