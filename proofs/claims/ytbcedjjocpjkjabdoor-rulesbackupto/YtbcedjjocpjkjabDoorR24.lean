/-
  What Write answers of rules that are right, in one word; the closed text that RulesBack reads first.
-/
import Derived.Test.YtbcedjjocpjkjabDoorR22
import Derived.Test.YtbcedjjocpjkjabDoorR11
namespace Go.Proofs.YtbcedjjocpjkjabDoor
open Go.RowKit
def kText : ByteArray := ⟨#[115, 116, 97, 114, 116, 32, 75, 32, 119, 32, 45, 47, 45, 10, 112, 105, 101, 99, 101, 32, 75, 32, 51, 10, 112, 108, 105, 101, 115, 32, 57, 10]⟩
def kRules : Rl := ⟨1, 1, [75], 0, [], [], [⟨75, 3, []⟩], false, 0, 0, 0, false, 9⟩
theorem kRules_whole : kRules.whole = true := by decide +kernel
theorem kRules_txt : kRules.txt = kText.data.toList := by decide +kernel
theorem kRead : readR kText.data.toList = (some kRules, 0, 0) := by rw [← kRules_txt]; exact readR_there _ kRules_whole

theorem whole_pos (x : Rl) (h : x.whole = true) : IsPos x.W x.H ⟨x.C.toArray⟩ x.T ⟨x.A.toArray⟩ ⟨x.B.toArray⟩ := by
  have hp : posB x.W x.H x.C x.T x.A x.B = true := by
    simp only [Rl.whole, rulesB, Bool.and_eq_true] at h
    exact h.1.1.1.1.1.2
  obtain ⟨W', H', e1, e2, q⟩ := isPos_of (W := x.W) (H := x.H) (C := ⟨x.C.toArray⟩) (T := x.T) (A := ⟨x.A.toArray⟩) (B := ⟨x.B.toArray⟩) hp
  have e1' : x.W = W' := by omega
  have e2' : x.H = H' := by omega
  rw [e1', e2']
  exact q
theorem rWrite_of (x : Rl) (hx : x.whole = true) (ao : Option Addr) (cap : Nat) (w : World) (h : isPcs w ao cap x.ps) (ht : isTab w) :
    Calls Tryd.prog 5 #[x.val (.slice ao x.ps.length cap)] w fun e w' => e = .returned (.tuple #[.string ⟨x.txt.toArray⟩, .int .i64 0]) ∧ Below w.heap.size w w' :=
  rWrite_ok (C := ⟨x.C.toArray⟩) (A := ⟨x.A.toArray⟩) (B := ⟨x.B.toArray⟩) ao cap x.ps x.dr x.st x.lo x.re (x.li : Int) (x.pl : Int) w (whole_pos x hx) h hx ht
theorem bytes_same (C : ByteArray) : (⟨C.data.toList.toArray⟩ : ByteArray) = C := bytes_eq rfl
theorem rl_of {W H T : Int} {C A B : ByteArray} {ps : List Pc} {lo re : UInt8} {li pl : Int} (dr st : Bool) (h : rulesB W H C.data.toList T A.data.toList B.data.toList ps lo.toNat li re.toNat pl = true) :
    ∃ x : Rl, x.whole = true ∧ x.ps = ps ∧ ∀ v, (Value.agg #[.int .i64 W, .int .i64 H, .string C, .int .i64 T, .string A, .string B, v, .bool dr, .int .u8 (lo.toNat : Int), .int .i64 li, .int .u8 (re.toNat : Int), .bool st, .int .i64 pl]) = x.val v := by
  have h' := h
  simp only [rulesB, inB, Bool.and_eq_true, Bool.or_eq_true, decide_eq_true_eq] at h'
  obtain ⟨⟨⟨⟨⟨⟨hps, hpos⟩, -⟩, -⟩, -⟩, hli⟩, hpl⟩ := h'
  obtain ⟨W', H', rfl, rfl, -⟩ := isPos_of hpos
  obtain ⟨li', rfl⟩ := Int.eq_ofNat_of_zero_le (show 0 ≤ li by omega)
  obtain ⟨pl', rfl⟩ := Int.eq_ofNat_of_zero_le (show 0 ≤ pl by omega)
  refine ⟨⟨W', H', C.data.toList, T, A.data.toList, B.data.toList, ps, dr, lo, li', re, st, pl'⟩, h, rfl, fun v => ?_⟩
  simp only [Rl.val, bytes_same]
theorem txt_len (x : Rl) (h : x.whole = true) : x.txt.length < 100000 := by
  have p0 := whole_pos x h
  have h' := h
  simp only [Rl.whole, rulesB, psB, inB, Bool.and_eq_true, Bool.or_eq_true, decide_eq_true_eq] at h'
  obtain ⟨⟨⟨⟨⟨⟨⟨hn, hokp⟩, -⟩, -⟩, -⟩, -⟩, hli⟩, hpl⟩ := h'
  have z1 := wtxt_len p0
  have z2 := flatP_len x.ps (okP_mem x.ps 0 hokp)
  have z3 := dropsL_len x.dr
  have z4 := letL_len wLose x.lo (by decide)
  have z5 := numL_len x.li (by omega)
  have z6 := letL_len wReach x.re (by decide)
  have z7 := stuckL_len x.st
  have z8 := dec_len x.pl (by omega)
  have z1' : (wtxt x.W x.H x.C x.T x.A x.B).length ≤ 200 := z1
  unfold Rl.txt rulesL
  simp only [List.length_append, lineL, wStart, wPlies, join_two, Lib.join_one, List.length_cons, List.length_nil, Int.toNat_natCast]
  omega
end Go.Proofs.YtbcedjjocpjkjabDoor
