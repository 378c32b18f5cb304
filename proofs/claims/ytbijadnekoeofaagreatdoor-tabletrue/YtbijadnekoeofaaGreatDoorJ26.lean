/-
  Orders by a number below, at or above 0: bytes, ints, one behind another (plain mathematics).
  DERIVED: THE SHELF's CONTRACTS AT THIS DUMP, IN PLAIN WORDS (tools/lay-plain.mjs out of 'YtbijadnekoeofaaGreatDoorShelfS.lean', which tools/lay-shelf.mjs wrote): THE SAME DECLARATIONS UNDER THE SAME NAMES: 'import', 'namespace', 'open', 'def', 'theorem' AND NOTHING ELSE: no command of the shelf's: FOR A HAND-IN. Each laying: the table of numbers ('.._ren') and one theorem, a field a fact of the dump's own or the kernel's comparison; each contract: ONE APPLICATION.
  slices.SortFunc at entries, by table.compare.
-/
import Derived.Test.YtbijadnekoeofaaGreatDoorJ25
import Derived.Shelf.SlSortCmp.WholeK
import Derived.Shelf.SlGeneric
import Derived.Ground.SlsfProg
import Derived.Test.YtbijadnekoeofaaGreatDoorProg
namespace Go.Proofs.YtbijadnekoeofaaGreatDoor
open Go.Sort

/-- c tells which of two comes first, and 0 only of one and the same. -/
structure TO {α : Type} (c : α → α → Int) : Prop where
  same : ∀ x, c x x = 0
  one : ∀ x y, c x y = 0 → x = y
  anti : ∀ x y, c x y < 0 → 0 < c y x
  back : ∀ x y, 0 < c x y → c y x < 0
  trans : ∀ x y z, c x y < 0 → c y z < 0 → c x z < 0

theorem TO.int : TO Lib.compareInt where
  same x := by unfold Lib.compareInt; simp
  one x y h := by unfold Lib.compareInt at h; repeat' split at h <;> omega
  anti x y h := by unfold Lib.compareInt at *; (repeat' split at h) <;> (repeat' split) <;> omega
  back x y h := by unfold Lib.compareInt at *; (repeat' split at h) <;> (repeat' split) <;> omega
  trans x y z h k := by unfold Lib.compareInt at *; (repeat' split at h) <;> (repeat' split at k) <;> (repeat' split) <;> omega

theorem cb_same : ∀ x : List UInt8, Lib.compareBytes x x = 0
  | [] => rfl
  | a :: l => by
    have h : ¬ a < a := by rw [UInt8.lt_iff_toNat_lt]; omega
    simp only [Lib.compareBytes, h, if_false, cb_same l]
theorem cb_one : ∀ x y : List UInt8, Lib.compareBytes x y = 0 → x = y
  | [], [], _ => rfl
  | [], _ :: _, h => by simp [Lib.compareBytes] at h
  | _ :: _, [], h => by simp [Lib.compareBytes] at h
  | a :: l, b :: k, h => by
    simp only [Lib.compareBytes] at h
    by_cases h1 : a < b
    · rw [if_pos h1] at h; omega
    · rw [if_neg h1] at h
      by_cases h2 : b < a
      · rw [if_pos h2] at h; omega
      · rw [if_neg h2] at h
        rw [UInt8.lt_iff_toNat_lt] at h1 h2
        rw [cb_one l k h, UInt8.toNat_inj.1 (show a.toNat = b.toNat by omega)]
theorem cb_neg : ∀ x y : List UInt8, Lib.compareBytes y x = - Lib.compareBytes x y
  | [], [] => rfl
  | [], _ :: _ => rfl
  | _ :: _, [] => rfl
  | a :: l, b :: k => by
    simp only [Lib.compareBytes]
    by_cases h1 : a < b
    · have h2 : ¬ b < a := by rw [UInt8.lt_iff_toNat_lt] at *; omega
      rw [if_pos h1, if_neg h2, if_pos h1]; rfl
    · rw [if_neg h1]
      by_cases h2 : b < a
      · simp only [h1, h2, if_true, if_false]
      · simp only [h1, h2, if_false]; exact cb_neg l k
theorem cb_trans : ∀ x y z : List UInt8, Lib.compareBytes x y < 0 → Lib.compareBytes y z < 0 → Lib.compareBytes x z < 0
  | [], [], _, h, _ => by simp [Lib.compareBytes] at h
  | [], _ :: _, [], _, k => by simp [Lib.compareBytes] at k
  | [], _ :: _, _ :: _, _, _ => by simp [Lib.compareBytes]
  | _ :: _, [], _, h, _ => by simp [Lib.compareBytes] at h
  | _ :: _, _ :: _, [], _, k => by simp [Lib.compareBytes] at k
  | a :: l, b :: m, c :: n, h, k => by
    simp only [Lib.compareBytes] at h k ⊢
    by_cases h1 : a < b
    · by_cases k1 : b < c
      · rw [if_pos (by rw [UInt8.lt_iff_toNat_lt] at *; omega)]; omega
      · rw [if_neg k1] at k
        by_cases k2 : c < b
        · rw [if_pos k2] at k; omega
        · rw [if_pos (by rw [UInt8.lt_iff_toNat_lt] at *; omega)]; omega
    · rw [if_neg h1] at h
      by_cases h2 : b < a
      · rw [if_pos h2] at h; omega
      · rw [if_neg h2] at h
        by_cases k1 : b < c
        · rw [if_pos (by rw [UInt8.lt_iff_toNat_lt] at *; omega)]; omega
        · rw [if_neg k1] at k
          by_cases k2 : c < b
          · rw [if_pos k2] at k; omega
          · rw [if_neg k2] at k
            rw [if_neg (by rw [UInt8.lt_iff_toNat_lt] at *; omega), if_neg (by rw [UInt8.lt_iff_toNat_lt] at *; omega)]
            exact cb_trans l m n h k

theorem TO.bytes : TO Lib.compareBytes where
  same := cb_same
  one := cb_one
  anti x y h := by rw [cb_neg x y]; omega
  back x y h := by rw [cb_neg x y]; omega
  trans := cb_trans

theorem TO.lex {α β : Type} {c : α → α → Int} {d : β → β → Int} (hc : TO c) (hd : TO d) : TO (fun x y : α × β => if c x.1 y.1 = 0 then d x.2 y.2 else c x.1 y.1) where
  same x := by simp only [hc.same, if_true, hd.same]
  one x y h := by
    by_cases h1 : c x.1 y.1 = 0
    · simp only [h1, if_true] at h; exact Prod.ext (hc.one _ _ h1) (hd.one _ _ h)
    · simp only [h1, if_false] at h
  anti x y h := by
    by_cases h1 : c x.1 y.1 = 0
    · simp only [h1, if_true] at h
      have e := hc.one _ _ h1
      simp only [e, hc.same, if_true]; exact hd.anti _ _ h
    · simp only [h1, if_false] at h
      have := hc.anti _ _ h
      simp only [show c y.1 x.1 ≠ 0 by omega, if_false]; exact this
  back x y h := by
    by_cases h1 : c x.1 y.1 = 0
    · simp only [h1, if_true] at h
      have e := hc.one _ _ h1
      simp only [e, hc.same, if_true]; exact hd.back _ _ h
    · simp only [h1, if_false] at h
      have := hc.back _ _ h
      simp only [show c y.1 x.1 ≠ 0 by omega, if_false]; exact this
  trans x y z h k := by
    by_cases h1 : c x.1 y.1 = 0
    · simp only [h1, if_true] at h
      rw [hc.one _ _ h1]
      by_cases k1 : c y.1 z.1 = 0
      · simp only [k1, if_true] at k ⊢; exact hd.trans _ _ _ h k
      · simp only [k1, if_false] at k ⊢; exact k
    · simp only [h1, if_false] at h
      by_cases k1 : c y.1 z.1 = 0
      · rw [← hc.one _ _ k1]; simp only [h1, if_false]; exact h
      · simp only [k1, if_false] at k
        have := hc.trans _ _ _ h k
        simp only [show c x.1 z.1 ≠ 0 by omega, if_false]; exact this

theorem TO.swo {α β : Type} {c : β → β → Int} (hc : TO c) (f : α → β) : SWO (ltOf fun x y => c (f x) (f y)) where
  irrefl x := by simp [ltOf, hc.same]
  trans x y z h k := by simp only [ltOf, decide_eq_true_eq] at *; exact hc.trans _ _ _ h k
  ntrans x y z h k := by
    simp only [ltOf, decide_eq_false_iff_not] at *
    intro hz
    by_cases h0 : c (f x) (f y) = 0
    · rw [hc.one _ _ h0] at hz; exact k hz
    · have h1 := hc.back _ _ (show 0 < c (f x) (f y) by omega)
      exact k (hc.trans _ _ _ h1 hz)

/-- What compare looks at. -/
def keyP (p : Po) : List UInt8 × Int × List UInt8 × List UInt8 := (p.C.data.toList, p.T, p.A.data.toList, p.B.data.toList)
def cmpK : (List UInt8 × Int × List UInt8 × List UInt8) → (List UInt8 × Int × List UInt8 × List UInt8) → Int :=
  fun x y => if Lib.compareBytes x.1 y.1 = 0 then (fun x y : Int × List UInt8 × List UInt8 => if Lib.compareInt x.1 y.1 = 0 then (fun x y : List UInt8 × List UInt8 => if Lib.compareBytes x.1 y.1 = 0 then Lib.compareBytes x.2 y.2 else Lib.compareBytes x.1 y.1) x.2 y.2 else Lib.compareInt x.1 y.1) x.2 y.2 else Lib.compareBytes x.1 y.1
theorem cmpK_TO : TO cmpK := TO.lex TO.bytes (TO.lex TO.int (TO.lex TO.bytes TO.bytes))
theorem cmpP_K (p q : Po) : cmpP p q = cmpK (keyP p) (keyP q) := by
  simp only [cmpP, cmpK, keyP, orI]
  by_cases h1 : Lib.compareBytes p.C.data.toList q.C.data.toList = 0 <;> simp only [h1, if_true, if_false]
  by_cases h2 : Lib.compareInt p.T q.T = 0 <;> simp only [h2, if_true, if_false]
  by_cases h3 : Lib.compareBytes p.A.data.toList q.A.data.toList = 0 <;> simp only [h3, if_true, if_false]
  by_cases h4 : Lib.compareBytes p.B.data.toList q.B.data.toList = 0 <;> simp only [h4, if_true, if_false]
end Go.Proofs.YtbijadnekoeofaaGreatDoor

namespace Go.Proofs
open Go.Shelf
def Tryz.sortEn_ren : Go.Shelf.Ren := ⟨fun | 6 => 15 | 15 => 39 | 14 => 38 | 28 => 81 | 29 => 82 | 20 => 73 | 21 => 74 | 22 => 75 | 23 => 76 | 24 => 77 | 25 => 78 | 26 => 79 | 27 => 80 | 46 => 109 | 47 => 110 | 48 => 111 | 49 => 112 | 50 => 113 | 57 => 131 | n => n, fun | 22 => 28 | 24 => 34 | 25 => 56 | 3 => 3 | 39 => 84 | 0 => 0 | 53 => 69 | 55 => 130 | 4 => 4 | 46 => 123 | 45 => 122 | 50 => 80 | 5 => 5 | 9 => 9 | 66 => 148 | 70 => 152 | 76 => 175 | 77 => 176 | n => n, fun | n => n⟩
theorem Tryz.sortEn : Go.Proofs.SlLaysF0.n6 Tryz.prog Tryz.sortEn_ren := {
  mixed := by kernel_rfl
  f6 := ⟨Tryz.f15.name, by decide, Tryz.func15.trans (congrArg some (by kernel_rfl))⟩
  f14 := ⟨Tryz.f38.name, by decide, Tryz.func38.trans (congrArg some (by kernel_rfl))⟩
  f15 := Tryz.func39.trans (congrArg some (by kernel_rfl))
  f20 := ⟨Tryz.f73.name, by decide, Tryz.func73.trans (congrArg some (by kernel_rfl))⟩
  f21 := ⟨Tryz.f74.name, by decide, Tryz.func74.trans (congrArg some (by kernel_rfl))⟩
  f22 := ⟨Tryz.f75.name, by decide, Tryz.func75.trans (congrArg some (by kernel_rfl))⟩
  f23 := ⟨Tryz.f76.name, by decide, Tryz.func76.trans (congrArg some (by kernel_rfl))⟩
  f24 := ⟨Tryz.f77.name, by decide, Tryz.func77.trans (congrArg some (by kernel_rfl))⟩
  f25 := ⟨Tryz.f78.name, by decide, Tryz.func78.trans (congrArg some (by kernel_rfl))⟩
  f26 := ⟨Tryz.f79.name, by decide, Tryz.func79.trans (congrArg some (by kernel_rfl))⟩
  f27 := ⟨Tryz.f80.name, by decide, Tryz.func80.trans (congrArg some (by kernel_rfl))⟩
  f28 := Tryz.func81.trans (congrArg some (by kernel_rfl))
  f29 := Tryz.func82.trans (congrArg some (by kernel_rfl))
  f46 := ⟨Tryz.f109.name, by decide, Tryz.func109.trans (congrArg some (by kernel_rfl))⟩
  f47 := Tryz.func110.trans (congrArg some (by kernel_rfl))
  f48 := Tryz.func111.trans (congrArg some (by kernel_rfl))
  f49 := ⟨Tryz.f112.name, by decide, Tryz.func112.trans (congrArg some (by kernel_rfl))⟩
  f50 := ⟨Tryz.f113.name, by decide, Tryz.func113.trans (congrArg some (by kernel_rfl))⟩
  f57 := ⟨Tryz.f131.name, by decide, Tryz.func131.trans (congrArg some (by kernel_rfl))⟩
  t0 := Tryz.underlying0
  a0 := Tryz.isAgg0
  z0 := Tryz.sizeOf0
  v0 := Tryz.zeroValue0
  t3 := Tryz.underlying3
  a3 := Tryz.isAgg3
  z3 := Tryz.sizeOf3
  v3 := Tryz.zeroValue3
  t4 := Tryz.underlying4
  a4 := Tryz.isAgg4
  z4 := Tryz.sizeOf4
  v4 := Tryz.zeroValue4
  t5 := Tryz.underlying5
  a5 := Tryz.isAgg5
  z5 := Tryz.sizeOf5
  v5 := Tryz.zeroValue5
  t9 := Tryz.underlying9
  a9 := Tryz.isAgg9
  z9 := Tryz.sizeOf9
  v9 := Tryz.zeroValue9
  t22 := Tryz.underlying28
  a22 := Tryz.isAgg28
  z22 := Tryz.sizeOf28
  v22 := Tryz.zeroValue28
  t25 := Tryz.underlying56
  a25 := Tryz.isAgg56
  z25 := Tryz.sizeOf56
  v25 := Tryz.zeroValue56
  t39 := Tryz.underlying84
  a39 := Tryz.isAgg84
  z39 := Tryz.sizeOf84
  v39 := Tryz.zeroValue84
  t45 := Tryz.underlying122
  a45 := Tryz.isAgg122
  z45 := Tryz.sizeOf122
  v45 := Tryz.zeroValue122
  t46 := Tryz.underlying123
  a46 := Tryz.isAgg123
  z46 := Tryz.sizeOf123
  v46 := Tryz.zeroValue123
  t50 := Tryz.underlying80
  a50 := Tryz.isAgg80
  z50 := Tryz.sizeOf80
  v50 := Tryz.zeroValue80
  t53 := Tryz.underlying69
  a53 := Tryz.isAgg69
  z53 := Tryz.sizeOf69
  v53 := Tryz.zeroValue69
  t55 := Tryz.underlying130
  a55 := Tryz.isAgg130
  z55 := Tryz.sizeOf130
  v55 := Tryz.zeroValue130
  t66 := Tryz.underlying148
  a66 := Tryz.isAgg148
  z66 := Tryz.sizeOf148
  v66 := Tryz.zeroValue148
  t70 := Tryz.underlying152
  a70 := Tryz.isAgg152
  z70 := Tryz.sizeOf152
  v70 := Tryz.zeroValue152
  t76 := Tryz.underlying175
  a76 := Tryz.isAgg175
  z76 := Tryz.sizeOf175
  v76 := Tryz.zeroValue175
  t77 := Tryz.underlying176
  a77 := Tryz.isAgg176
  z77 := Tryz.sizeOf176
  v77 := Tryz.zeroValue176 }
end Go.Proofs

namespace Go.Proofs.YtbijadnekoeofaaGreatDoor
open Go.Shelf Go.RowKit Go.Lib Go.Sort

instance : Inhabited Po := ⟨⟨0, 0, ⟨#[]⟩, 0, ⟨#[]⟩, ⟨#[]⟩⟩⟩

/-- An entry's eight cells. -/
def encE (x : Po × Int × Int) : List Value := [.int .i64 x.1.W, .int .i64 x.1.H, .string x.1.C, .int .i64 x.1.T, .string x.1.A, .string x.1.B, .int .i64 x.2.1, .int .i64 x.2.2]

theorem cmpLaysE (blk off size : Nat) (w : World) : CmpLays Tryz.prog 16 #[] encE 8 (fun x y => cmpP x.1 y.1) blk off size w :=
  fun _ _ _ _ x y => (tcompare_any x.1 y.1 x.2.1 x.2.2 y.2.1 y.2.2 _).mono fun _ _ ⟨he, hg⟩ => ⟨he, hg.grow⟩

theorem swoE : SWO (ltOf fun x y : Po × Int × Int => cmpP x.1 y.1) := by
  have h := TO.swo cmpK_TO (fun x : Po × Int × Int => keyP x.1)
  have e : (fun x y : Po × Int × Int => cmpP x.1 y.1) = fun x y : Po × Int × Int => cmpK (keyP x.1) (keyP y.1) := by funext x y; exact cmpP_K _ _
  rw [e]
  exact h

theorem sortE (blk off cap : Nat) (d : Array (Po × Int × Int)) (w : World) (hH : HoldsK encE 8 w blk off d) (hblk : blk < w.heap.size) (hsz : d.size < 4611686018427387904) :
    Calls Tryz.prog 15 #[.slice (some ⟨blk, off, none⟩) d.size cap, .func (.func 16) #[] #[]] w fun e w' =>
      e = .returned (.tuple #[]) ∧ ∃ d' n os, PermIn 0 d.size d d' ∧ SortedIn (ltOf fun x y : Po × Int × Int => cmpP x.1 y.1) 0 d.size d' ∧ w' = sortWorldK encE 8 w blk off n d' os := by
  have eg : ∀ args w, (callFunc 16 args).run Tryz.prog w = .ok (.enter 16 args) w := enters_of Tryz.func16 (by kernel_rfl) rfl
  have hcon := AnyQ.slices_SortFunc Tryz.sortEn 8 Tryz.isAgg34 Tryz.sizeOf34 encE (fun _ => rfl) (fun x v hv => by simp only [encE, List.mem_cons, List.not_mem_nil, or_false] at hv; rcases hv with rfl | rfl | rfl | rfl | rfl | rfl | rfl | rfl <;> rfl) (fun x y => cmpP x.1 y.1) swoE 16 #[] blk off cap d w eg (cmpLaysE blk off d.size w) hH hblk hsz
  exact hcon
end Go.Proofs.YtbijadnekoeofaaGreatDoor
