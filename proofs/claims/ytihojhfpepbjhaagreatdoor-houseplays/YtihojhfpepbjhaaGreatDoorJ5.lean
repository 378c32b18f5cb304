/-
  Contracts of the library, at this program: one application each.
  package moves, walked: hasPiece, hasReached, hasLine.
  package rules, walked: Check.
-/
import Derived.Shelf.Small.Strs
import Derived.Shelf.Strconv.Itoa3
import Derived.Shelf.Strings.Replace
import Derived.Shelf.Strings.Search3
import Derived.Test.YtihojhfpepbjhaaGreatDoorProg
import Derived.Test.YtihojhfpepbjhaaGreatDoorJ4
import Derived.Test.YtihojhfpepbjhaaGreatDoorJ2
namespace Go.Proofs
open Go.Shelf Go.RowKit Go.Sort Go.Lib
def Tryz.lays137_ren : Go.Shelf.Ren := ⟨fun | 137 => 43 | 217 => 81 | 266 => 114 | n => n, fun | 9 => 9 | 5 => 5 | 3 => 3 | n => n, fun | n => n⟩
theorem Tryz.lays137 : Go.Proofs.Lays.n137 Tryz.prog Tryz.lays137_ren := {
  mixed := by kernel_rfl
  f137 := Tryz.func43.trans (congrArg some (by kernel_rfl))
  f217 := Tryz.func81.trans (congrArg some (by kernel_rfl))
  f266 := Tryz.func114.trans (congrArg some (by kernel_rfl))
  t3 := Tryz.underlying3
  a3 := Tryz.isAgg3
  z3 := Tryz.sizeOf3
  v3 := Tryz.zeroValue3
  t5 := Tryz.underlying5
  a5 := Tryz.isAgg5
  z5 := Tryz.sizeOf5
  v5 := Tryz.zeroValue5
  t9 := Tryz.underlying9
  a9 := Tryz.isAgg9
  z9 := Tryz.sizeOf9
  v9 := Tryz.zeroValue9 }
theorem Tryz.strings_IndexByte (s : ByteArray) (c : Int) (w : World) :
    Calls Tryz.prog 43 #[.string s, .int .u8 c] w fun e w' => e = .returned (.int .i64 (Lib.indexByte s.data.toList c.toNat.toUInt8)) ∧ w' = w := Any.strings_IndexByte Tryz.lays137 s c w
def Tryz.laysM171_ren : Go.Shelf.Ren := ⟨fun | 171 => 75 | 243 => 109 | 246 => 149 | 283 => 179 | 284 => 180 | 285 => 181 | 286 => 182 | 129 => 195 | 317 => 194 | 318 => 196 | 319 => 197 | 320 => 198 | 337 => 202 | 338 => 203 | n => n, fun | 3 => 3 | 9 => 9 | 2 => 2 | 4 => 4 | 171 => 224 | 0 => 0 | 53 => 175 | 37 => 127 | 5 => 5 | 173 => 227 | 212 => 239 | 51 => 112 | 20 => 20 | 213 => 240 | 46 => 53 | 232 => 257 | 233 => 258 | n => n, fun | 17 => 3 | 18 => 6 | 19 => 7 | n => n⟩
theorem Tryz.laysM171 : Go.Proofs.LaysM.n171 Tryz.prog Tryz.laysM171_ren := {
  mixed := by kernel_rfl
  f129 := Tryz.func195.trans (congrArg some (by kernel_rfl))
  f171 := Tryz.func75.trans (congrArg some (by kernel_rfl))
  f243 := Tryz.func109.trans (congrArg some (by kernel_rfl))
  f246 := Tryz.func149.trans (congrArg some (by kernel_rfl))
  f283 := Tryz.func179.trans (congrArg some (by kernel_rfl))
  f284 := Tryz.func180.trans (congrArg some (by kernel_rfl))
  f285 := Tryz.func181.trans (congrArg some (by kernel_rfl))
  f286 := Tryz.func182.trans (congrArg some (by kernel_rfl))
  f317 := Tryz.func194.trans (congrArg some (by kernel_rfl))
  f318 := Tryz.func196.trans (congrArg some (by kernel_rfl))
  f319 := Tryz.func197.trans (congrArg some (by kernel_rfl))
  f320 := Tryz.func198.trans (congrArg some (by kernel_rfl))
  f337 := Tryz.func202.trans (congrArg some (by kernel_rfl))
  f338 := Tryz.func203.trans (congrArg some (by kernel_rfl))
  t0 := Tryz.underlying0
  a0 := Tryz.isAgg0
  z0 := Tryz.sizeOf0
  v0 := Tryz.zeroValue0
  t2 := Tryz.underlying2
  a2 := Tryz.isAgg2
  z2 := Tryz.sizeOf2
  v2 := Tryz.zeroValue2
  t3 := Tryz.underlying3
  a3 := Tryz.isAgg3
  z3 := Tryz.sizeOf3
  v3 := Tryz.zeroValue3
  t4 := Tryz.underlying4
  a4 := Tryz.isAgg4
  z4 := Tryz.sizeOf4
  v4 := Tryz.zeroValue4
  t5 := Tryz.underlying5
  a5 := Tryz.isAgg5
  z5 := Tryz.sizeOf5
  v5 := Tryz.zeroValue5
  t9 := Tryz.underlying9
  a9 := Tryz.isAgg9
  z9 := Tryz.sizeOf9
  v9 := Tryz.zeroValue9
  t20 := Tryz.underlying20
  a20 := Tryz.isAgg20
  z20 := Tryz.sizeOf20
  v20 := Tryz.zeroValue20
  t37 := Tryz.underlying127
  a37 := Tryz.isAgg127
  z37 := Tryz.sizeOf127
  v37 := Tryz.zeroValue127
  t46 := Tryz.underlying53
  a46 := Tryz.isAgg53
  z46 := Tryz.sizeOf53
  v46 := Tryz.zeroValue53
  t51 := Tryz.underlying112
  a51 := Tryz.isAgg112
  z51 := Tryz.sizeOf112
  v51 := Tryz.zeroValue112
  t53 := Tryz.underlying175
  a53 := Tryz.isAgg175
  z53 := Tryz.sizeOf175
  v53 := Tryz.zeroValue175
  t171 := Tryz.underlying224
  a171 := Tryz.isAgg224
  z171 := Tryz.sizeOf224
  v171 := Tryz.zeroValue224
  t173 := Tryz.underlying227
  a173 := Tryz.isAgg227
  z173 := Tryz.sizeOf227
  v173 := Tryz.zeroValue227
  t212 := Tryz.underlying239
  a212 := Tryz.isAgg239
  z212 := Tryz.sizeOf239
  v212 := Tryz.zeroValue239
  t213 := Tryz.underlying240
  a213 := Tryz.isAgg240
  z213 := Tryz.sizeOf240
  t232 := Tryz.underlying257
  a232 := Tryz.isAgg257
  z232 := Tryz.sizeOf257
  v232 := Tryz.zeroValue257
  t233 := Tryz.underlying258
  a233 := Tryz.isAgg258
  z233 := Tryz.sizeOf258
  v233 := Tryz.zeroValue258
  g17 := by kernel_rfl
  g18 := by kernel_rfl
  g19 := by kernel_rfl
  i0 := by kernel_rfl
  i2 := by kernel_rfl
  i3 := by kernel_rfl
  i4 := by kernel_rfl
  i5 := by kernel_rfl
  i9 := by kernel_rfl
  i20 := by kernel_rfl
  i37 := by kernel_rfl
  i46 := by kernel_rfl
  i51 := by kernel_rfl
  i53 := by kernel_rfl
  i171 := by kernel_rfl
  i173 := by kernel_rfl
  i212 := by kernel_rfl
  i232 := by kernel_rfl
  i233 := by kernel_rfl
  m17 := by kernel_rfl
  m18 := by kernel_rfl
  m19 := by kernel_rfl }
theorem Tryz.strconv_Itoa (n : Int) (h0 : -9223372036854775808 ≤ n) (h1 : n ≤ 9223372036854775807) (w : World) (htab : Lib.TabIs Tryz.prog w "internal/strconv.uint64pow10" .u64 Lib.pow10Tab) :
    Calls Tryz.prog 75 #[.int .i64 n] w fun e w' => e = .returned (.string ⟨(Lib.itoa n).toArray⟩) ∧ ∃ k os, w' = grow (w.drewN k) os := Any.strconv_Itoa Tryz.laysM171 n h0 h1 w htab
def Tryz.lays144_ren : Go.Shelf.Ren := ⟨fun | 144 => 111 | 143 => 117 | 219 => 113 | 217 => 81 | 225 => 150 | 224 => 151 | 267 => 152 | 266 => 114 | 314 => 183 | n => n, fun | 9 => 9 | 4 => 4 | 3 => 3 | 5 => 5 | 46 => 53 | 146 => 229 | 51 => 112 | n => n, fun | 1 => 0 | n => n⟩
theorem Tryz.lays144 : Go.Proofs.Lays.n144 Tryz.prog Tryz.lays144_ren := {
  mixed := by kernel_rfl
  f143 := Tryz.func117.trans (congrArg some (by kernel_rfl))
  f144 := Tryz.func111.trans (congrArg some (by kernel_rfl))
  f217 := Tryz.func81.trans (congrArg some (by kernel_rfl))
  f219 := Tryz.func113.trans (congrArg some (by kernel_rfl))
  f224 := Tryz.func151.trans (congrArg some (by kernel_rfl))
  f225 := Tryz.func150.trans (congrArg some (by kernel_rfl))
  f266 := Tryz.func114.trans (congrArg some (by kernel_rfl))
  f267 := Tryz.func152.trans (congrArg some (by kernel_rfl))
  f314 := Tryz.func183.trans (congrArg some (by kernel_rfl))
  t3 := Tryz.underlying3
  a3 := Tryz.isAgg3
  z3 := Tryz.sizeOf3
  v3 := Tryz.zeroValue3
  t4 := Tryz.underlying4
  a4 := Tryz.isAgg4
  z4 := Tryz.sizeOf4
  v4 := Tryz.zeroValue4
  t5 := Tryz.underlying5
  a5 := Tryz.isAgg5
  z5 := Tryz.sizeOf5
  v5 := Tryz.zeroValue5
  t9 := Tryz.underlying9
  a9 := Tryz.isAgg9
  z9 := Tryz.sizeOf9
  v9 := Tryz.zeroValue9
  t46 := Tryz.underlying53
  a46 := Tryz.isAgg53
  z46 := Tryz.sizeOf53
  v46 := Tryz.zeroValue53
  t51 := Tryz.underlying112
  a51 := Tryz.isAgg112
  z51 := Tryz.sizeOf112
  v51 := Tryz.zeroValue112
  t146 := Tryz.underlying229
  a146 := Tryz.isAgg229
  z146 := Tryz.sizeOf229
  v146 := Tryz.zeroValue229
  g1 := by kernel_rfl }
theorem Tryz.strings_Contains_one (s : ByteArray) (c : UInt8) (w : World) :
    Calls Tryz.prog 111 #[.string s, .string ⟨#[c]⟩] w fun e w' => e = .returned (.bool (decide (0 ≤ Lib.indexByte s.data.toList c))) ∧ w' = w := Any.strings_Contains_one Tryz.lays144 s c w
def Tryz.lays154_ren : Go.Shelf.Ren := ⟨fun | 154 => 192 | 138 => 116 | 165 => 199 | 143 => 117 | 166 => 69 | 197 => 154 | 169 => 72 | 195 => 153 | 218 => 155 | 240 => 106 | 241 => 204 | 219 => 113 | 260 => 184 | 276 => 146 | 277 => 215 | 217 => 81 | 225 => 150 | 224 => 151 | 267 => 152 | 266 => 114 | 314 => 183 | n => n, fun | 9 => 9 | 3 => 3 | 4 => 4 | 72 => 129 | 0 => 0 | 76 => 103 | 105 => 198 | 21 => 21 | 5 => 5 | 70 => 126 | 20 => 20 | 37 => 127 | 75 => 102 | 127 => 156 | 164 => 192 | 46 => 53 | 119 => 242 | 139 => 245 | 138 => 244 | 146 => 229 | 51 => 112 | 80 => 34 | n => n, fun | 1 => 0 | 3 => 4 | 4 => 5 | n => n⟩
theorem Tryz.lays154 : Go.Proofs.Lays.n154 Tryz.prog Tryz.lays154_ren := {
  mixed := by kernel_rfl
  f138 := Tryz.func116.trans (congrArg some (by kernel_rfl))
  f143 := Tryz.func117.trans (congrArg some (by kernel_rfl))
  f154 := Tryz.func192.trans (congrArg some (by kernel_rfl))
  f165 := Tryz.func199.trans (congrArg some (by kernel_rfl))
  f166 := Tryz.func69.trans (congrArg some (by kernel_rfl))
  f169 := Tryz.func72.trans (congrArg some (by kernel_rfl))
  f195 := Tryz.func153.trans (congrArg some (by kernel_rfl))
  f197 := Tryz.func154.trans (congrArg some (by kernel_rfl))
  f217 := Tryz.func81.trans (congrArg some (by kernel_rfl))
  f218 := Tryz.func155.trans (congrArg some (by kernel_rfl))
  f219 := Tryz.func113.trans (congrArg some (by kernel_rfl))
  f224 := Tryz.func151.trans (congrArg some (by kernel_rfl))
  f225 := Tryz.func150.trans (congrArg some (by kernel_rfl))
  f240 := Tryz.func106.trans (congrArg some (by kernel_rfl))
  f241 := Tryz.func204.trans (congrArg some (by kernel_rfl))
  f260 := Tryz.func184.trans (congrArg some (by kernel_rfl))
  f266 := Tryz.func114.trans (congrArg some (by kernel_rfl))
  f267 := Tryz.func152.trans (congrArg some (by kernel_rfl))
  f276 := Tryz.func146.trans (congrArg some (by kernel_rfl))
  f277 := Tryz.func215.trans (congrArg some (by kernel_rfl))
  f314 := Tryz.func183.trans (congrArg some (by kernel_rfl))
  t0 := Tryz.underlying0
  a0 := Tryz.isAgg0
  z0 := Tryz.sizeOf0
  v0 := Tryz.zeroValue0
  t3 := Tryz.underlying3
  a3 := Tryz.isAgg3
  z3 := Tryz.sizeOf3
  v3 := Tryz.zeroValue3
  t4 := Tryz.underlying4
  a4 := Tryz.isAgg4
  z4 := Tryz.sizeOf4
  v4 := Tryz.zeroValue4
  t5 := Tryz.underlying5
  a5 := Tryz.isAgg5
  z5 := Tryz.sizeOf5
  v5 := Tryz.zeroValue5
  t9 := Tryz.underlying9
  a9 := Tryz.isAgg9
  z9 := Tryz.sizeOf9
  v9 := Tryz.zeroValue9
  t20 := Tryz.underlying20
  a20 := Tryz.isAgg20
  z20 := Tryz.sizeOf20
  v20 := Tryz.zeroValue20
  t21 := Tryz.underlying21
  a21 := Tryz.isAgg21
  z21 := Tryz.sizeOf21
  v21 := Tryz.zeroValue21
  t37 := Tryz.underlying127
  a37 := Tryz.isAgg127
  z37 := Tryz.sizeOf127
  v37 := Tryz.zeroValue127
  t46 := Tryz.underlying53
  a46 := Tryz.isAgg53
  z46 := Tryz.sizeOf53
  v46 := Tryz.zeroValue53
  t51 := Tryz.underlying112
  a51 := Tryz.isAgg112
  z51 := Tryz.sizeOf112
  v51 := Tryz.zeroValue112
  t70 := Tryz.underlying126
  a70 := Tryz.isAgg126
  z70 := Tryz.sizeOf126
  v70 := Tryz.zeroValue126
  t72 := Tryz.underlying129
  a72 := Tryz.isAgg129
  z72 := Tryz.sizeOf129
  v72 := Tryz.zeroValue129
  t75 := Tryz.underlying102
  a75 := Tryz.isAgg102
  z75 := Tryz.sizeOf102
  v75 := Tryz.zeroValue102
  t76 := Tryz.underlying103
  a76 := Tryz.isAgg103
  z76 := Tryz.sizeOf103
  v76 := Tryz.zeroValue103
  t105 := Tryz.underlying198
  a105 := Tryz.isAgg198
  z105 := Tryz.sizeOf198
  v105 := Tryz.zeroValue198
  t119 := Tryz.underlying242
  a119 := Tryz.isAgg242
  z119 := Tryz.sizeOf242
  t127 := Tryz.underlying156
  a127 := Tryz.isAgg156
  z127 := Tryz.sizeOf156
  v127 := Tryz.zeroValue156
  t138 := Tryz.underlying244
  a138 := Tryz.isAgg244
  z138 := Tryz.sizeOf244
  v138 := Tryz.zeroValue244
  t139 := Tryz.underlying245
  a139 := Tryz.isAgg245
  z139 := Tryz.sizeOf245
  v139 := Tryz.zeroValue245
  t146 := Tryz.underlying229
  a146 := Tryz.isAgg229
  z146 := Tryz.sizeOf229
  v146 := Tryz.zeroValue229
  t164 := Tryz.underlying192
  a164 := Tryz.isAgg192
  z164 := Tryz.sizeOf192
  v164 := Tryz.zeroValue192
  g1 := by kernel_rfl
  g3 := by kernel_rfl
  g4 := by kernel_rfl }
theorem Tryz.Builder_Extra_154 : Builder.Extra Tryz.prog Tryz.lays154_ren := {
  sizeBuilder := by kernel_rfl
  liesBuilder := by kernel_rfl
  t5 := Tryz.underlying5
  a5 := Tryz.isAgg5
  z5 := Tryz.sizeOf5
  v5 := Tryz.zeroValue5
  infoByte := by kernel_rfl
  cellsByte := by kernel_rfl
  sizeByte := by kernel_rfl
  neB5 := by decide }
theorem Tryz.strings_Replace (s old new : ByteArray) (n : Int) (m : Int) (w : World) (hs : s.size < 4294967281) (hm : w.cell? ⟨0, 0, none⟩ = some (.int .i64 m)) (h1 : 1 ≤ old.size) (hlen : s.size + Lib.countB s old * new.size ≤ 140737488355328) :
    Calls Tryz.prog 192 #[.string s, .string old, .string new, .int .i64 n] w fun e w' =>
      e = .returned (.string ⟨(Lib.replace s.data.toList old.data.toList new.data.toList n).toArray⟩) ∧ Below w.heap.size w w' := Any.strings_Replace Tryz.lays154 Tryz.Builder_Extra_154 s old new n m w hs hm h1 hlen
end Go.Proofs

namespace Go.Proofs.YtihojhfpepbjhaaGreatDoor
open Go.RowKit
attribute [local go_sem ↓] Go.wp_at_zero Go.wp_at_succ

/-- Does a byte stand in a text? -/
def hasN (l : List UInt8) (n : Nat) : Bool := decide (0 ≤ Lib.indexByte l n.toUInt8)
theorem toB (n : Nat) : ((n : Int)).toNat.toUInt8 = n.toUInt8 := rfl

set_option maxHeartbeats 1000000 in
theorem hasPiece_any (W H T : Int) (P c : Nat) (C A B : ByteArray) (w : World) (hP : P ≤ 1) (hc : c < 256) :
    Calls Tryz.prog 123 #[.agg #[.int .i64 W, .int .i64 H, .string C, .int .i64 T, .string A, .string B], .int .i64 (P : Int), .int .u8 (c : Int)] w fun e w' => e = .returned (.bool (hasN C.data.toList (letN P c))) ∧ Below w.heap.size w w' := by
  have HL := hide (fun u => LetterOf_any P c u hP hc)
  have HI := hide (fun u => Tryz.strings_IndexByte C (letN P c : Nat) u)
  obtain ⟨R, hR⟩ : ∃ R, R = hasN C.data.toList (letN P c) := ⟨_, rfl⟩
  rw [← hR]
  unfold hasN at hR
  obtain ⟨I, hI⟩ : ∃ I, I = Lib.indexByte C.data.toList (letN P c).toUInt8 := ⟨_, rfl⟩
  simp only [toB, ← hI] at HI
  rw [← hI] at hR
  have HR := hide hR
  clear hR hI
  obtain ⟨L, hL⟩ : ∃ L, L = letN P c := ⟨_, rfl⟩
  rw [← hL] at HL HI
  clear hL
  obtain ⟨wa, hwa⟩ : ∃ wa, wa = w.alloc (.cells #[.int .i64 W, .int .i64 H, .string C, .int .i64 T, .string A, .string B] 24 (0, 0)) := ⟨_, rfl⟩
  have hba : Below w.heap.size w wa := by rw [hwa]; exact (Below.refl _ _).alloc (Nat.le_refl _) _
  have hpb : isPb wa w.heap.size W H T C A B := by rw [hwa]; exact heap_alloc_new w _
  obtain ⟨-, -, p2, -⟩ := hpb.all
  have HBA := hide hba
  clear hba hpb
  go_enter Tryz.func123, Tryz.ntmps123
  go_wp2_with fail
  rw [← hwa]
  clear hwa
  go_quiet (first
    | (go_at_call 158; exact Calls.quiet_of_same (unhide HL _))
    | (go_at_call 43; exact Calls.quiet_of_same (unhide HI _)))
  go_wp2
  go_ret
  exact ⟨ret_bool (unhide HR).symm, ⟨(unhide HBA).os, (unhide HBA).tape, (unhide HBA).output, (unhide HBA).size, (unhide HBA).block⟩⟩

set_option maxHeartbeats 2000000 in
set_option maxRecDepth 100000 in
theorem hasReached_any (W H : Nat) (T : Int) (P c : Nat) (C A B : ByteArray) (w : World) (hP : P ≤ 1) (hc : c < 256) (hW : 1 ≤ W ∧ W ≤ 8) (hH : 1 ≤ H ∧ H ≤ 8) (hC : C.size = W * H) :
    Calls Tryz.prog 126 #[.agg #[.int .i64 (W : Int), .int .i64 (H : Int), .string C, .int .i64 T, .string A, .string B], .int .i64 (P : Int), .int .u8 (c : Int)] w fun e w' => e = .returned (.bool (hasN (if P = 1 then C.data.toList.take W else C.data.toList.drop (C.size - W)) (letN P c))) ∧ Below w.heap.size w w' := by
  have HL := hide (fun u => LetterOf_any P c u hP hc)
  have h64 : W * H ≤ 64 := Nat.mul_le_mul hW.2 hH.2
  have hWC : W ≤ C.size := by rw [hC]; exact Nat.le_mul_of_pos_right _ (by omega)
  have hsz : C.size ≤ 64 := by omega
  obtain ⟨L, hL⟩ : ∃ L, L = letN P c := ⟨_, rfl⟩
  rw [← hL] at HL ⊢
  obtain ⟨S, hS⟩ : ∃ S : ByteArray, S = if P = 1 then C.extract 0 W else C.extract (C.size - W) C.size := ⟨_, rfl⟩
  have hSd : S.data.toList = if P = 1 then C.data.toList.take W else C.data.toList.drop (C.size - W) := by
    rw [hS]
    split
    · rw [Lib.extract_data]; simp
    · rw [Lib.extract_data, List.take_of_length_le (by rw [List.length_drop, len_data]; omega)]
  rw [← hSd]
  have HI := hide (fun u => Tryz.strings_IndexByte S (L : Nat) u)
  obtain ⟨R, hR⟩ : ∃ R, R = hasN S.data.toList L := ⟨_, rfl⟩
  rw [← hR]
  unfold hasN at hR
  obtain ⟨I, hI⟩ : ∃ I, I = Lib.indexByte S.data.toList L.toUInt8 := ⟨_, rfl⟩
  simp only [toB, ← hI] at HI
  rw [← hI] at hR
  have HR := hide hR
  obtain ⟨wa, hwa⟩ : ∃ wa, wa = w.alloc (.cells #[.int .i64 (W : Int), .int .i64 (H : Int), .string C, .int .i64 T, .string A, .string B] 24 (0, 0)) := ⟨_, rfl⟩
  have hba : Below w.heap.size w wa := by rw [hwa]; exact (Below.refl _ _).alloc (Nat.le_refl _) _
  have hpb : isPb wa w.heap.size W H T C A B := by rw [hwa]; exact heap_alloc_new w _
  obtain ⟨p0, -, p2, -⟩ := hpb.all
  have HBA := hide hba
  obtain ⟨D, hD⟩ : ∃ D, D = C.size - W := ⟨_, rfl⟩
  have hDi : (C.size : Int) - (W : Int) = (D : Int) := by omega
  have hDl : D ≤ C.size := by omega
  have hDi2 : (D : Int) ≤ (C.size : Int) := by omega
  have hWi : (W : Int) ≤ (C.size : Int) := by omega
  rw [← hD] at hS
  clear hR hI hL hSd hba hpb hC hD
  rcases (by omega : P = 0 ∨ P = 1) with rfl | rfl
  · rw [if_neg (by omega)] at hS
    go_enter Tryz.func126, Tryz.ntmps126
    subst hS
    go_wp2_with fail
    refine (unhide HL _).mono ?_
    rintro e w2 ⟨rfl, rfl⟩
    rw [← hwa]
    clear hwa
    go_wp2_with fail
    refine (unhide HI _).mono ?_
    rintro e w3 ⟨rfl, rfl⟩
    go_wp2
    go_ret
    exact ⟨ret_bool (unhide HR).symm, unhide HBA⟩
  · rw [if_pos rfl] at hS
    go_enter Tryz.func126, Tryz.ntmps126
    subst hS
    go_wp2_with fail
    refine (unhide HL _).mono ?_
    rintro e w2 ⟨rfl, rfl⟩
    rw [← hwa]
    clear hwa
    go_wp2_with fail
    refine (unhide HI _).mono ?_
    rintro e w3 ⟨rfl, rfl⟩
    go_wp2
    go_ret
    exact ⟨ret_bool (unhide HR).symm, unhide HBA⟩
/-- Four directions. -/
def dirs4 : List (Int × Int) := [(1, 0), (0, 1), (1, 1), (-1, 1)]
/-- So many of a player's pieces side by side. -/
def lineFromB (W H P : Nat) (C : ByteArray) (n : Int) (from_ : Nat) : Bool := ownB P (cellN C from_) && dirs4.any fun d => decide (n ≤ (lineN W H P C from_ d.1 d.2 : Nat))
def hasLineB (W H P : Nat) (C : ByteArray) (n : Int) : Bool := (List.range (W * H)).any (lineFromB W H P C n)

set_option maxHeartbeats 2000000 in
set_option maxRecDepth 100000 in
theorem hasLine_any (W H P : Nat) (T n : Int) (C A B : ByteArray) (w : World) (hP : P ≤ 1) (hW : 1 ≤ W ∧ W ≤ 8) (hH : 1 ≤ H ∧ H ≤ 8) (hC : C.size = W * H) :
    Calls Tryz.prog 125 #[.agg #[.int .i64 (W : Int), .int .i64 (H : Int), .string C, .int .i64 T, .string A, .string B], .int .i64 (P : Int), .int .i64 n] w fun e w' => e = .returned (.bool (hasLineB W H P C n)) ∧ Below w.heap.size w w' := by
  have h64 : W * H ≤ 64 := Nat.mul_le_mul hW.2 hH.2
  obtain ⟨M, hM⟩ : ∃ M, M = C.size := ⟨_, rfl⟩
  have hM64 : M ≤ 64 := by omega
  have HMW : Hid (M = W * H) := hide (hM.trans hC)
  have HC := hide hC
  have hMC : C.size = M := hM.symm
  clear hM hC
  obtain ⟨R, hR⟩ : ∃ R, R = hasLineB W H P C n := ⟨_, rfl⟩
  rw [← hR]
  have HR := hide hR
  obtain ⟨wa, hwa⟩ : ∃ wa, wa = w.alloc (.cells #[.int .i64 (W : Int), .int .i64 (H : Int), .string C, .int .i64 T, .string A, .string B] 24 (0, 0)) := ⟨_, rfl⟩
  have hba : Below w.heap.size w wa := by rw [hwa]; exact (Below.refl _ _).alloc (Nat.le_refl _) _
  have hpb : isPb wa w.heap.size W H T C A B := by rw [hwa]; exact heap_alloc_new w _
  have HBA := hide hba
  have HPB := hide hpb
  clear hR hba hpb
  go_enter Tryz.func125, Tryz.ntmps125
  go_wp2
  rw [← hwa]
  clear hwa
  go_loopw [13] (fun iv wr => ∃ i : Nat, iv = .int .i64 (i : Int) ∧ i ≤ M ∧ Hid ((List.range i).any (lineFromB W H P C n) = false) ∧ isPb wr w.heap.size W H T C A B ∧ Below w.heap.size w wr) (fun iv _ => M - (intOf iv).toNat)
  case atStart => exact ⟨0, rfl, Nat.zero_le _, hide rfl, unhide HPB, unhide HBA⟩
  case round =>
    obtain ⟨i, rfl, him, HNO, hpb, hb⟩ := hrel
    clear HPB HBA
    by_cases hlt : i < M
    · have hlti : (i : Int) < (M : Int) := by omega
      have hic : i < C.size := by omega
      obtain ⟨hcn, h256⟩ := cellN_at C i hic
      obtain ⟨N, hN⟩ : ∃ N, N = cellN C i := ⟨_, rfl⟩
      rw [← hN] at hcn h256
      have HO := hide (fun u => IsOf_any P N u hP h256)
      obtain ⟨b, hbb⟩ : ∃ b, ownB P N = b := ⟨_, rfl⟩
      rw [hbb] at HO
      obtain ⟨-, -, p2, -⟩ := hpb.all
      have HPB := hide hpb
      have HBW := hide hb
      have hsr := hb.size
      have hlf : lineFromB W H P C n i = (b && dirs4.any fun d => decide (n ≤ (lineN W H P C i d.1 d.2 : Nat))) := by unfold lineFromB; rw [← hN, hbb]
      have HLF := hide hlf
      clear hpb hb hbb hN hlf
      cases b with
      | false =>
        have HNO2 : Hid ((List.range (i + 1)).any (lineFromB W H P C n) = false) := hide (by rw [List.range_succ, List.any_append, unhide HNO]; simp [unhide HLF])
        go_wp2_with fail
        refine (unhide HO _).mono ?_
        rintro e w2 ⟨rfl, rfl⟩
        go_wp2
        go_roundw
        case rel => exact ⟨i + 1, by go_num, by omega, HNO2, unhide HPB, unhide HBW⟩
        case measure => simp only [intOf]; omega
      | true =>
        go_wp2_with fail
        refine (unhide HO _).mono ?_
        rintro e w2 ⟨rfl, rfl⟩
        go_wp2
        go_loopw [28] (fun jv wr => ∃ j : Nat, jv = .int .i64 (j : Int) ∧ j ≤ 4 ∧ Hid (((dirs4.take j).any fun d => decide (n ≤ (lineN W H P C i d.1 d.2 : Nat))) = false) ∧ isPb wr w.heap.size W H T C A B ∧ Below w.heap.size w wr) (fun jv _ => 4 - (intOf jv).toNat)
        case atStart => exact ⟨0, rfl, by omega, hide rfl, unhide HPB, unhide HBW⟩
        case round =>
          obtain ⟨j, rfl, hj4, HNJ, hpb, hb⟩ := hrel
          clear HPB HBW p2
          by_cases hjlt : j < 4
          · have hji : (j : Int) < 4 := by omega
            obtain ⟨dx, dy, hdj⟩ : ∃ dx dy, dirs4[j]? = some (dx, dy) := by
              rcases (by omega : j = 0 ∨ j = 1 ∨ j = 2 ∨ j = 3) with rfl | rfl | rfl | rfl <;> exact ⟨_, _, rfl⟩
            have hix : ∀ u, (Instr.index 207 (.agg #[.int .i64 1, .int .i64 0, .int .i64 0, .int .i64 1, .int .i64 1, .int .i64 1, .int .i64 (-1), .int .i64 1]) (.int .i64 (j : Int))).run Tryz.prog u = .ok (.agg #[.int .i64 dx, .int .i64 dy]) u := by
              intro u
              rcases (by omega : j = 0 ∨ j = 1 ∨ j = 2 ∨ j = 3) with rfl | rfl | rfl | rfl <;> (simp [dirs4] at hdj; obtain ⟨rfl, rfl⟩ := hdj; kernel_rfl)
            have hdb : -8 ≤ dx ∧ dx ≤ 8 ∧ -8 ≤ dy ∧ dy ≤ 8 ∧ ¬ (dx = 0 ∧ dy = 0) := by
              rcases (by omega : j = 0 ∨ j = 1 ∨ j = 2 ∨ j = 3) with rfl | rfl | rfl | rfl <;> (simp [dirs4] at hdj; obtain ⟨rfl, rfl⟩ := hdj; decide)
            have htk : (dirs4.take (j + 1)) = dirs4.take j ++ [(dx, dy)] := by rw [List.take_add_one, hdj]; rfl
            obtain ⟨X, hX⟩ : ∃ X, X = lineN W H P C i dx dy := ⟨_, rfl⟩
            have HLN := hide (fun u => lineFrom_any W H i P T C A B dx dy u hP hW hH (unhide HC) (by rw [← unhide HMW]; exact hlt) hdb)
            rw [← hX] at HLN
            obtain ⟨q0, q1, q2, q3, q4, q5⟩ := hpb.all
            have r0 : ∀ o, (wr.alloc o).cell? ⟨w.heap.size, 0, none⟩ = some (.int .i64 (W : Int)) := fun o => (((Below.refl wr.heap.size wr).alloc (Nat.le_refl _) o).cell (p := ⟨w.heap.size, 0, none⟩) hpb.lt).trans q0
            have r1 : ∀ o, (wr.alloc o).cell? ⟨w.heap.size, 1, none⟩ = some (.int .i64 (H : Int)) := fun o => (((Below.refl wr.heap.size wr).alloc (Nat.le_refl _) o).cell (p := ⟨w.heap.size, 1, none⟩) hpb.lt).trans q1
            have r2 : ∀ o, (wr.alloc o).cell? ⟨w.heap.size, 2, none⟩ = some (.string C) := fun o => (((Below.refl wr.heap.size wr).alloc (Nat.le_refl _) o).cell (p := ⟨w.heap.size, 2, none⟩) hpb.lt).trans q2
            have r3 : ∀ o, (wr.alloc o).cell? ⟨w.heap.size, 3, none⟩ = some (.int .i64 T) := fun o => (((Below.refl wr.heap.size wr).alloc (Nat.le_refl _) o).cell (p := ⟨w.heap.size, 3, none⟩) hpb.lt).trans q3
            have r4 : ∀ o, (wr.alloc o).cell? ⟨w.heap.size, 4, none⟩ = some (.string A) := fun o => (((Below.refl wr.heap.size wr).alloc (Nat.le_refl _) o).cell (p := ⟨w.heap.size, 4, none⟩) hpb.lt).trans q4
            have r5 : ∀ o, (wr.alloc o).cell? ⟨w.heap.size, 5, none⟩ = some (.string B) := fun o => (((Below.refl wr.heap.size wr).alloc (Nat.le_refl _) o).cell (p := ⟨w.heap.size, 5, none⟩) hpb.lt).trans q5
            have hal : ∀ o, Below wr.heap.size wr (wr.alloc o) := fun o => (Below.refl _ _).alloc (Nat.le_refl _) _
            have HAL := hide hal
            have HPB := hide hpb
            have HBW := hide hb
            have hlt2 := hpb.lt
            have HX := hide hX
            have HTK := hide htk
            clear hdj hdb htk hX hpb hb hal q0 q1 q2 q3 q4 q5
            go_wp2_with fail
            refine (unhide HLN _).mono ?_
            rintro e w4 ⟨rfl, hb4⟩
            have hpb4 : isPb w4 w.heap.size W H T C A B := ((unhide HPB).below (unhide HAL _) hlt2).below hb4 (by simp; omega)
            have hb4w : Below w.heap.size w w4 := ((unhide HBW).trans ((unhide HAL _).mono (unhide HBW).size)).trans (hb4.mono (by have := (unhide HBW).size; simp; omega))
            have HB4 := hide hb4w
            have HPB4 := hide hpb4
            clear hb4 hpb4 hb4w r0 r1 r2 r3 r4 r5
            by_cases hge : n ≤ (X : Int)
            · have hRt : R = true := by
                rw [unhide HR]
                unfold hasLineB
                rw [List.any_eq_true]
                refine ⟨i, by rw [List.mem_range, ← unhide HMW]; exact hlt, ?_⟩
                rw [unhide HLF, Bool.true_and, List.any_eq_true]
                refine ⟨(dx, dy), ?_, ?_⟩
                · have : (dx, dy) ∈ dirs4.take (j + 1) := by rw [unhide HTK]; simp
                  exact List.mem_of_mem_take this
                · simp only [← unhide HX]; exact decide_eq_true hge
              have HRT := hide hRt
              clear hRt
              go_wp2
              go_ret
              exact ⟨by rw [unhide HRT]; rfl, unhide HB4⟩
            · have HNJ2 : Hid (((dirs4.take (j + 1)).any fun d => decide (n ≤ (lineN W H P C i d.1 d.2 : Nat))) = false) := by
                refine hide ?_
                rw [unhide HTK, List.any_append, unhide HNJ]
                simp only [List.any_cons, List.any_nil, Bool.or_false, Bool.false_or, ← unhide HX]
                exact decide_eq_false hge
              go_wp2
              go_roundw
              case rel => exact ⟨j + 1, by go_num, by omega, HNJ2, unhide HPB4, unhide HB4⟩
              case measure => simp only [intOf]; omega
          · have hji : ¬ (j : Int) < 4 := by omega
            have HNO2 : Hid ((List.range (i + 1)).any (lineFromB W H P C n) = false) := by
              refine hide ?_
              have h4 := unhide HNJ
              rw [show j = 4 by omega] at h4
              rw [List.range_succ, List.any_append, unhide HNO]
              simp only [List.any_cons, List.any_nil, Bool.or_false, Bool.false_or]
              rw [unhide HLF, Bool.true_and]
              exact h4
            have HPB := hide hpb
            have HBW := hide hb
            clear hpb hb
            go_wp2
            go_roundw
            case rel => exact ⟨i + 1, by go_num, by omega, HNO2, unhide HPB, unhide HBW⟩
            case measure => simp only [intOf]; omega
    · have hlti : ¬ (i : Int) < (M : Int) := by omega
      have hRf : R = false := by rw [unhide HR]; unfold hasLineB; rw [← unhide HMW, show M = i by omega]; exact unhide HNO
      have HRF := hide hRf
      have HBW := hide hb
      clear hRf hpb hb
      go_wp2
      go_ret
      exact ⟨by rw [unhide HRF]; rfl, unhide HBW⟩
end Go.Proofs.YtihojhfpepbjhaaGreatDoor

namespace Go.Proofs.YtihojhfpepbjhaaGreatDoor
open Go.RowKit
attribute [local go_sem ↓] Go.wp_at_zero Go.wp_at_succ

/-- In block g lie rules. -/
def isRu (w : World) (g : Nat) (v0 v1 v2 v3 v4 v5 v6 v7 v8 v9 v10 v11 v12 : Value) : Prop := w.heap[g]? = some (.cells #[v0, v1, v2, v3, v4, v5, v6, v7, v8, v9, v10, v11, v12] 27 (0, 0))
theorem isRu.cells {w : World} {g : Nat} {v0 v1 v2 v3 v4 v5 v6 v7 v8 v9 v10 v11 v12 : Value} (h : isRu w g v0 v1 v2 v3 v4 v5 v6 v7 v8 v9 v10 v11 v12) :
    w.cell? ⟨g, 0, none⟩ = some v0 ∧ w.cell? ⟨g, 1, none⟩ = some v1 ∧ w.cell? ⟨g, 2, none⟩ = some v2 ∧ w.cell? ⟨g, 3, none⟩ = some v3 ∧ w.cell? ⟨g, 4, none⟩ = some v4 ∧ w.cell? ⟨g, 5, none⟩ = some v5 ∧ w.cell? ⟨g, 6, none⟩ = some v6 ∧ w.cell? ⟨g, 7, none⟩ = some v7 ∧ w.cell? ⟨g, 8, none⟩ = some v8 ∧ w.cell? ⟨g, 9, none⟩ = some v9 ∧ w.cell? ⟨g, 10, none⟩ = some v10 ∧ w.cell? ⟨g, 11, none⟩ = some v11 ∧ w.cell? ⟨g, 12, none⟩ = some v12 := by
  refine ⟨?_, ?_, ?_, ?_, ?_, ?_, ?_, ?_, ?_, ?_, ?_, ?_, ?_⟩ <;> exact cell_of_row _ _ _ _ _ _ h
theorem isRu.lt {w : World} {g : Nat} {v0 v1 v2 v3 v4 v5 v6 v7 v8 v9 v10 v11 v12 : Value} (h : isRu w g v0 v1 v2 v3 v4 v5 v6 v7 v8 v9 v10 v11 v12) : g < w.heap.size := by
  rcases Nat.lt_or_ge g w.heap.size with hlt | hge
  · exact hlt
  · unfold isRu at h; rw [Array.getElem?_eq_none hge] at h; cases h
theorem isRu.below {w w1 : World} {g : Nat} {v0 v1 v2 v3 v4 v5 v6 v7 v8 v9 v10 v11 v12 : Value} (h : isRu w g v0 v1 v2 v3 v4 v5 v6 v7 v8 v9 v10 v11 v12) {B : Nat} (hb : Below B w w1) (hB : g < B) : isRu w1 g v0 v1 v2 v3 v4 v5 v6 v7 v8 v9 v10 v11 v12 := by
  unfold isRu; rw [hb.block g hB]; exact h
theorem isRu.fresh {w w1 : World} {v0 v1 v2 v3 v4 v5 v6 v7 v8 v9 v10 v11 v12 : Value} (hb : Below (w.alloc (.cells #[v0, v1, v2, v3, v4, v5, v6, v7, v8, v9, v10, v11, v12] 27)).heap.size (w.alloc (.cells #[v0, v1, v2, v3, v4, v5, v6, v7, v8, v9, v10, v11, v12] 27)) w1) : isRu w1 w.heap.size v0 v1 v2 v3 v4 v5 v6 v7 v8 v9 v10 v11 v12 :=
  isRu.below (show isRu (w.alloc (.cells #[v0, v1, v2, v3, v4, v5, v6, v7, v8, v9, v10, v11, v12] 27)) w.heap.size v0 v1 v2 v3 v4 v5 v6 v7 v8 v9 v10 v11 v12 from heap_alloc_new w _) hb (by simp)
theorem bel_on {B : Nat} {w0 w w1 : World} {o : Obj} (h : Below B w0 w) (hB : B ≤ w.heap.size) (hb : Below (w.alloc o).heap.size (w.alloc o) w1) : Below B w0 w1 :=
  (h.alloc hB o).trans (hb.mono (by simp; omega))

/-- P6: are they rules? -/
def rulesB (W H : Int) (C : List UInt8) (T : Int) (A B : List UInt8) (ps : List Pc) (lo : Nat) (li : Int) (re : Nat) (pl : Int) : Bool :=
  psB ps && posB W H C T A B && allL (lettersS ps) C A B && hasZ (lettersS ps) lo && hasZ (lettersS ps) re && (decide (li = 0) || inB li 2 8) && inB pl 1 1000

theorem bitsP26 : ∀ (ps : List Pc) (S : Nat), S < 67108864 → okP S ps = true → bitsP S ps < 67108864
  | [], S, h, _ => h
  | p :: t, S, h, ho => by
    rw [okP, Bool.and_eq_true, Bool.and_eq_true] at ho
    have hc : capB (p.l : Int) = true := by
      have := ho.1.1
      simp only [pcB, Bool.and_eq_true] at this
      exact this.1.1.1
    simp only [capB, Bool.and_eq_true, decide_eq_true_eq] at hc
    exact bitsP26 t _ (or26 S (p.l - 65) h (by omega)) ho.2
theorem lettersS26 (ps : List Pc) : lettersS ps < 67108864 := by
  unfold lettersS
  split
  · rename_i h
    exact bitsP26 ps 0 (by omega) (by simp only [psB, Bool.and_eq_true] at h; exact h.2)
  · omega

set_option maxHeartbeats 2000000 in
set_option maxRecDepth 100000 in
theorem rCheck_any (W H T : Int) (C A B : ByteArray) (ao : Option Addr) (cap : Nat) (ps : List Pc) (dr st : Bool) (lo re : Nat) (li pl : Int) (w : World) (hC : C.size ≤ maxLen) (hA : A.size ≤ maxLen) (hB : B.size ≤ maxLen) (hlo : lo < 256) (hre : re < 256) (h : isPcs w ao cap ps) :
    Calls Tryz.prog 25 #[.agg #[.int .i64 W, .int .i64 H, .string C, .int .i64 T, .string A, .string B, .slice ao ps.length cap, .bool dr, .int .u8 (lo : Int), .int .i64 li, .int .u8 (re : Int), .bool st, .int .i64 pl]] w fun e w' => e = .returned (.int .i64 (errI (rulesB W H C.data.toList T A.data.toList B.data.toList ps lo li re pl))) ∧ Below w.heap.size w w' := by
  obtain ⟨r, hr⟩ : ∃ r, r = rulesB W H C.data.toList T A.data.toList B.data.toList ps lo li re pl := ⟨_, rfl⟩
  rw [← hr]
  have hba : Below w.heap.size w (w.alloc (.cells #[.int .i64 W, .int .i64 H, .string C, .int .i64 T, .string A, .string B, .slice ao ps.length cap, .bool dr, .int .u8 (lo : Int), .int .i64 li, .int .u8 (re : Int), .bool st, .int .i64 pl] 27 (0, 0))) := (Below.refl _ w).alloc (Nat.le_refl _) _
  have HLET := hide (lettersOf_any ao cap ps _ (h.below hba (Nat.le_refl _)))
  have hS26 := lettersS26 ps
  obtain ⟨S, hS⟩ : ∃ S, S = lettersS ps := ⟨_, rfl⟩
  rw [← hS] at HLET hS26
  unfold rulesB at hr
  rw [← hS] at hr
  have HR := hide hr
  clear hr hS h hba
  go_enter Tryz.func25, Tryz.ntmps25
  go_wp2_with fail
  refine (unhide HLET).mono ?_
  rintro e w1 ⟨rfl, hb1⟩
  have bp1 := isRu.fresh hb1
  have hw1 : Below w.heap.size w w1 := bel_on (Below.refl _ _) (Nat.le_refl _) hb1
  clear hb1 HLET
  obtain ⟨d0, d1, d2, d3, d4, d5, d6, d7, d8, d9, d10, d11, d12⟩ := bp1.cells
  cases hps : psB ps with
  | false =>
    have hf : r = false := by rw [unhide HR, hps]; rfl
    subst hf
    go_wp2
    go_ret
    exact ⟨rfl, hw1⟩
  | true =>
  have hR1 := unhide HR
  rw [hps, Bool.true_and] at hR1
  have HR1 := hide hR1
  clear hR1 HR
  go_wp2_with fail
  refine (Check_any _ _ _ _ _ _ _ hC hA hB).mono ?_
  rintro e w2 ⟨rfl, hb2⟩
  have bp2 := bp1.below hb2 bp1.lt
  have hw2 := hw1.trans (hb2.mono hw1.size)
  clear hb2 bp1 hw1 d0 d1 d2 d3 d4 d5 d6 d7 d8 d9 d10 d11 d12
  obtain ⟨d0, d1, d2, d3, d4, d5, d6, d7, d8, d9, d10, d11, d12⟩ := bp2.cells
  cases hpos : posB W H C.data.toList T A.data.toList B.data.toList with
  | false =>
    have hf : r = false := by rw [unhide HR1, hpos]; rfl
    subst hf
    rw [show errI false = 1 from rfl]
    go_wp2
    go_ret
    exact ⟨rfl, hw2⟩
  | true =>
  have hR2 := unhide HR1
  rw [hpos, Bool.true_and] at hR2
  have HR2 := hide hR2
  rw [show errI true = 0 from rfl]
  clear hR2 HR1 hpos
  go_wp2_with fail
  refine (haveAllOf_any S _ _ _ _ _ _ _ hS26 hC hA hB).mono ?_
  rintro e w3 ⟨rfl, hb3⟩
  have bp3 := bp2.below hb3 bp2.lt
  have hw3 := hw2.trans (hb3.mono hw2.size)
  clear hb3 bp2 hw2 d0 d1 d2 d3 d4 d5 d6 d7 d8 d9 d10 d11 d12
  obtain ⟨d0, d1, d2, d3, d4, d5, d6, d7, d8, d9, d10, d11, d12⟩ := bp3.cells
  cases hal : allL S C.data.toList A.data.toList B.data.toList with
  | false =>
    have hf : r = false := by rw [unhide HR2, hal]; rfl
    subst hf
    go_wp2
    go_ret
    exact ⟨rfl, hw3⟩
  | true =>
  have hR3 := unhide HR2
  rw [hal, Bool.true_and] at hR3
  have HR3 := hide hR3
  clear hR3 HR2 hal
  go_wp2_with fail
  refine (haveIfAny_any S lo _ (by omega) hlo).mono ?_
  rintro e w4 ⟨rfl, rfl⟩
  cases hzl : hasZ S (lo : Int) with
  | false =>
    have hf : r = false := by rw [unhide HR3, hzl]; rfl
    subst hf
    go_wp2
    go_ret
    exact ⟨rfl, hw3⟩
  | true =>
  have hR4 := unhide HR3
  rw [hzl, Bool.true_and] at hR4
  have HR4 := hide hR4
  clear hR4 HR3 hzl
  go_wp2_with fail
  refine (haveIfAny_any S re _ (by omega) hre).mono ?_
  rintro e w5 ⟨rfl, rfl⟩
  cases hzr : hasZ S (re : Int) with
  | false =>
    have hf : r = false := by rw [unhide HR4, hzr]; rfl
    subst hf
    go_wp2
    go_ret
    exact ⟨rfl, hw3⟩
  | true =>
  have hR5 := unhide HR4
  rw [hzr, Bool.true_and] at hR5
  have HR5 := hide hR5
  clear hR5 HR4 hzr
  by_cases hl0 : li = 0
  · subst hl0
    have hR6 : r = inB pl 1 1000 := by rw [unhide HR5]; simp
    have HR6 := hide hR6
    clear hR6 HR5
    go_wp2_with fail
    refine (isWithin_any _ _ _ _).mono ?_
    rintro e w6 ⟨rfl, rfl⟩
    rw [← unhide HR6]
    cases r with
    | false =>
      go_wp2
      go_ret
      exact ⟨rfl, hw3⟩
    | true =>
      go_wp2
      go_ret
      exact ⟨rfl, hw3⟩
  · have hlb : (li != 0) = true := by simp [hl0]
    cases hil : inB li 2 8 with
    | false =>
      have hf : r = false := by rw [unhide HR5, hil]; simp [hl0]
      subst hf
      have HIL := hide hil
      clear hil
      go_wp2_with fail
      refine (isWithin_any _ _ _ _).mono ?_
      rintro e w6 ⟨rfl, rfl⟩
      rw [unhide HIL]
      go_wp2
      go_ret
      exact ⟨rfl, hw3⟩
    | true =>
      have hR6 : r = inB pl 1 1000 := by rw [unhide HR5, hil]; simp
      have HR6 := hide hR6
      have HIL := hide hil
      clear hR6 HR5 hil
      go_wp2_with fail
      refine (isWithin_any _ _ _ _).mono ?_
      rintro e w6 ⟨rfl, rfl⟩
      rw [unhide HIL]
      go_wp2_with fail
      refine (isWithin_any _ _ _ _).mono ?_
      rintro e w7 ⟨rfl, rfl⟩
      rw [← unhide HR6]
      cases r with
      | false =>
        go_wp2
        go_ret
        exact ⟨rfl, hw3⟩
      | true =>
        go_wp2
        go_ret
        exact ⟨rfl, hw3⟩
end Go.Proofs.YtihojhfpepbjhaaGreatDoor
