/-
  gamelaw.sorted, walked: a text's bytes in order.
  (*strings.Builder).copyCheck, WriteByte, WriteString, walked at this program: what the builder holds grows by what is written; nothing below its block turns.
-/
import Derived.Test.YtbcedjjocpjkjaaJ25
import Derived.Test.YtbcedjjocpjkjaaJ0
import Derived.Shelf.Strings.Builder1
namespace Go.Proofs.Ytbcedjjocpjkjaa
open Go.RowKit
attribute [local go_sem ↓] Go.wp_at_zero Go.wp_at_succ

/-- An array of 256 counts. -/
def isArr (w : World) (g : Nat) (f : Nat → Nat) : Prop := w.heap[g]? = some (.cells (cvals f).toArray 65 (0, 0))
theorem isArr.cell {w : World} {g : Nat} {f : Nat → Nat} (h : isArr w g f) (c : Nat) (hc : c < 256) : w.cell? ⟨g, c, none⟩ = some (.int .i64 (f c : Int)) := by
  have := cvals_get f c hc
  simp [World.cell?, show w.heap[g]? = _ from h, this]
theorem isArr.frozen {w : World} {g : Nat} {f : Nat → Nat} (h : isArr w g f) (c : Nat) : w.frozen? ⟨g, c, none⟩ = false := frozen_of_row w g c _ _ h
theorem isArr.inc {w : World} {g : Nat} {f : Nat → Nat} (h : isArr w g f) (c : Nat) : isArr (w.setCell ⟨g, c, none⟩ (.int .i64 ((f c : Int) + 1))) g (incF f c) := by
  have h1 := heap_setCell_same w g c _ _ (.int .i64 ((f c : Int) + 1)) h
  unfold isArr
  rw [h1]
  have e : ((incF f c c : Nat) : Int) = (f c : Int) + 1 := by simp [incF]
  rw [← e, ← cvals_set f (incF f c) c (fun d hd => by simp [incF, hd])]
  simp
theorem isArr.below {w w1 : World} {g S : Nat} {f : Nat → Nat} (h : isArr w g f) (hb : Below S w w1) (hS : g < S) : isArr w1 g f := by
  unfold isArr; rw [hb.block g hS]; exact h
theorem isArr.lt {w : World} {g : Nat} {f : Nat → Nat} (h : isArr w g f) : g < w.heap.size := block_lt h
theorem zero_arr : Try.zeroCells65 = (cvals (cntF [])).toArray := by kernel_rfl

/-- The bytes in order. -/
def sortP (f : Nat → Nat) : Nat → List UInt8
  | 0 => []
  | c + 1 => sortP f c ++ List.replicate (f c) (UInt8.ofNat c)
theorem sortP_len (f : Nat → Nat) : ∀ c, (sortP f c).length = sumTo f c
  | 0 => rfl
  | c + 1 => by rw [sortP, List.length_append, sortP_len f c, List.length_replicate, sumTo]
theorem sort_more (l : List UInt8) (j : Nat) (c : UInt8) : (⟨(l ++ List.replicate j c).toArray⟩ : ByteArray) ++ (⟨#[c]⟩ : ByteArray) = ⟨(l ++ List.replicate (j + 1) c).toArray⟩ := by
  apply ByteArray.ext
  apply Array.toList_inj.1
  rw [ByteArray.data_append, Array.toList_append, List.replicate_succ', ← List.append_assoc]

set_option maxHeartbeats 1000000 in
set_option maxRecDepth 100000 in
theorem sorted_any (s : ByteArray) (w : World) (hs : s.size ≤ 64) :
    Calls Try.prog 13 #[.string s] w fun e w' => e = .returned (.string ⟨(sortP (cntF s.data.toList) 256).toArray⟩) ∧ Below w.heap.size w w' := by
  have ha : isArr (w.alloc (.cells Try.zeroCells65 65)) w.heap.size (cntF []) := by
    unfold isArr; rw [← zero_arr]; exact heap_alloc_new w _
  have hb : Below w.heap.size w (w.alloc (.cells Try.zeroCells65 65)) := (Below.refl _ _).alloc (Nat.le_refl _) _
  have HA := hide ha
  have HB := hide hb
  clear ha hb
  go_enter Try.func13, Try.ntmps13
  go_wp2_with fail
  go_loopw [9] (fun v wr => ∃ k : Nat, k ≤ s.size ∧ v = .int .i64 (k : Int) ∧ isArr wr w.heap.size (cntF (s.data.toList.take k)) ∧ Below w.heap.size w wr) (fun v _ => s.size - (intOf v).toNat)
  case atStart => exact ⟨0, Nat.zero_le _, rfl, unhide HA, unhide HB⟩
  case round =>
    obtain ⟨k, hk, rfl, har, hbr⟩ := hrel
    clear HA HB
    by_cases hlt : k < s.size
    · have hki : (k : Int) < (s.size : Int) := by omega
      have hk0 : (0 : Int) ≤ (k : Int) := by omega
      have h256 : s[k].toNat < 256 := s[k].toNat_lt
      have hkl : k < s.data.toList.length := by rw [len_data]; exact hlt
      have hsn : cntF (s.data.toList.take (k + 1)) = incF (cntF (s.data.toList.take k)) s[k].toNat := by
        rw [List.take_succ_eq_append_getElem hkl, cntF_snoc]; rfl
      have hcl := cntF_len (s.data.toList.take k) s[k].toNat
      rw [List.length_take] at hcl
      have hcc := har.cell s[k].toNat h256
      have hcz := har.frozen s[k].toNat
      have hin := har.inc s[k].toNat
      rw [← hsn] at hin
      have HIN := hide hin
      obtain ⟨z, hz⟩ : ∃ z, z = cntF (s.data.toList.take k) s[k].toNat := ⟨_, rfl⟩
      rw [← hz] at hcc hcl HIN
      have i0 : (0 : Int) ≤ (s[k].toNat : Int) := by omega
      have i1 : (s[k].toNat : Int) < 256 := by omega
      have hz64 : z ≤ 64 := by omega
      clear hin hsn hz hcl
      go_wp2
      go_roundw
      case rel => exact ⟨k + 1, by omega, by go_num, unhide HIN, hbr.setCell (p := ⟨w.heap.size, s[k].toNat, none⟩) (Nat.le_refl _) _⟩
      case measure => simp [intOf]; omega
    · obtain rfl : k = s.size := by omega
      have hki : ¬ (s.size : Int) < (s.size : Int) := by omega
      obtain ⟨f, hf⟩ : ∃ f, f = cntF s.data.toList := ⟨_, rfl⟩
      rw [List.take_of_length_le (by rw [len_data]; exact Nat.le_refl _), ← hf] at har
      have hsum : ∀ c, c ≤ 256 → sumTo f c ≤ 64 := fun c hc => by
        have h1 := sumTo_le f hc
        have h2 : sumTo f 256 = s.size := by rw [hf, ← len_data]; exact cntF_sum _
        omega
      have HSUM := hide hsum
      have HF := hide hf
      have hlt := har.lt
      clear hf hsum
      go_wp2
      go_loopw [5, 20] (fun sv iv wx => ∃ c : Nat, c ≤ 256 ∧ iv = .int .i64 (c : Int) ∧ sv = .string ⟨(sortP f c).toArray⟩ ∧ isArr wx w.heap.size f ∧ Below w.heap.size w wx) (fun _ iv _ => 256 - (intOf iv).toNat)
      case atStart => exact ⟨0, by omega, rfl, rfl, har, hbr⟩
      case round =>
        obtain ⟨c, hc, rfl, rfl, hax, hbx⟩ := hrel
        clear har hbr
        by_cases hcl : c < 256
        · have hci : (c : Int) < 256 := by omega
          have hc0 : (0 : Int) ≤ (c : Int) := by omega
          have hcm : (c : Int) % 256 = (c : Int) := by omega
          have hcc := hax.cell c hcl
          obtain ⟨z, hz⟩ : ∃ z, z = f c := ⟨_, rfl⟩
          rw [← hz] at hcc
          obtain ⟨b, hb⟩ : ∃ b, b = UInt8.ofNat c := ⟨_, rfl⟩
          have hbc : (c : Int) = (b.toNat : Int) := by rw [hb, UInt8.toNat_ofNat']; omega
          obtain ⟨P, hP⟩ : ∃ P, P = sortP f c := ⟨_, rfl⟩
          have hnext : sortP f (c + 1) = P ++ List.replicate z b := by rw [hP, hz, hb]; rfl
          have hPl : P.length + z ≤ 64 := by
            have := unhide HSUM (c + 1) (by omega)
            rw [sumTo, ← sortP_len, ← hP, ← hz] at this
            exact this
          rw [← hP]
          have HNEXT := hide hnext
          have HBC := hide hbc
          have HAX := hide hax
          have HBX := hide hbx
          clear hnext hz hb hP hax hbx hbc
          go_wp2
          go_loopw [5, 26] (fun sv iv wy => ∃ j : Nat, j ≤ z ∧ iv = .int .i64 (j : Int) ∧ sv = .string ⟨(P ++ List.replicate j b).toArray⟩ ∧ isArr wy w.heap.size f ∧ Below w.heap.size w wy) (fun _ iv _ => z - (intOf iv).toNat)
          case atStart => exact ⟨0, Nat.zero_le _, rfl, by simp, unhide HAX, unhide HBX⟩
          case round =>
            obtain ⟨j, hj, rfl, rfl, hay, hby⟩ := hrel
            clear HAX HBX
            by_cases hjl : j < z
            · have hji : (j : Int) < (z : Int) := by omega
              have hsm := sort_more P j b
              have hsz : (⟨(P ++ List.replicate j b).toArray⟩ : ByteArray).size ≤ 64 := by
                have : (⟨(P ++ List.replicate j b).toArray⟩ : ByteArray).size = P.length + j := by rw [← len_data]; simp
                omega
              obtain ⟨S, hS⟩ : ∃ S : ByteArray, S = ⟨(P ++ List.replicate j b).toArray⟩ := ⟨_, rfl⟩
              rw [← hS] at hsm hsz ⊢
              have hcv := conv1 wr (c : Int) b (unhide HBC)
              have HSM := hide hsm
              have hba := hby.alloc (Nat.le_of_lt hay.lt) (.cells #[.int .u8 (c : Int)] 5)
              have haa := hay.below ((Below.refl wr.heap.size wr).alloc (Nat.le_refl _) (.cells #[.int .u8 (c : Int)] 5)) hay.lt
              have HBA := hide hba
              have HAA := hide haa
              clear hsm hS hba haa
              go_wp2
              go_roundw
              case rel => exact ⟨j + 1, by omega, by go_num, by rw [unhide HSM], unhide HAA, unhide HBA⟩
              case measure => simp [intOf]; omega
            · obtain rfl : j = z := by omega
              have hji : ¬ (j : Int) < (j : Int) := by omega
              go_wp2
              go_roundw
              case rel => exact ⟨c + 1, by omega, by go_num, by rw [unhide HNEXT], hay, hby⟩
              case measure => simp [intOf]; omega
        · obtain rfl : c = 256 := by omega
          go_wp2
          go_ret
          exact ⟨by rw [← unhide HF]; rfl, hbx⟩
end Go.Proofs.Ytbcedjjocpjkjaa

namespace Go.Proofs.Ytbcedjjocpjkjaa
open Go.RowKit

theorem info_u8 : (Try.prog.info? 5).map (fun i => (i.zero, i.size, i.bytes)) = some (some (.int .u8 0), 1, 1) := by kernel_rfl
theorem size_bld : (Try.prog.info? 78).map (·.size) = some 2 := by kernel_rfl
theorem lies_bld : liesAt Try.prog Try.prog.depth 78 (2 / Try.prog.cellsOf 78) 0 78 1 = true := by kernel_rfl

/-- A builder in block b, all of its own from b on, that holds the bytes bs. -/
abbrev Bld (b : Nat) (l : List UInt8) (w : World) : Prop := Lib.IsBuilder 78 5 b b (Lib.byteCells l) w

set_option maxHeartbeats 1000000 in
set_option maxRecDepth 100000 in
theorem copyCheck_any (b : Nat) (l : List UInt8) (w : World) (h : Bld b l w) :
    Calls Try.prog 70 #[.pointer (some ⟨b, 0, none⟩)] w fun e w' => e = .returned (.tuple #[]) ∧ Lib.BuilderAt 78 5 b b (.pointer (some ⟨b, 0, none⟩)) (Lib.byteCells l) w' ∧ Below b w w' := by
  obtain ⟨j, hj, hjs⟩ := Option.map_eq_some_iff.1 size_bld
  rcases h with h | h
  · have h0 := h.cell0
    have hsh := h.shape
    have hfz := h.frozen0
    go_enter Try.func70, Try.ntmps70
    go_wp2
    rw [Lib.run_to_unsafe w ⟨b, 0, none⟩ Try.underlying76 Try.underlying120 hj (by rw [hjs]; decide) hsh (Nat.zero_lt_succ 1)]
    simp only [Result.andThen]
    rw [Oper.upon_value]
    go_wp2
    rw [run_callFunc_extern Try.func87 (by kernel_rfl) (by kernel_rfl) (by kernel_rfl) (e := Extern.AbiNoEscape.same) (by kernel_rfl)]
    rw [Lib.run_noEscape]
    simp only [Result.andThen]
    rw [Oper.upon_value]
    go_wp2
    rw [Lib.run_from_unsafe w ⟨b, 0, none⟩ Try.underlying120 Try.underlying76 hj hsh lies_bld]
    simp only [Result.andThen]
    rw [Oper.upon_value]
    go_wp2
    go_end0
    exact ⟨rfl, h.used _, (Below.refl b w).setCell (p := ⟨b, 0, none⟩) (Nat.le_refl _) _⟩
  · have h0 := h.cell0
    go_enter Try.func70, Try.ntmps70
    go_wp2
    rw [Lib.run_neq_ptr_same w _ Try.underlying76 hj]
    go_wp2
    go_end0
    exact ⟨rfl, h, Below.refl b _⟩

set_option maxHeartbeats 2000000 in
set_option maxRecDepth 100000 in
theorem WriteByte_any (b : Nat) (l : List UInt8) (c : UInt8) (w : World) (h : Bld b l w) (hlen : l.length < 1000000) :
    Calls Try.prog 45 #[.pointer (some ⟨b, 0, none⟩), .int .u8 (c.toNat : Int)] w fun e w' => e = .returned .nilIface ∧ Bld b (l ++ [c]) w' ∧ Below b w w' := by
  obtain ⟨i0, hi, hz0, hz1, hz2⟩ := info_parts info_u8
  have hbs : b < w.heap.size := by
    rcases h with h | h
    · exact h.lt
    · exact h.lt
  go_enter Try.func45, Try.ntmps45
  go_wp2_with (go_at_call 70; refine (copyCheck_any b l _ h).mono ?_)
  rintro e w1 ⟨rfl, h1, hb1⟩
  have hsz := hb1.size
  obtain ⟨hB, v, hbk, hown, hne⟩ := h1
  have c0 : w1.cell? ⟨b, 0, none⟩ = some (.pointer (some ⟨b, 0, none⟩)) := by rw [Lib.cell_of_heap hbk]; rfl
  have c1 : w1.cell? ⟨b, 1, none⟩ = some v := by rw [Lib.cell_of_heap hbk]; rfl
  have hll : (Lib.byteCells l).length = l.length := Lib.byteCells_length l
  go_wp2_with (at_builtin; refine wpList_append_own _ rfl _ _ 66 rfl b 5 i0 (.int .u8 0) 1 1 Try.underlying66 hi hz0 hz1 hz2 rfl (by decide) _ _ _ rfl (hown.alloc _) ⟨w1.heap.size, 0, none⟩ 1 1 [.int .u8 (c.toNat : Int)] rfl rfl ?c1 ?c2 ?c3 ?c4 ?c5 ?_)
  case c1 =>
    intro j u hj
    match j, hj with
    | 0, hj => simp at hj; subst hj; simp [Addr.add]
  case c2 => intro u hu; simp at hu; subst hu; rfl
  case c3 => unfold maxLen; omega
  case c4 => omega
  case c5 => simp; omega
  intro v' w2 hown' hgrow _
  have hlt : b < w1.heap.size := by omega
  have hb2 : w2.heap[b]? = some (.cells #[.pointer (some ⟨b, 0, none⟩), v] 78 (0, 0)) := by
    rw [hgrow.block b (by simp; omega) (fun e => hne e.symm), Lib.alloc_old w1 _ b hlt]
    exact hbk
  have d0 : w2.cell? ⟨b, 0, none⟩ = some (.pointer (some ⟨b, 0, none⟩)) := by rw [Lib.cell_of_heap hb2]; rfl
  have d1 : w2.cell? ⟨b, 1, none⟩ = some v := by rw [Lib.cell_of_heap hb2]; rfl
  have f1 : w2.frozen? ⟨b, 1, none⟩ = false := Lib.frozen_of_heap hb2 1
  obtain ⟨g, cap, rfl⟩ : ∃ g cap, v' = .slice (some ⟨g, 0, none⟩) (l.length + 1) cap := by
    rcases hown'.2 with ⟨_, h0⟩ | ⟨g, cap, cur, hv, _⟩
    · omega
    · exact ⟨g, cap, hv⟩
  go_wp2
  go_ret
  refine ⟨rfl, Or.inr ?_, ?_⟩
  · have hcs : Lib.byteCells (l ++ [c]) = Lib.byteCells l ++ [.int .u8 (c.toNat : Int)] := by simp [Lib.byteCells]
    rw [hcs]
    exact Lib.BuilderAt.put (T := 78) (e := 5) hB hb2 (bs' := Lib.byteCells l ++ [.int .u8 (c.toNat : Int)]) (by simpa [hll] using hown') (by decide)
  · exact ((hb1.alloc (by omega) _).grown hgrow (by simp; omega) (fun k hk => (hown.lt k hk).1)).setCell (p := ⟨b, 1, none⟩) hB _

set_option maxHeartbeats 2000000 in
set_option maxRecDepth 100000 in
theorem WriteString_any (b : Nat) (l : List UInt8) (s : ByteArray) (w : World) (h : Bld b l w) (hlen : l.length < 1000000) (hs : s.size < 1000000) :
    Calls Try.prog 44 #[.pointer (some ⟨b, 0, none⟩), .string s] w fun e w' => e = .returned (.tuple #[.int .i64 s.size, .nilIface]) ∧ Bld b (l ++ s.data.toList) w' ∧ Below b w w' := by
  obtain ⟨i0, hi, hz0, hz1, hz2⟩ := info_parts info_u8
  have hbs : b < w.heap.size := by
    rcases h with h | h
    · exact h.lt
    · exact h.lt
  go_enter Try.func44, Try.ntmps44
  go_wp2_with (go_at_call 70; refine (copyCheck_any b l _ h).mono ?_)
  rintro e w1 ⟨rfl, h1, hb1⟩
  have hsz := hb1.size
  obtain ⟨hB, v, hbk, hown, hne⟩ := h1
  have c0 : w1.cell? ⟨b, 0, none⟩ = some (.pointer (some ⟨b, 0, none⟩)) := by rw [Lib.cell_of_heap hbk]; rfl
  have c1 : w1.cell? ⟨b, 1, none⟩ = some v := by rw [Lib.cell_of_heap hbk]; rfl
  have hll : (Lib.byteCells l).length = l.length := Lib.byteCells_length l
  go_wp2_with (at_builtin; refine Lib.wpList_append_own_string _ rfl _ _ 66 9 rfl b 5 i0 Try.underlying66 Try.underlying9 hi hz0 hz1 hz2 _ _ _ rfl hown s rfl ?c3 ?c4 ?c5 ?_)
  case c3 => unfold maxLen; omega
  case c4 => omega
  case c5 => omega
  intro v' w2 hown' hgrow _
  have hlt : b < w1.heap.size := by omega
  have hb2 : w2.heap[b]? = some (.cells #[.pointer (some ⟨b, 0, none⟩), v] 78 (0, 0)) := by
    rw [hgrow.block b hlt (fun e => hne e.symm)]
    exact hbk
  have d0 : w2.cell? ⟨b, 0, none⟩ = some (.pointer (some ⟨b, 0, none⟩)) := by rw [Lib.cell_of_heap hb2]; rfl
  have d1 : w2.cell? ⟨b, 1, none⟩ = some v := by rw [Lib.cell_of_heap hb2]; rfl
  have f1 : w2.frozen? ⟨b, 1, none⟩ = false := Lib.frozen_of_heap hb2 1
  obtain ⟨ao, n', cap, rfl⟩ : ∃ ao n' cap, v' = .slice ao n' cap := by
    rcases hown'.2 with ⟨hv, _⟩ | ⟨g, cap, cur, hv, _⟩
    · exact ⟨_, _, _, hv⟩
    · exact ⟨_, _, _, hv⟩
  go_wp2
  go_ret2
  have hcs : Lib.byteCells (l ++ s.data.toList) = Lib.byteCells l ++ Lib.strCells s := by simp [Lib.byteCells, Lib.strCells]
  refine ⟨rfl, Or.inr ?_, ?_⟩
  · rw [hcs]
    exact Lib.BuilderAt.put (T := 78) (e := 5) hB hb2 (bs' := Lib.byteCells l ++ Lib.strCells s) (by simpa [Lib.strCells_length, hll] using hown') (by decide)
  · exact (hb1.grown hgrow (by omega) (fun k hk => (hown.lt k hk).1)).setCell (p := ⟨b, 1, none⟩) hB _

/-! ### (*strings.Builder).String: the library's contract, at this program's numbers -/
def str_ren : Go.Shelf.Ren := ⟨fun | 169 => 47 | n => n, fun | 0 => 0 | 3 => 3 | 5 => 5 | 9 => 9 | 37 => 66 | 70 => 76 | 72 => 78 | 127 => 110 | n => n, fun | n => n⟩
theorem str_lays : Go.Proofs.Lays.n169 Try.prog str_ren := {
  mixed := by kernel_rfl
  f169 := Try.func47.trans (congrArg some (by kernel_rfl))
  t0 := Try.underlying0
  a0 := Try.isAgg0
  z0 := Try.sizeOf0
  v0 := Try.zeroValue0
  t3 := Try.underlying3
  a3 := Try.isAgg3
  z3 := Try.sizeOf3
  v3 := Try.zeroValue3
  t9 := Try.underlying9
  a9 := Try.isAgg9
  z9 := Try.sizeOf9
  v9 := Try.zeroValue9
  t37 := Try.underlying66
  a37 := Try.isAgg66
  z37 := Try.sizeOf66
  v37 := Try.zeroValue66
  t70 := Try.underlying76
  a70 := Try.isAgg76
  z70 := Try.sizeOf76
  v70 := Try.zeroValue76
  t72 := Try.underlying78
  a72 := Try.isAgg78
  z72 := Try.sizeOf78
  v72 := Try.zeroValue78
  t127 := Try.underlying110
  a127 := Try.isAgg110
  z127 := Try.sizeOf110
  v127 := Try.zeroValue110 }
theorem str_extra : Builder.Extra Try.prog str_ren := {
  sizeBuilder := by kernel_rfl
  liesBuilder := by kernel_rfl
  t5 := Try.underlying5
  a5 := Try.isAgg5
  z5 := Try.sizeOf5
  v5 := Try.zeroValue5
  infoByte := by kernel_rfl
  cellsByte := by kernel_rfl
  sizeByte := by kernel_rfl
  neB5 := by decide }
theorem String_any (b : Nat) (l : List UInt8) (w : World) (h : Bld b l w) :
    Calls Try.prog 47 #[.pointer (some ⟨b, 0, none⟩)] w fun e w' => e = .returned (.string ⟨l.toArray⟩) ∧ Below b w w' :=
  Any.Builder_String_any str_lays str_extra b b l w h (by
    rcases h with h | h
    · exact Nat.le_of_lt h.lt
    · exact Nat.le_of_lt h.lt)
end Go.Proofs.Ytbcedjjocpjkjaa
