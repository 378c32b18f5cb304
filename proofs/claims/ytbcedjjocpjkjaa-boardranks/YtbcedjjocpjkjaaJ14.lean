/-
  Contracts of the library, at this program: one application each.
  gameref.orders, walked: how many orders some bytes have.
  board.otherCase, walked: each letter's other case, for every text of at most 64 bytes; of what was there nothing has turned.
-/
import Derived.Shelf.Small.Strs
import Derived.Shelf.Strings.Count
import Derived.Test.YtbcedjjocpjkjaaProg
import Derived.Test.YtbcedjjocpjkjaaJ13
import Derived.Lib.Bytealg
import Derived.Test.YtbcedjjocpjkjaaW5
namespace Go.Proofs
open Go.Shelf Go.RowKit Go.Lib
def Try.lays137_ren : Go.Shelf.Ren := ⟨fun | 137 => 31 | 217 => 57 | 266 => 79 | n => n, fun | 9 => 9 | 5 => 5 | 3 => 3 | n => n, fun | n => n⟩
theorem Try.lays137 : Go.Proofs.Lays.n137 Try.prog Try.lays137_ren := {
  mixed := by kernel_rfl
  f137 := Try.func31.trans (congrArg some (by kernel_rfl))
  f217 := Try.func57.trans (congrArg some (by kernel_rfl))
  f266 := Try.func79.trans (congrArg some (by kernel_rfl))
  t3 := Try.underlying3
  a3 := Try.isAgg3
  z3 := Try.sizeOf3
  v3 := Try.zeroValue3
  t5 := Try.underlying5
  a5 := Try.isAgg5
  z5 := Try.sizeOf5
  v5 := Try.zeroValue5
  t9 := Try.underlying9
  a9 := Try.isAgg9
  z9 := Try.sizeOf9
  v9 := Try.zeroValue9 }
theorem Try.strings_IndexByte (s : ByteArray) (c : Int) (w : World) :
    Calls Try.prog 31 #[.string s, .int .u8 c] w fun e w' => e = .returned (.int .i64 (Lib.indexByte s.data.toList c.toNat.toUInt8)) ∧ w' = w := Any.strings_IndexByte Try.lays137 s c w
def Try.lays138_ren : Go.Shelf.Ren := ⟨fun | 138 => 53 | 195 => 75 | 218 => 76 | 143 => 77 | 219 => 93 | 217 => 57 | 225 => 98 | 224 => 99 | 267 => 100 | 266 => 79 | 314 => 106 | n => n, fun | 9 => 9 | 3 => 3 | 4 => 4 | 5 => 5 | 0 => 0 | 46 => 116 | 146 => 133 | 51 => 114 | n => n, fun | 1 => 0 | n => n⟩
theorem Try.lays138 : Go.Proofs.Lays.n138 Try.prog Try.lays138_ren := {
  mixed := by kernel_rfl
  f138 := Try.func53.trans (congrArg some (by kernel_rfl))
  f143 := Try.func77.trans (congrArg some (by kernel_rfl))
  f195 := Try.func75.trans (congrArg some (by kernel_rfl))
  f217 := Try.func57.trans (congrArg some (by kernel_rfl))
  f218 := Try.func76.trans (congrArg some (by kernel_rfl))
  f219 := Try.func93.trans (congrArg some (by kernel_rfl))
  f224 := Try.func99.trans (congrArg some (by kernel_rfl))
  f225 := Try.func98.trans (congrArg some (by kernel_rfl))
  f266 := Try.func79.trans (congrArg some (by kernel_rfl))
  f267 := Try.func100.trans (congrArg some (by kernel_rfl))
  f314 := Try.func106.trans (congrArg some (by kernel_rfl))
  t0 := Try.underlying0
  a0 := Try.isAgg0
  z0 := Try.sizeOf0
  v0 := Try.zeroValue0
  t3 := Try.underlying3
  a3 := Try.isAgg3
  z3 := Try.sizeOf3
  v3 := Try.zeroValue3
  t4 := Try.underlying4
  a4 := Try.isAgg4
  z4 := Try.sizeOf4
  v4 := Try.zeroValue4
  t5 := Try.underlying5
  a5 := Try.isAgg5
  z5 := Try.sizeOf5
  v5 := Try.zeroValue5
  t9 := Try.underlying9
  a9 := Try.isAgg9
  z9 := Try.sizeOf9
  v9 := Try.zeroValue9
  t46 := Try.underlying116
  a46 := Try.isAgg116
  z46 := Try.sizeOf116
  v46 := Try.zeroValue116
  t51 := Try.underlying114
  a51 := Try.isAgg114
  z51 := Try.sizeOf114
  v51 := Try.zeroValue114
  t146 := Try.underlying133
  a146 := Try.isAgg133
  z146 := Try.sizeOf133
  v146 := Try.zeroValue133
  g1 := by kernel_rfl }
theorem Try.strings_Count_one (s : ByteArray) (c : UInt8) (w : World) :
    Calls Try.prog 53 #[.string s, .string ⟨#[c]⟩] w fun e w' => e = .returned (.int .i64 (Lib.countByte s.data.toList c)) ∧ w' = w := Any.strings_Count_one Try.lays138 s c w
end Go.Proofs

namespace Go.Proofs.Ytbcedjjocpjkjaa
open Go.RowKit
attribute [local go_sem ↓] Go.wp_at_zero Go.wp_at_succ

theorem cntF_count : ∀ (l : List UInt8) (c : Nat), c < 256 → cntF l c = l.count (UInt8.ofNat c)
  | [], _, _ => rfl
  | x :: l, c, h => by
    rw [cntF, List.count_cons]
    simp only [incF]
    rw [cntF_count l c h]
    by_cases hx : c = x.toNat
    · subst hx
      simp
    · have : ¬ x = UInt8.ofNat c := by
        rintro rfl
        apply hx
        rw [UInt8.toNat_ofNat']
        omega
      simp [hx, this]
theorem orders_end (l : List UInt8) : factN l.length / pfact (cntF l) 256 = arrL l := by
  have h := arrF_fact l.length (cntF l) (cntF_sum l)
  have e : K256 = 256 := rfl
  rw [e] at h
  rw [← h, Nat.mul_div_cancel _ (pfact_pos _ _)]
  rfl
theorem cntF_len (l : List UInt8) (c : Nat) : cntF l c ≤ l.length := by
  by_cases hc : c < K256
  · rw [← cntF_sum l]; exact sumTo_ge (cntF l) hc
  · rw [cntF_high l c (by omega)]; omega

theorem conv1 (w : World) (v : Int) (c : UInt8) (h : v = (c.toNat : Int)) :
    (convert 66 9 (.slice (some ⟨w.heap.size, 0, none⟩) 1 1)).run Try.prog (w.alloc (.cells #[.int .u8 v] 5)) = .ok (.string ⟨#[c]⟩) (w.alloc (.cells #[.int .u8 v] 5)) := by
  subst h
  refine run_convert_bytes_back (w.alloc (.cells #[.int .u8 (c.toNat : Int)] 5)) 66 9 5 ⟨w.heap.size, 0, none⟩ 1 [c] Try.underlying66 Try.underlying5 Try.underlying9 fun j hj => ?_
  have e : (⟨w.heap.size, 0, none⟩ : Addr).add j = ⟨w.heap.size, 0 + j, none⟩ := by unfold Addr.add; split <;> simp_all
  rw [e, cell_of_row _ _ _ _ _ _ (heap_alloc_new w _)]
  have hj0 : j = 0 := by simpa using hj
  subst hj0
  rfl

set_option maxHeartbeats 1000000 in
set_option maxRecDepth 100000 in
theorem orders_any (s : ByteArray) (w : World) (hs : s.size ≤ 64) :
    Calls Try.prog 25 #[.string s] w fun e w' => e = .returned (.pointer (some ⟨w.heap.size, 0, none⟩)) ∧ isBig w' w.heap.size (arrL s.data.toList) ∧ Below w.heap.size w w' := by
  obtain ⟨f, hf⟩ : ∃ f, f = cntF s.data.toList := ⟨_, rfl⟩
  have hls : s.data.toList.length = s.size := len_data s
  have hfl : ∀ c, f c ≤ 64 := fun c => by rw [hf]; have := cntF_len s.data.toList c; omega
  have hend : factN s.size / pfact f 256 = arrL s.data.toList := by rw [hf, ← hls]; exact orders_end _
  have hstep : ∀ k, factN s.size / pfact f k / factN (f k) = factN s.size / pfact f (k + 1) := fun k => by rw [Nat.div_div_eq_div_mul]; rfl
  have hsm : ∀ k, factN s.size / pfact f k < 4294967296 ^ 200 := fun k => Nat.lt_of_le_of_lt (Nat.div_le_self _ _) (factN_small _ (by omega))
  have hcnt : ∀ k, k < 256 → Lib.countByte s.data.toList (UInt8.ofNat k) = f k := fun k hk => by rw [hf, cntF_count _ _ hk]; rfl
  have HEND := hide hend
  have HSTEP := hide hstep
  have HSM := hide hsm
  have HCNT := hide hcnt
  have HFL := hide hfl
  clear hend hstep hsm hcnt hls hf hfl
  go_enter Try.func25, Try.ntmps25
  go_wp2_with fail
  refine (factorial_any s.size w (by omega)).mono ?_
  rintro e w1 ⟨rfl, hg1, hb1⟩
  go_wp2_with fail
  go_loopw [4] (fun v wr => ∃ k : Nat, k ≤ 256 ∧ v = .int .i64 (k : Int) ∧ isBig wr w.heap.size (factN s.size / pfact f k) ∧ Below w.heap.size w wr) (fun v _ => 256 - (intOf v).toNat)
  case atStart => exact ⟨0, by omega, rfl, by simpa [pfact, prodTo] using hg1, hb1⟩
  case round =>
    obtain ⟨k, hk, rfl, hg, hb⟩ := hrel
    clear hg1 hb1
    by_cases hkl : k < 256
    · have hki : (k : Int) < 256 := by omega
      have hkm : (k : Int) % 256 = (k : Int) := by omega
      obtain ⟨c, hc⟩ : ∃ c, c = UInt8.ofNat k := ⟨_, rfl⟩
      have hck : (k : Int) = (c.toNat : Int) := by rw [hc, UInt8.toNat_ofNat']; omega
      have hcv := conv1 wr (k : Int) c hck
      have hcn := unhide HCNT k hkl
      rw [← hc] at hcn
      have hfk := unhide HFL k
      have HCN := hide hcn
      clear hc hck hcn
      go_wp2_with fail
      refine (Try.strings_Count_one s c _).mono ?_
      rintro e w2 ⟨rfl, rfl⟩
      rw [unhide HCN]
      have hba : Below wr.heap.size wr (wr.alloc (.cells #[.int .u8 (k : Int)] 5)) := (Below.refl _ _).alloc (Nat.le_refl _) _
      have hga := hg.below hba (Nat.le_refl _)
      have hbw := hb.trans (hba.mono hb.size)
      have HGA := hide hga
      have HBW := hide hbw
      clear hga hbw hba hb
      go_wp2_with fail
      refine (factorial_any (f k) _ (by omega)).mono ?_
      rintro e w3 ⟨rfl, hg3, hb3⟩
      have hsz : (wr.alloc (.cells #[.int .u8 (k : Int)] 5)).heap.size = wr.heap.size + 1 := by simp
      rw [hsz] at hg3
      clear hsz
      have hg' := (unhide HGA).below hb3 (Nat.le_refl _)
      obtain ⟨v, hv⟩ := hg'.num
      have hbw3 := (unhide HBW).trans (hb3.mono (unhide HBW).size)
      have hd := Div_any w.heap.size w.heap.size _ _ _ v w3 hv hg' hg3 (unhide HSM k) (factN_pos _)
      rw [unhide HSTEP k] at hd
      have HD := hide hd
      have HB3 := hide hbw3
      clear hd hbw3 hg' hv hg3 hb3 hg
      go_wp2_with fail
      (with_reducible refine (unhide HD).mono ?_)
      rintro e w4 ⟨rfl, hg4, hb4⟩
      have hb5 : Below w.heap.size w w4 := (unhide HB3).trans (hb4.fresh (Nat.le_refl _) (unhide HB3).size)
      have HG4 := hide hg4
      have HB5 := hide hb5
      clear hg4 hb4 hb5
      go_wp2
      go_roundw
      case rel => exact ⟨k + 1, by omega, by go_num, unhide HG4, unhide HB5⟩
      case measure => simp [intOf]; omega
    · have hki : ¬ (k : Int) < 256 := by omega
      obtain rfl : k = 256 := by omega
      rw [unhide HEND] at hg
      go_wp2
      go_ret
      exact ⟨rfl, hg, hb⟩
end Go.Proofs.Ytbcedjjocpjkjaa

namespace Go.Proofs.Ytbcedjjocpjkjaa
open Go.RowKit

/-- A row of bytes as '[]byte(s)' lays it: one place behind it bears a mark. -/
def RowM (w : World) (g : Nat) (l : List UInt8) : Prop := ∃ (cur : Array Value) (m : Nat), w.heap[g]? = some (.cells cur 5 (m, m + 1)) ∧ cur.size = m ∧ cur.toList.take l.length = bvals l
theorem RowM.le {l : List UInt8} {cur : Array Value} (h : cur.toList.take l.length = bvals l) : l.length ≤ cur.size := by
  have := congrArg List.length h
  simp [bvals] at this
  omega
theorem RowM.cell {w : World} {g : Nat} {l : List UInt8} (h : RowM w g l) (j : Nat) (hj : j < l.length) : w.cell? ⟨g, j, none⟩ = some (.int .u8 (l[j].toNat : Int)) := by
  obtain ⟨cur, m, h1, h2, h3⟩ := h
  rw [cell_of_row w g j cur _ _ h1]
  have : (cur.toList.take l.length)[j]? = (bvals l)[j]? := by rw [h3]
  rw [List.getElem?_take, if_pos hj] at this
  simpa [bvals, hj] using this
theorem RowM.frozen {w : World} {g : Nat} {l : List UInt8} (h : RowM w g l) (j : Nat) (hj : j < l.length) : w.frozen? ⟨g, j, none⟩ = false := by
  obtain ⟨cur, m, h1, h2, h3⟩ := h
  have := RowM.le h3
  simp [World.frozen?, h1]
  omega
theorem RowM.set {w : World} {g : Nat} {l : List UInt8} (h : RowM w g l) (j : Nat) (c : UInt8) : RowM (w.setCell ⟨g, j, none⟩ (.int .u8 (c.toNat : Int))) g (l.set j c) := by
  obtain ⟨cur, m, h1, h2, h3⟩ := h
  refine ⟨cur.setIfInBounds j (.int .u8 (c.toNat : Int)), m, ?_, by simpa using h2, ?_⟩
  · rw [setCell_eq_setRow w g j cur _ _ _ h1]
    exact setRow_heap w g cur _ _ _ h1
  · rw [Array.toList_setIfInBounds, List.length_set, List.take_set, h3]
    simp [bvals, List.map_set]
theorem RowM.conv {w : World} {g cap n : Nat} {l : List UInt8} (h : RowM w g l) (hn : Hid (l.length = n)) :
    (convert 66 9 (.slice (some ⟨g, 0, none⟩) n cap)).run Try.prog w = .ok (.string ⟨l.toArray⟩) w := by
  have hn' := unhide hn
  subst hn'
  refine run_convert_bytes_back w 66 9 5 ⟨g, 0, none⟩ cap l Try.underlying66 Try.underlying5 Try.underlying9 fun j hj => ?_
  have e : (⟨g, 0, none⟩ : Addr).add j = ⟨g, 0 + j, none⟩ := by unfold Addr.add; split <;> simp_all
  rw [Nat.zero_add] at e
  rw [e, h.cell j hj]

/-- The other case; '.' stays. -/
def flipB (c : UInt8) : UInt8 := if c = 46 then 46 else c ^^^ 32
theorem xor32_nat : ∀ n : Nat, n < 256 → bits .xor .u8 (n : Int) 32 = (((UInt8.ofNat n) ^^^ 32).toNat : Int) := by decide +kernel
theorem xor32 (c : UInt8) : bits .xor .u8 (c.toNat : Int) 32 = ((c ^^^ 32).toNat : Int) := by
  have := xor32_nat c.toNat c.toNat_lt
  rwa [UInt8.ofNat_toNat] at this
/-- The text when k of its bytes have been changed. -/
def flipTo (l : List UInt8) (k : Nat) : List UInt8 := (l.take k).map flipB ++ l.drop k
theorem flipTo_length (l : List UInt8) (k : Nat) : (flipTo l k).length = l.length := by simp [flipTo]; omega
theorem flipTo_get (l : List UInt8) (k : Nat) (hk : k < l.length) : (flipTo l k)[k]'(by rw [flipTo_length]; exact hk) = l[k] := by
  unfold flipTo
  rw [List.getElem_append_right (by simp; omega)]
  simp [Nat.min_eq_left (Nat.le_of_lt hk)]
theorem flipTo_succ (l : List UInt8) (k : Nat) (hk : k < l.length) : (flipTo l k).set k (flipB l[k]) = flipTo l (k + 1) := by
  unfold flipTo
  have hl : (List.map flipB (List.take k l)).length = k := by simp; omega
  rw [List.set_append_right _ _ (by omega), hl, Nat.sub_self, List.drop_eq_getElem_cons hk, List.set_cons_zero, List.take_succ_eq_append_getElem hk, List.map_append, List.append_assoc]
  rfl
theorem flipTo_all (l : List UInt8) (k : Nat) (hk : l.length ≤ k) : flipTo l k = l.map flipB := by
  unfold flipTo
  rw [List.take_of_length_le hk, List.drop_of_length_le hk, List.append_nil]

theorem rowM_new (w : World) (s : ByteArray) (cap : Nat) : RowM (w.alloc (.cells (bytesRow s cap) 5 ((bytesRow s cap).size, (bytesRow s cap).size + 1))) w.heap.size (flipTo s.data.toList 0) := by
  refine ⟨_, _, heap_alloc_new w _, rfl, ?_⟩
  have : flipTo s.data.toList 0 = s.data.toList := by simp [flipTo]
  rw [this]
  unfold bytesRow bvals
  rw [Array.toList_append, List.take_append_of_le_length (by simp), List.take_of_length_le (by simp)]
  simp

theorem flip_step (s : ByteArray) (wr : World) (g k : Nat) (h : RowM wr g (flipTo s.data.toList k)) (hk : k < s.size) :
    wr.cell? ⟨g, k, none⟩ = some (.int .u8 (s[k].toNat : Int)) ∧ wr.frozen? ⟨g, k, none⟩ = false ∧
    (¬ (s[k].toNat : Int) = 46 → RowM (wr.setCell ⟨g, k, none⟩ (.int .u8 (bits .xor .u8 (s[k].toNat : Int) 32))) g (flipTo s.data.toList (k + 1))) ∧
    ((s[k].toNat : Int) = 46 → RowM wr g (flipTo s.data.toList (k + 1))) := by
  have hl : k < s.data.toList.length := by rw [len_data]; exact hk
  have hl' : k < (flipTo s.data.toList k).length := by rw [flipTo_length]; exact hl
  have hss : s.data.toList[k] = s[k] := rfl
  have hc := h.cell k hl'
  rw [flipTo_get _ _ hl, hss] at hc
  refine ⟨hc, h.frozen k hl', fun hn => ?_, fun he => ?_⟩
  · have R := h.set k (flipB s.data.toList[k])
    rw [flipTo_succ _ _ hl] at R
    have hx : flipB s.data.toList[k] = s[k] ^^^ 32 := by
      rw [hss]; unfold flipB; rw [if_neg]; intro e; apply hn; rw [e]; rfl
    rw [hx, ← xor32] at R
    exact R
  · rw [← flipTo_succ _ _ hl]
    have h46 : s[k] = 46 := UInt8.toNat_inj.1 (by simpa using (by omega : s[k].toNat = 46))
    have : flipB s.data.toList[k] = (flipTo s.data.toList k)[k] := by
      rw [flipTo_get _ _ hl, hss, h46]; rfl
    rw [this, List.set_getElem_self]
    exact h

set_option maxHeartbeats 1000000 in
set_option maxRecDepth 100000 in
theorem otherCase_any (s : ByteArray) (w : World) (hs : s.size ≤ 64) :
    Calls Try.prog 37 #[.string s] w fun e w' => e = .returned (.string ⟨(s.data.toList.map flipB).toArray⟩) ∧ Below w.heap.size w w' := by
  have hcv := run_bytes_of_string (P := Try.prog) w 9 66 5 s Try.underlying9 Try.underlying66 Try.underlying5
  obtain ⟨cap, hcap⟩ : ∃ cap, cap = grownCap w s.size 0 5 := ⟨_, rfl⟩
  rw [← hcap] at hcv
  clear hcap
  obtain ⟨W1, hW1⟩ : ∃ W1, W1 = w.drew.alloc (.cells (bytesRow s cap) 5 ((bytesRow s cap).size, (bytesRow s cap).size + 1)) := ⟨_, rfl⟩
  rw [← hW1] at hcv
  have hrow : RowM W1 w.heap.size (flipTo s.data.toList 0) := by rw [hW1]; exact rowM_new w.drew s cap
  have hb0 : Below w.heap.size w W1 := by rw [hW1]; exact (Below.refl _ _).drew.alloc (Nat.le_refl _) _
  clear hW1
  go_enter Try.func37, Try.ntmps37
  go_wp2
  go_loopw [10] (fun i wr => ∃ k : Nat, k ≤ s.size ∧ i = .int .i64 k ∧ RowM wr w.heap.size (flipTo s.data.toList k) ∧ Below w.heap.size w wr) (fun i _ => s.size - (intOf i).toNat)
  case atStart => exact ⟨0, Nat.zero_le _, rfl, hrow, hb0⟩
  case round =>
    obtain ⟨k, hk, rfl, hrowr, hbr⟩ := hrel
    clear hrow hb0 hcv
    by_cases hlt : k < s.size
    · obtain ⟨hc, hf, R1, R2⟩ := flip_step s wr w.heap.size k hrowr hlt
      clear hrowr
      by_cases h46 : (s[k].toNat : Int) = 46
      · have R := R2 h46
        have hd : ((s[k].toNat : Int) != 46) = false := by simpa using h46
        clear R1 R2 h46
        go_wp2
        go_roundw
        case rel => exact ⟨k + 1, by omega, by go_num, R, hbr⟩
        case measure => simp [intOf]; omega
      · have R := R1 h46
        have hd : ((s[k].toNat : Int) != 46) = true := by simpa using h46
        clear R1 R2 h46
        go_wp2
        go_roundw
        case rel => exact ⟨k + 1, by omega, by go_num, R, hbr.setCell (Nat.le_refl _) _⟩
        case measure => simp [intOf]; omega
    · have hlen : Hid ((flipTo s.data.toList k).length = s.size) := by rw [Hid, flipTo_length, len_data]
      have hcv := hrowr.conv (cap := cap) hlen
      rw [flipTo_all _ _ (by rw [len_data]; omega)] at hcv
      clear hrowr
      go_wp2
      go_ret
      exact ⟨rfl, hbr⟩
end Go.Proofs.Ytbcedjjocpjkjaa
