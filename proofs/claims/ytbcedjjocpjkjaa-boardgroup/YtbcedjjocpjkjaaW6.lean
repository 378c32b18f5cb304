/-
  board.otherCase, walked: each letter's other case, for every text of at most 64 bytes; of what was there nothing has turned.
-/
import Derived.Test.YtbcedjjocpjkjaaW5
namespace Go.Proofs.Ytbcedjjocpjkjaa
open Go.RowKit

/-- A row of bytes as '[]byte(s)' lays it: one place behind it bears a mark. -/
def RowM (w : World) (g : Nat) (l : List UInt8) : Prop := ∃ (cur : Array Value) (m : Nat), w.heap[g]? = some (.cells cur 5 (m, m + 1)) ∧ cur.size = m ∧ cur.toList.take l.length = bvals l
theorem RowM.le {l : List UInt8} {cur : Array Value} (h : cur.toList.take l.length = bvals l) : l.length ≤ cur.size := by
  have := congrArg List.length h
  simp [bvals] at this
  omega
theorem RowM.cell {w : World} {g : Nat} {l : List UInt8} (h : RowM w g l) (j : Nat) (hj : j < l.length) : w.cell? ⟨g, j, none⟩ = some (.int .u8 (l[j].toNat : Int)) := by
  obtain ⟨cur, m, h1, h2, h3⟩ := h
  rw [cell_of_row w g j cur _ _ h1]
  have : (cur.toList.take l.length)[j]? = (bvals l)[j]? := by rw [h3]
  rw [List.getElem?_take, if_pos hj] at this
  simpa [bvals, hj] using this
theorem RowM.frozen {w : World} {g : Nat} {l : List UInt8} (h : RowM w g l) (j : Nat) (hj : j < l.length) : w.frozen? ⟨g, j, none⟩ = false := by
  obtain ⟨cur, m, h1, h2, h3⟩ := h
  have := RowM.le h3
  simp [World.frozen?, h1]
  omega
theorem RowM.set {w : World} {g : Nat} {l : List UInt8} (h : RowM w g l) (j : Nat) (c : UInt8) : RowM (w.setCell ⟨g, j, none⟩ (.int .u8 (c.toNat : Int))) g (l.set j c) := by
  obtain ⟨cur, m, h1, h2, h3⟩ := h
  refine ⟨cur.setIfInBounds j (.int .u8 (c.toNat : Int)), m, ?_, by simpa using h2, ?_⟩
  · rw [setCell_eq_setRow w g j cur _ _ _ h1]
    exact setRow_heap w g cur _ _ _ h1
  · rw [Array.toList_setIfInBounds, List.length_set, List.take_set, h3]
    simp [bvals, List.map_set]
theorem RowM.conv {w : World} {g cap n : Nat} {l : List UInt8} (h : RowM w g l) (hn : Hid (l.length = n)) :
    (convert 66 9 (.slice (some ⟨g, 0, none⟩) n cap)).run Try.prog w = .ok (.string ⟨l.toArray⟩) w := by
  have hn' := unhide hn
  subst hn'
  refine run_convert_bytes_back w 66 9 5 ⟨g, 0, none⟩ cap l Try.underlying66 Try.underlying5 Try.underlying9 fun j hj => ?_
  have e : (⟨g, 0, none⟩ : Addr).add j = ⟨g, 0 + j, none⟩ := by unfold Addr.add; split <;> simp_all
  rw [Nat.zero_add] at e
  rw [e, h.cell j hj]

/-- The other case; '.' stays. -/
def flipB (c : UInt8) : UInt8 := if c = 46 then 46 else c ^^^ 32
theorem xor32_nat : ∀ n : Nat, n < 256 → bits .xor .u8 (n : Int) 32 = (((UInt8.ofNat n) ^^^ 32).toNat : Int) := by decide +kernel
theorem xor32 (c : UInt8) : bits .xor .u8 (c.toNat : Int) 32 = ((c ^^^ 32).toNat : Int) := by
  have := xor32_nat c.toNat c.toNat_lt
  rwa [UInt8.ofNat_toNat] at this
/-- The text when k of its bytes have been changed. -/
def flipTo (l : List UInt8) (k : Nat) : List UInt8 := (l.take k).map flipB ++ l.drop k
theorem flipTo_length (l : List UInt8) (k : Nat) : (flipTo l k).length = l.length := by simp [flipTo]; omega
theorem flipTo_get (l : List UInt8) (k : Nat) (hk : k < l.length) : (flipTo l k)[k]'(by rw [flipTo_length]; exact hk) = l[k] := by
  unfold flipTo
  rw [List.getElem_append_right (by simp; omega)]
  simp [Nat.min_eq_left (Nat.le_of_lt hk)]
theorem flipTo_succ (l : List UInt8) (k : Nat) (hk : k < l.length) : (flipTo l k).set k (flipB l[k]) = flipTo l (k + 1) := by
  unfold flipTo
  have hl : (List.map flipB (List.take k l)).length = k := by simp; omega
  rw [List.set_append_right _ _ (by omega), hl, Nat.sub_self, List.drop_eq_getElem_cons hk, List.set_cons_zero, List.take_succ_eq_append_getElem hk, List.map_append, List.append_assoc]
  rfl
theorem flipTo_all (l : List UInt8) (k : Nat) (hk : l.length ≤ k) : flipTo l k = l.map flipB := by
  unfold flipTo
  rw [List.take_of_length_le hk, List.drop_of_length_le hk, List.append_nil]

theorem rowM_new (w : World) (s : ByteArray) (cap : Nat) : RowM (w.alloc (.cells (bytesRow s cap) 5 ((bytesRow s cap).size, (bytesRow s cap).size + 1))) w.heap.size (flipTo s.data.toList 0) := by
  refine ⟨_, _, heap_alloc_new w _, rfl, ?_⟩
  have : flipTo s.data.toList 0 = s.data.toList := by simp [flipTo]
  rw [this]
  unfold bytesRow bvals
  rw [Array.toList_append, List.take_append_of_le_length (by simp), List.take_of_length_le (by simp)]
  simp

theorem flip_step (s : ByteArray) (wr : World) (g k : Nat) (h : RowM wr g (flipTo s.data.toList k)) (hk : k < s.size) :
    wr.cell? ⟨g, k, none⟩ = some (.int .u8 (s[k].toNat : Int)) ∧ wr.frozen? ⟨g, k, none⟩ = false ∧
    (¬ (s[k].toNat : Int) = 46 → RowM (wr.setCell ⟨g, k, none⟩ (.int .u8 (bits .xor .u8 (s[k].toNat : Int) 32))) g (flipTo s.data.toList (k + 1))) ∧
    ((s[k].toNat : Int) = 46 → RowM wr g (flipTo s.data.toList (k + 1))) := by
  have hl : k < s.data.toList.length := by rw [len_data]; exact hk
  have hl' : k < (flipTo s.data.toList k).length := by rw [flipTo_length]; exact hl
  have hss : s.data.toList[k] = s[k] := rfl
  have hc := h.cell k hl'
  rw [flipTo_get _ _ hl, hss] at hc
  refine ⟨hc, h.frozen k hl', fun hn => ?_, fun he => ?_⟩
  · have R := h.set k (flipB s.data.toList[k])
    rw [flipTo_succ _ _ hl] at R
    have hx : flipB s.data.toList[k] = s[k] ^^^ 32 := by
      rw [hss]; unfold flipB; rw [if_neg]; intro e; apply hn; rw [e]; rfl
    rw [hx, ← xor32] at R
    exact R
  · rw [← flipTo_succ _ _ hl]
    have h46 : s[k] = 46 := UInt8.toNat_inj.1 (by simpa using (by omega : s[k].toNat = 46))
    have : flipB s.data.toList[k] = (flipTo s.data.toList k)[k] := by
      rw [flipTo_get _ _ hl, hss, h46]; rfl
    rw [this, List.set_getElem_self]
    exact h

set_option maxHeartbeats 1000000 in
set_option maxRecDepth 100000 in
theorem otherCase_any (s : ByteArray) (w : World) (hs : s.size ≤ 64) :
    Calls Try.prog 37 #[.string s] w fun e w' => e = .returned (.string ⟨(s.data.toList.map flipB).toArray⟩) ∧ Below w.heap.size w w' := by
  have hcv := run_bytes_of_string (P := Try.prog) w 9 66 5 s Try.underlying9 Try.underlying66 Try.underlying5
  obtain ⟨cap, hcap⟩ : ∃ cap, cap = grownCap w s.size 0 5 := ⟨_, rfl⟩
  rw [← hcap] at hcv
  clear hcap
  obtain ⟨W1, hW1⟩ : ∃ W1, W1 = w.drew.alloc (.cells (bytesRow s cap) 5 ((bytesRow s cap).size, (bytesRow s cap).size + 1)) := ⟨_, rfl⟩
  rw [← hW1] at hcv
  have hrow : RowM W1 w.heap.size (flipTo s.data.toList 0) := by rw [hW1]; exact rowM_new w.drew s cap
  have hb0 : Below w.heap.size w W1 := by rw [hW1]; exact (Below.refl _ _).drew.alloc (Nat.le_refl _) _
  clear hW1
  go_enter Try.func37, Try.ntmps37
  go_wp2
  go_loopw [10] (fun i wr => ∃ k : Nat, k ≤ s.size ∧ i = .int .i64 k ∧ RowM wr w.heap.size (flipTo s.data.toList k) ∧ Below w.heap.size w wr) (fun i _ => s.size - (intOf i).toNat)
  case atStart => exact ⟨0, Nat.zero_le _, rfl, hrow, hb0⟩
  case round =>
    obtain ⟨k, hk, rfl, hrowr, hbr⟩ := hrel
    clear hrow hb0 hcv
    by_cases hlt : k < s.size
    · obtain ⟨hc, hf, R1, R2⟩ := flip_step s wr w.heap.size k hrowr hlt
      clear hrowr
      by_cases h46 : (s[k].toNat : Int) = 46
      · have R := R2 h46
        have hd : ((s[k].toNat : Int) != 46) = false := by simpa using h46
        clear R1 R2 h46
        go_wp2
        go_roundw
        case rel => exact ⟨k + 1, by omega, by go_num, R, hbr⟩
        case measure => simp [intOf]; omega
      · have R := R1 h46
        have hd : ((s[k].toNat : Int) != 46) = true := by simpa using h46
        clear R1 R2 h46
        go_wp2
        go_roundw
        case rel => exact ⟨k + 1, by omega, by go_num, R, hbr.setCell (Nat.le_refl _) _⟩
        case measure => simp [intOf]; omega
    · have hlen : Hid ((flipTo s.data.toList k).length = s.size) := by rw [Hid, flipTo_length, len_data]
      have hcv := hrowr.conv (cap := cap) hlen
      rw [flipTo_all _ _ (by rw [len_data]; omega)] at hcv
      clear hrowr
      go_wp2
      go_ret
      exact ⟨rfl, hbr⟩
end Go.Proofs.Ytbcedjjocpjkjaa
