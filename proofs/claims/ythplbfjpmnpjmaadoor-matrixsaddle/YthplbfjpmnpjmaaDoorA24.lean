/-
  package matrix, walked: texts.
-/
import Derived.Test.YthplbfjpmnpjmaaDoorA23
namespace Go.Proofs.YthplbfjpmnpjmaaDoor
open Go.RowKit Lp
attribute [local go_sem ↓] Go.wp_at_zero Go.wp_at_succ

def svl (l : List ByteArray) : List Value := l.map fun s => Value.string s
theorem infoSt : (Tryd.prog.info? 9).map (fun i => (i.zero, i.size, i.bytes)) = some (some (.string ⟨#[]⟩), 1, 16) := by kernel_rfl
theorem made_strs (n : Nat) (hn : n ≤ 100000) (W : World) : (Instr.makeSlice 26 (.int .i64 (n : Int)) (.int .i64 (n : Int))).run Tryd.prog W = .ok (.slice (some ⟨W.heap.size, 0, none⟩) n n) (W.alloc (.cells (svl (List.replicate n ⟨#[]⟩)).toArray 9 (0, 0))) := by
  obtain ⟨i0, hi, hz0, hz1, hz2⟩ := info_parts infoSt
  have h := run_make (P := Tryd.prog) W 26 9 i0 (.string ⟨#[]⟩) Tryd.underlying26 hi hz0 .i64 .i64 (n : Int) (n : Int) (by omega) (by omega) (by rw [hz2]; omega) (by omega)
  rw [h, hz1]
  simp only [Int.toNat_natCast]
  have e : madeCells (Value.string ⟨#[]⟩).cells (n * 1) = (svl (List.replicate n ⟨#[]⟩)).toArray := by
    apply Array.toList_inj.1
    rw [show (Value.string ⟨#[]⟩).cells = #[Value.string ⟨#[]⟩] from rfl, toList_madeCells_one]
    rw [Nat.mul_one]
    simp [svl]
  rw [e]
/-- A row of strings of the call's own. -/
structure StR (u : World) (base g : Nat) (l : List ByteArray) : Prop where
  row : u.ownsRow base 9 1 (.slice (some ⟨g, 0, none⟩) l.length l.length) l.length (svl l)
theorem StR.of_block {u : World} {base g : Nat} {l : List ByteArray} (hb : base ≤ g) (hl : l.length ≤ 100000) (h : u.heap[g]? = some (.cells (svl l).toArray 9 (0, 0))) : StR u base g l := by
  refine ⟨by simp [svl], .inr ⟨g, l.length, (svl l).toArray, rfl, hb, h, Nat.le_refl _, by unfold maxLen; omega, by simp [svl], ?_⟩⟩
  rw [List.take_of_length_le (by simp [svl])]
theorem StR.lt {u : World} {base g : Nat} {l : List ByteArray} (h : StR u base g l) : base ≤ g ∧ g < u.heap.size := by
  rcases h.row.2 with ⟨e, -⟩ | ⟨g', cap, cur, e, h1, h2, -⟩
  · cases e
  · cases e
    exact ⟨h1, (Array.getElem?_eq_some_iff.1 h2).1⟩
theorem StR.keep {u u' : World} {base g : Nat} {l : List ByteArray} (h : StR u base g l) (hk : u'.heap[g]? = u.heap[g]?) : StR u' base g l := by
  refine ⟨h.row.1, ?_⟩
  rcases h.row.2 with ⟨e, -⟩ | ⟨g', cap, cur, e, h1, h2, r⟩
  · cases e
  · cases e
    exact .inr ⟨g, _, cur, rfl, h1, hk.trans h2, r⟩
theorem StR.cell {u : World} {base g : Nat} {l : List ByteArray} (h : StR u base g l) {i : Nat} {x : ByteArray} (hi : l[i]? = some x) : u.cell? ⟨g, i, none⟩ = some (.string x) ∧ u.frozen? ⟨g, i, none⟩ = false := by
  have hil := (List.getElem?_eq_some_iff.1 hi).1
  refine ⟨?_, h.row.frozenAt _⟩
  rw [h.row.cellAt i (by omega)]
  unfold svl
  rw [List.getElem?_map, hi]
  rfl
theorem StR.put {u : World} {base g : Nat} {l : List ByteArray} (h : StR u base g l) (i : Nat) (x : ByteArray) : StR (u.setCell ⟨g, i, none⟩ (.string x)) base g (l.set i x) := by
  obtain ⟨h1, -⟩ := h.row.stored i (.string x)
  refine ⟨?_⟩
  rw [List.length_set, show svl (l.set i x) = (svl l).set i (.string x) by simp [svl, List.map_set]]
  exact h1

/-- What texts leaves. -/
structure TxE (l : List Int) (t : Nat) (w : World) (e : Ending) (w' : World) : Prop where
  bw : Below w.heap.size w w'
  out : ∃ g, e = .returned (.slice (some ⟨g, 0, none⟩) l.length l.length) ∧ StR w' w.heap.size g (l.map fun n => frS n t)
/-- The first k texts. -/
def txK (l : List Int) (t k : Nat) : List ByteArray := (l.map fun n => frS n t).take k ++ List.replicate (l.length - k) ⟨#[]⟩
theorem txK_len (l : List Int) (t k : Nat) (hk : k ≤ l.length) : (txK l t k).length = l.length := by simp [txK]; omega
theorem txK_next (l : List Int) (t k : Nat) (n : Int) (hn : l[k]? = some n) : (txK l t k)[k]? = some ⟨#[]⟩ ∧ (txK l t k).set k (frS n t) = txK l t (k + 1) := by
  have hk := (List.getElem?_eq_some_iff.1 hn).1
  have hl : ((l.map fun n => frS n t).take k).length = k := by simp; omega
  obtain ⟨q, hq⟩ : ∃ q, l.length - k = q + 1 := ⟨l.length - k - 1, by omega⟩
  unfold txK
  refine ⟨?_, ?_⟩
  · rw [List.getElem?_append_right (by omega), hl, Nat.sub_self, hq]; rfl
  · rw [List.set_append_right _ _ (by omega), hl, Nat.sub_self, hq, List.replicate_succ, List.set_cons_zero, show l.length - (k + 1) = q by omega, List.take_add_one, List.getElem?_map, hn]
    simp

set_option maxRecDepth 100000 in
set_option maxHeartbeats 4000000 in
theorem texts_any (s : So) (t : Nat) (ht : s.t = (t : Int)) (ht1 : 1 ≤ t) (ht2 : t < 4611686018427387904) (l : List Int) (hl : l.length ≤ 6) (hlb : ∀ x ∈ l, x.natAbs < 4611686018427387904) (ao : Option Addr) (cap : Nat) (w : World) (htab : isTab w) (h : isWl w w.heap.size ao cap l) :
    Calls Tryd.prog 19 #[soV s, .slice ao l.length cap] w (TxE l t w) := by
  have hcap1 := h.le
  have hcap2 := h.most
  unfold maxLen at hcap2
  have HFR : Hid (∀ (n : Int) u, n.natAbs < 4611686018427387904 → isTab u → Calls Tryd.prog 18 #[.int .i64 n, .int .i64 (t : Int)] u fun e w' => e = .returned (.string (frS n t)) ∧ Below u.heap.size u w') := hide (fun n u hn hu => fraction_any n t hn ht2 ht1 u hu)
  obtain ⟨W1, hW1⟩ : ∃ W1, W1 = w.alloc (Obj.cells (soC s).toArray 48 (0, 0)) := ⟨_, rfl⟩
  have hs1 : W1.heap.size = w.heap.size + 1 := by rw [hW1]; simp
  have hb1 : Below w.heap.size w W1 := by rw [hW1]; exact (Below.refl _ w).alloc (Nat.le_refl _) _
  have hso : isSo W1 w.heap.size s := by rw [hW1]; exact heap_alloc_new w _
  have hmk := made_strs l.length (by omega) W1
  obtain ⟨W2, hW2⟩ : ∃ W2, W2 = W1.alloc (.cells (svl (List.replicate l.length ⟨#[]⟩)).toArray 9 (0, 0)) := ⟨_, rfl⟩
  rw [← hW2, hs1] at hmk
  have hb2 : Below w.heap.size w W2 := by rw [hW2]; exact hb1.alloc (by omega) _
  have hso2 : isSo W2 w.heap.size s := hso.keep (by rw [hW2]; exact Below.heap_alloc _ _ _ (by omega))
  have hst2 : StR W2 w.heap.size (w.heap.size + 1) (txK l t 0) := by
    have := heap_alloc_new W1 (.cells (svl (List.replicate l.length ⟨#[]⟩)).toArray 9 (0, 0))
    rw [hs1, ← hW2] at this
    have e : txK l t 0 = List.replicate l.length ⟨#[]⟩ := by simp [txK]
    rw [e]
    exact StR.of_block (by omega) (by simp; omega) this
  have HL := hide h
  have HLB := hide hlb
  have HTB := hide htab
  have HT := hide ht
  obtain ⟨N, hN⟩ : ∃ N, N = l.length := ⟨_, rfl⟩
  have HN := hide hN
  rw [← hN] at hcap1 hl hmk ⊢
  have HI0 : Hid (Below w.heap.size w W2 ∧ isSo W2 w.heap.size s ∧ StR W2 w.heap.size (w.heap.size + 1) (txK l t 0)) := hide ⟨hb2, hso2, hst2⟩
  simp only [soC] at hW1
  have HW1 := hide hW1
  have hN6 : (N : Int) ≤ 6 := by omega
  unfold soV
  simp only [soC]
  clear hW1 hW2 h hlb htab ht hN hb1 hb2 hso hso2 hst2
  go_enter Tryd.func19, Tryd.ntmps19
  go_upto_region 1 with fail
  rw [← unhide HW1]
  clear HW1
  go_wp2
  clear hmk
  go_loopw [13] (fun iv wr => ∃ k : Nat, k ≤ N ∧ iv = .int .i64 (k : Int) ∧ Hid (Below w.heap.size w wr ∧ isSo wr w.heap.size s ∧ StR wr w.heap.size (w.heap.size + 1) (txK l t k))) (fun iv _ => N - (intOf iv).toNat)
  case atStart => exact ⟨0, Nat.zero_le _, rfl, HI0⟩
  case round =>
    obtain ⟨k, hk, rfl, HI⟩ := hrel
    rename World => wr
    clear HI0
    by_cases hlt : k < N
    · have hlti : (k : Int) < (N : Int) := by omega
      have hk0 : (0 : Int) ≤ (k : Int) := by omega
      obtain ⟨n, hn⟩ : ∃ n, l[k]? = some n := ⟨_, List.getElem?_eq_getElem (by rw [← unhide HN]; exact hlt)⟩
      obtain ⟨g, off, rfl, hg, hc⟩ := (unhide HL).cells (fun e => by rw [e] at hn; simp at hn)
      have cn := ((unhide HI).1.cell (p := ⟨g, off + k, none⟩) hg).trans (hc k n hn)
      obtain ⟨⟨-, ct⟩, -⟩ := (unhide HI).2.1.cells
      rw [unhide HT] at ct
      have C1 := unhide HFR n wr (unhide HLB n (List.mem_of_getElem? hn)) ((unhide HTB).below (unhide HI).1)
      obtain ⟨tn1, tn2⟩ := txK_next l t k n hn
      obtain ⟨S, hS⟩ : ∃ S, S = frS n t := ⟨_, rfl⟩
      rw [← hS] at C1 tn2
      have HC1 := hide C1
      have HT1 := hide tn1
      have HT2 := hide tn2
      clear C1 tn1 tn2 hc hn hS
      go_wp2_with fail
      refine (unhide HC1).mono ?_
      rintro e w2 ⟨rfl, hb2⟩
      have hlt2 := (unhide HI).2.2.lt
      have hst := (unhide HI).2.2.keep (hb2.block _ hlt2.2)
      obtain ⟨cs, cf⟩ := hst.cell (unhide HT1)
      have HE : Hid (Below w.heap.size w (w2.setCell ⟨w.heap.size + 1, k, none⟩ (.string S)) ∧ isSo (w2.setCell ⟨w.heap.size + 1, k, none⟩ (.string S)) w.heap.size s ∧ StR (w2.setCell ⟨w.heap.size + 1, k, none⟩ (.string S)) w.heap.size (w.heap.size + 1) (txK l t (k + 1))) := hide (by
        refine ⟨((unhide HI).1.trans (hb2.mono (unhide HI).1.size)).setCell (p := ⟨w.heap.size + 1, k, none⟩) (by dsimp only; omega) _, ?_, by rw [← unhide HT2]; exact hst.put k S⟩
        refine (unhide HI).2.1.keep ?_
        rw [Below.heap_setCell _ _ _ _ (by dsimp only; omega)]
        exact hb2.block _ (by have := (unhide HI).2.1.lt; exact this))
      clear hb2 hst HC1 hlt2 HI
      go_wp2
      go_roundw
      case rel => exact ⟨k + 1, by omega, by go_num, HE⟩
      case measure => simp only [intOf]; omega
    · have hlti : ¬ (k : Int) < (N : Int) := by omega
      have HE : Hid (TxE l t w (.returned (.slice (some ⟨w.heap.size + 1, 0, none⟩) N N)) wr) := hide (by
        refine ⟨(unhide HI).1, w.heap.size + 1, by rw [unhide HN], ?_⟩
        have e : txK l t k = l.map fun n => frS n t := by
          have := unhide HN
          unfold txK
          rw [List.take_of_length_le (by simp; omega), show l.length - k = 0 by omega]
          simp
        rw [← e]
        exact (unhide HI).2.2)
      clear HI
      go_wp2
      go_ret
      exact unhide HE
end Go.Proofs.YthplbfjpmnpjmaaDoor
