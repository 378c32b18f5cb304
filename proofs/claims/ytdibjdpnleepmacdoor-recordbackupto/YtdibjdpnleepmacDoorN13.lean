/-
  package record, walked: the reader's back.
-/
import Derived.Test.YtdibjdpnleepmacDoorN12
namespace Go.Proofs.YtdibjdpnleepmacDoor
open Go.RowKit
attribute [local go_sem ↓] Go.wp_at_zero Go.wp_at_succ

theorem ovals_len (O : List Pl) : (ovals O).length = O.length * 4 := by
  induction O with
  | nil => rfl
  | cons p t ih => simp only [ovals, List.flatMap_cons, List.length_append, List.length_cons, List.length_nil] at ih ⊢; omega
theorem ovals_snoc (O : List Pl) (p : Pl) : ovals (O ++ [p]) = ovals O ++ [.int .i64 p.main, .int .i64 p.deep, .int .i64 p.of_, .bool p.others] := by simp [ovals]
/-- The last open place, and the row without it. -/
theorem open_last {w : World} {base : Nat} {v : Value} {O : List Pl} {p : Pl} (h : w.ownsRow base 33 4 v (O ++ [p]).length (ovals (O ++ [p]))) :
    ∃ go cap, v = .slice (some ⟨go, 0, none⟩) (O.length + 1) cap ∧ O.length + 1 ≤ cap ∧ cap ≤ maxLen ∧ base ≤ go ∧ go < w.heap.size ∧
      w.cell? ⟨go, O.length * 4, none⟩ = some (.int .i64 p.main) ∧ w.cell? ⟨go, O.length * 4 + 1, none⟩ = some (.int .i64 p.deep) ∧ w.cell? ⟨go, O.length * 4 + 2, none⟩ = some (.int .i64 p.of_) ∧ w.cell? ⟨go, O.length * 4 + 3, none⟩ = some (.bool p.others) ∧
      w.ownsRow base 33 4 (.slice (some ⟨go, 0, none⟩) O.length cap) O.length (ovals O) := by
  have h0 := h
  have hl : (O ++ [p]).length = O.length + 1 := by simp
  obtain ⟨h1, h2⟩ := h
  rcases h2 with ⟨e, h2⟩ | ⟨go, cap, cur, e, hb, hg, hn, hm, hc, ht⟩
  · rw [hl] at h2; omega
  · rw [hl] at e hn
    have hlt := ltBlock hg
    have hcl : ∀ (j : Nat) (u : Value), j < 4 → (ovals (O ++ [p]))[O.length * 4 + j]? = some u → w.cell? ⟨go, O.length * 4 + j, none⟩ = some u := by
      intro j u hj hu
      rw [hl] at h0
      rw [e] at h0
      rw [h0.cellAt _ (by omega)]
      exact hu
    have ho : ∀ j, j < 4 → (ovals (O ++ [p]))[O.length * 4 + j]? = [Value.int .i64 p.main, .int .i64 p.deep, .int .i64 p.of_, .bool p.others][j]? := by
      intro j hj
      rw [ovals_snoc, List.getElem?_append_right (by rw [ovals_len]; omega), ovals_len]
      congr 1
      omega
    refine ⟨go, cap, e, hn, hm, hb, hlt, hcl 0 _ (by omega) (ho 0 (by omega)), hcl 1 _ (by omega) (ho 1 (by omega)), hcl 2 _ (by omega) (ho 2 (by omega)), hcl 3 _ (by omega) (ho 3 (by omega)), ?_⟩
    refine ⟨?_, .inr ⟨go, cap, cur, rfl, hb, hg, by omega, hm, hc, ?_⟩⟩
    · exact ovals_len O
    · have := congrArg (List.take (O.length * 4)) ht
      rw [List.take_take, ovals_snoc, hl, List.take_append_of_le_length (by rw [ovals_len]; omega), List.take_of_length_le (l := ovals O) (by rw [ovals_len]; omega)] at this
      rw [← this]
      congr 1
      omega
theorem isRe.set9 {w : World} {g : Nat} {x : Re} (h : isRe w g x) (v : Value) : isRe (w.setCell ⟨g, 9, none⟩ v) g { x with open_ := v } := by
  unfold isRe at h ⊢; simp [World.setCell, Array.getElem?_modify, h]
/-- What back leaves. -/
structure BackEnd (g B : Nat) (x : Re) (E : List En) (O : List Pl) (p : Pl) (w : World) (e : Ending) (w' : World) : Prop where
  ex : (pkR x.rest = 41 ∧ e = .returned (.tuple #[]) ∧ ∃ v, RSt w' g B { x.on with main := p.main, deep := p.deep, of_ := p.of_, others := p.others, open_ := v } E O) ∨ (pkR x.rest ≠ 41 ∧ e = fltP x.at_)
  low : Bb g B w w'

set_option maxHeartbeats 2000000 in
set_option maxRecDepth 100000 in
theorem back_any (g B : Nat) (x : Re) (E : List En) (O : List Pl) (p : Pl) (w : World) (h : RSt w g B x E (O ++ [p])) (hT : Lib.Utf8Tabs 0 1 w) (ha : 0 ≤ x.at_ ∧ x.at_ ≤ 4000000) (hO : O.length ≤ 4000000) :
    Calls Tryd.prog 24 #[.pointer (some ⟨g, 0, none⟩)] w fun e w' => BackEnd g B x E O p w e w' := by
  have HTK := hide (take_any g 41 x w h.re hT (by decide) ha)
  have HH := hide h
  have hgw := h.re.lt
  have HHB := hide h.hB
  clear h hT
  go_enter Tryd.func24, Tryd.ntmps24
  go_wp2_with fail
  refine (unhide HTK).mono ?_
  rintro e w2 ⟨hex, hbu⟩
  rcases hex with ⟨hp, rfl, hx2⟩ | ⟨hp, rfl⟩
  case inr =>
    have HLB := hide (hbu.bb (unhide HHB).2)
    have HP := hide hp
    clear hbu hp
    unfold fltP
    go_wp2
    simp only [bodyPost, true_and]
    exact ⟨Or.inr ⟨unhide HP, rfl⟩, unhide HLB⟩
  case inl =>
    have hrs := (unhide HH).bu hbu hx2 rfl rfl
    obtain ⟨go, cap, hv, hcap, hmx, hgo, hgol, e0, e1, e2, e3, hrow⟩ := open_last hrs.open_
    obtain ⟨-, -, -, -, -, c5, c6, c7, c8, c9⟩ := hx2.cells
    have f5 := hx2.frozen 5
    have f6 := hx2.frozen 6
    have f7 := hx2.frozen 7
    have f8 := hx2.frozen 8
    have f9 := hx2.frozen 9
    rw [hv] at c9
    unfold maxLen at hmx
    obtain ⟨n, hn⟩ : ∃ n, n = O.length := ⟨_, rfl⟩
    rw [← hn] at c9 e0 e1 e2 e3 hcap hO
    have hgg : go ≠ g := by have := (unhide HHB).1; omega
    have hgg' : g ≠ go := by have := (unhide HHB).1; omega
    have hfin := (hx2.here p.main p.deep p.of_ p.others).set9 (.slice (some ⟨go, 0, none⟩) n cap)
    have HFIN := hide hfin
    have HRS := hide hrs
    have HROW := hide hrow
    have HN := hide hn
    have HLB := hide ((below_here (hbu.bb (unhide HHB).2) (.int .i64 p.main) (.int .i64 p.deep) (.int .i64 p.of_) (.bool p.others)).put 9 (.slice (some ⟨go, 0, none⟩) n cap))
    have HP := hide hp
    have hni : (0 : Int) ≤ (n : Int) := by omega
    have hnl : (n : Int) < ((n + 1 : Nat) : Int) := by omega
    clear hfin hrs hrow hn hbu hp hx2 hv
    go_upto_region 2 with fail
    go_region
    go_wp2
    go_end0
    have hgB := (unhide HRS).hB
    have hkeep : ∀ k, B ≤ k → (World.setCell (World.setCell (World.setCell (World.setCell (World.setCell w2 ⟨g, 5, none⟩ (.int .i64 p.main)) ⟨g, 6, none⟩ (.int .i64 p.deep)) ⟨g, 7, none⟩ (.int .i64 p.of_)) ⟨g, 8, none⟩ (.bool p.others)) ⟨g, 9, none⟩ (.slice (some ⟨go, 0, none⟩) n cap)).heap[k]? = w2.heap[k]? := by
      intro k hk
      rw [Below.heap_setCell _ _ _ _ (by simp only; omega), Below.heap_setCell _ _ _ _ (by simp only; omega), Below.heap_setCell _ _ _ _ (by simp only; omega), Below.heap_setCell _ _ _ _ (by simp only; omega), Below.heap_setCell _ _ _ _ (by simp only; omega)]
    refine ⟨Or.inl ⟨unhide HP, rfl, .slice (some ⟨go, 0, none⟩) n cap, unhide HFIN, ?_, ?_, hgB.1, ?_⟩, (unhide HLB).drew⟩
    · exact row_keep (unhide HRS).kept (fun k hk _ => hkeep k hk)
    · have hr := unhide HROW
      rw [← unhide HN] at hr ⊢
      exact row_keep hr (fun k hk _ => hkeep k hk)
    · show B ≤ (World.setCell (World.setCell (World.setCell (World.setCell (World.setCell w2 ⟨g, 5, none⟩ (.int .i64 p.main)) ⟨g, 6, none⟩ (.int .i64 p.deep)) ⟨g, 7, none⟩ (.int .i64 p.of_)) ⟨g, 8, none⟩ (.bool p.others)) ⟨g, 9, none⟩ (.slice (some ⟨go, 0, none⟩) n cap)).heap.size
      rw [size_put, size_put, size_put, size_put, size_put]
      exact hgB.2
end Go.Proofs.YtdibjdpnleepmacDoor
