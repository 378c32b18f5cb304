/-
  package record, walked: the reader's notesOf.
-/
import Derived.Test.YtdibjdpnleepmacDoorN17
import Derived.Maps.AppendAt
namespace Go.Proofs.YtdibjdpnleepmacDoor
open Go.RowKit
attribute [local go_sem ↓] Go.wp_at_zero Go.wp_at_succ

theorem step_call {P : Program} {ops : Array Oper} {o : Oper} {a : Act} {w : World} {K : Act → World → Prop} {Q : Exit → Act → World → Prop} {E : Prop}
    (hg : o.guard = none) (f : FuncId) (xs : Array Operand) (ts : Array TypeId) (hop : o.op = Op.call { callee := Callee.value (Operand.func f), args := xs, argTypes := ts }) (vs : Array Value) (hv : xs.map a.eval = vs)
    (he : ∀ args (u : World), (callFunc f args).run P u = .ok (.enter f args) u) {R : Ending → World → Prop} (hc : Calls P f vs w R) (hK : ∀ e w', R e w' → ∃ v, e = .returned v ∧ K (a.put o.dst v) w') :
    if Region.wanted o (yielded ops a.tmps) = true then Oper.wp P o a w K Q else E := by
  have hw : Region.wanted o (yielded ops a.tmps) = true := by simp [Region.wanted, hg]
  rw [if_pos hw]
  unfold Oper.wp
  have hr : (execOp a.eval o).run P w = .ok (.enter f vs) w := by
    rw [← he vs w, ← hv]
    simp [execOp, hop, resolve, invoke, Act.eval, Deferred.ofValue]
  rw [hr, Oper.upon_enter]
  refine hc.mono fun e w' h => ?_
  obtain ⟨v, rfl, hk⟩ := hK e w' h
  exact hk
theorem step_append_at {P : Program} {ops : Array Oper} {o : Oper} {a : Act} {w : World} {K : Act → World → Prop} {Q : Exit → Act → World → Prop} {E : Prop}
    (hg : o.guard = none) (s x : Operand) (t : TypeId) (hop : o.op = Op.call { callee := Callee.builtin Builtin.append, args := #[s, x], argTypes := #[t, t] })
    (base : Nat) (e : TypeId) (i : TypeInfo) (z : Value) (size bytes : Nat) (h1 : P.underlying t = some (.slice e)) (h2 : P.info? e = some i) (h3 : i.zero = some z) (h4 : i.size = size) (h5 : i.bytes = bytes) (h6 : z.cells.size = size) (h7 : 0 < size)
    (v : Value) (n : Nat) (xs : List Value) (hs : a.eval s = v) (hown : w.ownsRow base e size v n xs)
    (ad : Addr) (m c : Nat) (news : List Value) (hx : a.eval x = .slice (some ad) m c) (hn : news.length = m * size) (hc : ∀ j u, news[j]? = some u → w.cell? (ad.add j) = some u) (h1c : ∀ u ∈ news, u.oneCell' = true)
    (b1 : n + m ≤ maxLen) (b2 : (n + m) * bytes ≤ 140737488355328) (hbase : base ≤ w.heap.size)
    (hK : ∀ v' w', w'.ownsRow base e size v' (n + m) (xs ++ news) → w.grownBy w' v.ownBlock → (v'.ownBlock = v.ownBlock ∨ v'.ownBlock = some w.heap.size) → K (a.put o.dst v') w') :
    if Region.wanted o (yielded ops a.tmps) = true then Oper.wp P o a w K Q else E := by
  have hw : Region.wanted o (yielded ops a.tmps) = true := by simp [Region.wanted, hg]
  rw [if_pos hw]
  obtain ⟨v', w', hrun, r1, r2, _, r4⟩ := run_append_own_at (P := P) w base t o.type e i z size bytes h1 h2 h3 h4 h5 h6 h7 v n xs hown ad m c news hn hc h1c b1 b2 hbase
  unfold Oper.wp
  simp [execOp, hop, resolve, invoke, builtin, hs, hx, hrun, Result.andThen]
  exact hK v' w' r1 r2 r4
theorem evals_at : ∀ (E : List En) (i : Nat) (e : En), E[i]? = some e → (evals E)[i * 4]? = some (.string e.mv) ∧ (evals E)[i * 4 + 1]? = some (.string e.cm) ∧ (evals E)[i * 4 + 2]? = some (.slice none 0 0) ∧ (evals E)[i * 4 + 3]? = some (.int .i64 e.of_)
  | [], i, x, h => by simp at h
  | y :: L, 0, x, h => by simp at h; subst h; simp [evals]
  | y :: L, i + 1, x, h => by
    have := evals_at L i x (by simpa using h)
    rw [show evals (y :: L) = [.string y.mv, .string y.cm, .slice none 0 0, .int .i64 y.of_] ++ evals L from rfl]
    rw [show (i + 1) * 4 = 4 + i * 4 by omega, show 4 + i * 4 + 1 = 4 + (i * 4 + 1) by omega, show 4 + i * 4 + 2 = 4 + (i * 4 + 2) by omega, show 4 + i * 4 + 3 = 4 + (i * 4 + 3) by omega]
    rw [List.getElem?_append_right (by simp), List.getElem?_append_right (by simp), List.getElem?_append_right (by simp), List.getElem?_append_right (by simp)]
    simpa using this
theorem kept_at {w : World} {B : Nat} {v : Value} {E : List En} (h : w.ownsRow B 52 4 v E.length (evals E)) {i : Nat} {e : En} (hi : E[i]? = some e) :
    ∃ ge cap, v = .slice (some ⟨ge, 0, none⟩) E.length cap ∧ ge < w.heap.size ∧ w.cell? ⟨ge, i * 4, none⟩ = some (.string e.mv) ∧ w.cell? ⟨ge, i * 4 + 1, none⟩ = some (.string e.cm) ∧ w.cell? ⟨ge, i * 4 + 2, none⟩ = some (.slice none 0 0) ∧ w.cell? ⟨ge, i * 4 + 3, none⟩ = some (.int .i64 e.of_) := by
  have h0 := h
  have hlt := (List.getElem?_eq_some_iff.1 hi).1
  rcases h.2 with ⟨h1, h2⟩ | ⟨g, cap, cur, h1, hb, hg, -⟩
  · omega
  · rw [h1] at h0
    obtain ⟨a0, a1, a2, a3⟩ := evals_at E i e hi
    exact ⟨g, cap, h1, ltBlock hg, by rw [h0.cellAt _ (by omega)]; exact a0, by rw [h0.cellAt _ (by omega)]; exact a1, by rw [h0.cellAt _ (by omega)]; exact a2, by rw [h0.cellAt _ (by omega)]; exact a3⟩
theorem infoNote : (Tryd.prog.info? 47).map (fun i => (i.zero, i.size, i.bytes)) = some (some (.agg #[.string ⟨#[]⟩, .string ⟨#[]⟩, .slice none 0 0]), 3, 56) := by kernel_rfl
theorem entN : ∀ args (u : World), (callFunc 9 args).run Tryd.prog u = .ok (.enter 9 args) u := enters_of Tryd.func9 (by kernel_rfl) rfl
theorem entCl : ∀ args (u : World), (callFunc 11 args).run Tryd.prog u = .ok (.enter 11 args) u := enters_of Tryd.func11 (by kernel_rfl) rfl

set_option maxHeartbeats 2000000 in
set_option maxRecDepth 100000 in
theorem notesOf_step (g B f : Nat) (x : Re) (E : List En) (hE : E.length ≤ 1000) (hsz : ∀ e ∈ E, e.mv.size < 2000000 ∧ e.cm.size < 2000000)
    (IH : ∀ (i : Nat) (w : World), i < E.length → isRe w g x → w.ownsRow B 52 4 x.kept E.length (evals E) → E.length ≤ f + i →
      Calls Tryd.prog 9 #[.pointer (some ⟨g, 0, none⟩), .int .i64 (i : Int)] w fun e w' => ∃ ao cap, e = .returned (.slice ao (notesF E f i).length cap) ∧ isNtP (fun k => w.heap.size ≤ k ∧ k < w'.heap.size) f w' ao cap (notesF E f i) ∧ Below w.heap.size w w')
    (j : Int) (hj : -1 ≤ j) (hj2 : j ≤ 1000) (w : World) (h : isRe w g x) (hk : w.ownsRow B 52 4 x.kept E.length (evals E)) (hf : (E.length : Int) ≤ f + 1 + j) :
    Calls Tryd.prog 9 #[.pointer (some ⟨g, 0, none⟩), .int .i64 j] w fun e w' => ∃ ao cap, e = .returned (.slice ao (notesF E (f + 1) j).length cap) ∧ isNtP (fun k => w.heap.size ≤ k ∧ k < w'.heap.size) (f + 1) w' ao cap (notesF E (f + 1) j) ∧ Below w.heap.size w w' := by
  have HIH := hide IH
  have HH := hide h
  have HK := hide hk
  have HSZ := hide hsz
  have hgw := h.lt
  clear IH h hk hsz
  go_enter Tryd.func9, Tryd.ntmps9
  go_wp2
  go_loopw [5, 6] (fun lv iv wr => ∃ (i : Nat) (L : List Nr), iv = .int .i64 (i : Int) ∧ (j + 1).toNat ≤ i ∧ i ≤ max (j + 1).toNat E.length ∧ Below w.heap.size w wr ∧ isNrow f wr w.heap.size lv L ∧ Hid (L.map (·.t) = (List.range' (j + 1).toNat (i - (j + 1).toNat)).filterMap (kidF E (notesF E f) j))) (fun _ iv _ => E.length - (intOf iv).toNat)
  case atStart =>
    refine ⟨(j + 1).toNat, [], ?_, Nat.le_refl _, Nat.le_max_left _ _, Below.refl _ _, isNrow.nil _ _ _, hide ?_⟩
    · rw [show (((j + 1).toNat : Nat) : Int) = j + 1 by omega]
    · rw [Nat.sub_self]; rfl
  case round =>
    obtain ⟨i, L, rfl, hi1, hi2, hb, hL, HL⟩ := hrel
    have hre := (unhide HH).below hb hgw
    have hkw := row_keep (w' := wr) (unhide HK) (fun k _ hk => hb.block k hk)
    obtain ⟨-, -, c2, -⟩ := hre.cells
    have hi1000 : i ≤ 1001 := by omega
    by_cases hlt : i < E.length
    · obtain ⟨e, he⟩ : ∃ e, E[i]? = some e := ⟨_, List.getElem?_eq_getElem hlt⟩
      obtain ⟨ge, cap, hkv, hge, d0, d1, d2, d3⟩ := kept_at hkw he
      rw [hkv] at c2
      have hlti : (i : Int) < (E.length : Int) := by omega
      have HRE := hide hre
      have HKW := hide hkw
      have HHE := hide he
      have HLL := hide hL
      have HBW := hide hb
      have HKV := hide hkv
      clear hre hkw he hL hb hkv
      by_cases hof : e.of_ = j
      · have hofb : (e.of_ != j) = false := by simp [hof]
        have HOF := hide hof
        obtain ⟨hmz, hcz⟩ := unhide HSZ e (List.mem_of_getElem? (unhide HHE))
        obtain ⟨wb, hwb⟩ : ∃ wb, wb = wr.alloc (.cells #[.string e.mv, .string e.cm, .slice none 0 0] 47 (0, 0)) := ⟨_, rfl⟩
        have hbb : Below wr.heap.size wr wb := by rw [hwb]; exact (Below.refl _ _).alloc (Nat.le_refl _) _
        have hnb : isNb wb wr.heap.size e.mv e.cm := by rw [hwb]; exact heap_alloc_new wr _
        have hszb : wb.heap.size = wr.heap.size + 1 := by rw [hwb]; simp
        have hrw : w.heap.size ≤ wr.heap.size := (unhide HBW).size
        have hgr : g < wr.heap.size := (unhide HRE).lt
        obtain ⟨⟨k0, k1, -⟩, -⟩ := hnb.all
        have k0d : wb.drew.cell? ⟨wr.heap.size, 0, none⟩ = some (.string e.mv) := k0
        have k1d : wb.drew.cell? ⟨wr.heap.size, 1, none⟩ = some (.string e.cm) := k1
        have HC1 := hide (fun u => Clone_any e.mv u (by unfold maxLen; omega) (by omega))
        have HC2 := hide (fun u => Clone_any e.cm u (by unfold maxLen; omega) (by omega))
        have HK1 : Hid (∀ u, Below wb.drew.heap.size wb.drew u → u.cell? ⟨wr.heap.size, 1, none⟩ = some (.string e.cm)) := hide fun u hu => (hu.cell (p := ⟨wr.heap.size, 1, none⟩) (by show wr.heap.size < wb.heap.size; omega)).trans k1
        have HIHI : Hid (∀ u, Below wb.drew.heap.size wb.drew u → Calls Tryd.prog 9 #[.pointer (some ⟨g, 0, none⟩), .int .i64 (i : Int)] u fun e w' => ∃ ao cap, e = .returned (.slice ao (notesF E f i).length cap) ∧ isNtP (fun k => u.heap.size ≤ k ∧ k < w'.heap.size) f w' ao cap (notesF E f i) ∧ Below u.heap.size u w') := by
          refine hide fun u hu => ?_
          have hu' : Below wr.heap.size wr u := hbb.trans ⟨hu.os, hu.tape, hu.output, hu.size, fun k hk => hu.block k (by show k < wb.heap.size; omega)⟩
          exact unhide HIH i u hlt ((unhide HRE).below hu' hgr) (row_keep (unhide HKW) (fun k _ hk => hu'.block k hk)) (by omega)
        obtain ⟨i0, hi, hz0, hz1, hz2⟩ := info_parts infoNote
        obtain ⟨NX, hNX⟩ : ∃ NX, NX = notesF E f i := ⟨_, rfl⟩
        rw [← hNX] at HIHI
        have HST : Hid (∀ ao cp, (L ++ [(⟨.mk e.mv e.cm NX, ao, cp⟩ : Nr)]).map (·.t) = (List.range' (j + 1).toNat (i + 1 - (j + 1).toNat)).filterMap (kidF E (notesF E f) j)) := by
          refine hide fun ao cp => ?_
          rw [show i + 1 - (j + 1).toNat = (i - (j + 1).toNat) + 1 by omega, range_cut, List.filterMap_append, ← unhide HL]
          have : kidF E (notesF E f) j i = some (.mk e.mv e.cm NX) := by unfold kidF; rw [unhide HHE]; simp only; rw [if_pos hof, hNX]
          rw [show (j + 1).toNat + (i - (j + 1).toNat) = i by omega, show List.range' i 1 = [i] from rfl]
          simp [this]
        clear hNX
        have HLK : Hid (L.length ≤ 1000) := by
          refine hide ?_
          have h1 := congrArg List.length (unhide HL)
          rw [List.length_map] at h1
          have h2 := List.length_filterMap_le (kidF E (notesF E f) j) (List.range' (j + 1).toNat (i - (j + 1).toNat))
          rw [List.length_range'] at h2
          omega
        have HB1 : Hid (L.length + 1 ≤ maxLen) := hide (by have := unhide HLK; unfold maxLen; omega)
        have HB2 : Hid ((L.length + 1) * 56 ≤ 140737488355328) := hide (by have := unhide HLK; omega)
        have HNW1 : Hid (∀ (u3 : World) (ao : Option Addr) (cp : Nat) (jj : Nat) (v : Value), [Value.string e.mv, .string e.cm, .slice ao NX.length cp][jj]? = some v → (u3.alloc (.cells #[.string e.mv, .string e.cm, .slice ao NX.length cp] 47)).cell? ((⟨u3.heap.size, 0, none⟩ : Addr).add jj) = some v) := by
          refine hide fun u3 ao cp jj v hj => ?_
          match jj, hj with
          | 0, hj => simp at hj; subst hj; simp [Addr.add]
          | 1, hj => simp at hj; subst hj; simp [Addr.add]
          | 2, hj => simp at hj; subst hj; simp [Addr.add]
        have HNW2 : Hid (∀ (ao : Option Addr) (cp : Nat) (v : Value), v ∈ [Value.string e.mv, .string e.cm, .slice ao NX.length cp] → v.oneCell' = true) := by
          refine hide fun ao cp v hv => ?_
          simp only [List.mem_cons, List.not_mem_nil, or_false] at hv
          rcases hv with rfl | rfl | rfl <;> rfl
        have HFIN : Hid (∀ (u3 : World) (ao : Option Addr) (cp : Nat), Below wb.drew.heap.size wb.drew u3 → isNtP (fun k => wb.heap.size ≤ k ∧ k < u3.heap.size) f u3 ao cp NX →
            (∀ o, w.heap.size ≤ (u3.alloc o).heap.size ∧ (u3.alloc o).ownsRow w.heap.size 47 3 u5 L.length (nrow L)) ∧
            ∀ o v' w9, w9.ownsRow w.heap.size 47 3 v' (L.length + 1) (nrow L ++ [Value.string e.mv, .string e.cm, .slice ao NX.length cp]) → (u3.alloc o).grownBy w9 u5.ownBlock → (v'.ownBlock = u5.ownBlock ∨ v'.ownBlock = some (u3.alloc o).heap.size) →
              isNrow f w9 w.heap.size v' (L ++ [⟨.mk e.mv e.cm NX, ao, cp⟩]) ∧ Below w.heap.size w w9) := by
          refine hide fun u3 ao cp hu hN => ?_
          have hu' : Below wr.heap.size wr u3 := hbb.trans ⟨hu.os, hu.tape, hu.output, hu.size, fun k hk => hu.block k (by show k < wb.heap.size; omega)⟩
          have hal : ∀ o, Below u3.heap.size u3 (u3.alloc o) := fun o => (Below.refl _ _).alloc (Nat.le_refl _) _
          have hsu : wb.heap.size ≤ u3.heap.size := hu.size
          have h3 := (unhide HLL).below hu'
          refine ⟨fun o => ⟨by have := (hal o).size; omega, (h3.below (hal o)).row⟩, fun o v' w9 hown hgrow hat => ?_⟩
          have h4 := h3.below (hal o)
          have hlow := World.ownsRow.lt (unhide HLL).row
          refine ⟨h4.snoc ⟨.mk e.mv e.cm NX, ao, cp⟩ ⟨hmz, hcz⟩ ?_ hown hgrow ?_, ?_⟩
          · refine isNtP.keep (fun k hk => ⟨⟨by omega, Nat.lt_of_lt_of_le hk.2 (hal o).size, fun e' => ?_⟩, (hal o).block k hk.2⟩) _ _ _ _ hN
            have := hlow k e'
            omega
          · rcases hat with h | h
            · exact .inl h
            · exact .inr fun k hk => by rw [h] at hk; cases hk; exact Nat.le_refl _
          · have h5 : Below w.heap.size (u3.alloc o) w9 := (Below.refl _ _).grown hgrow (by have := (hal o).size; omega) (fun k hk => (hlow k hk).1)
            exact (((unhide HBW).trans (hu'.mono hrw)).trans ((hal o).mono (by omega))).trans h5
        go_upto_region 7 with fail
        rw [← hwb]
        have HWB := hide hwb
        clear hwb hbb hnb k0 k1
        go_region_law (first
          | (refine step_call rfl 11 #[.tmp 39] #[9] rfl #[.string e.mv] (by simp [Act.eval]) entCl (unhide HC1 _) ?_; rintro e1 w1 ⟨rfl, hb1⟩; refine ⟨_, rfl, ?_⟩; have k11 := unhide HK1 w1 hb1)
          | (refine step_call rfl 11 #[.tmp 42] #[9] rfl #[.string e.cm] (by simp [Act.eval]) entCl (unhide HC2 _) ?_; rintro e2 w2 ⟨rfl, hb2⟩; refine ⟨_, rfl, ?_⟩; have hb12 := hb1.trans (hb2.mono hb1.size))
          | (refine step_call rfl 9 #[.tmp 44, .tmp 45] #[48, 3] rfl #[.pointer (some ⟨g, 0, none⟩), .int .i64 (i : Int)] (by simp [Act.eval]) entN (unhide HIHI _ hb12) ?_; rintro e3 w3 ⟨ao, cp, rfl, hN3, hb3⟩; refine ⟨_, rfl, ?_⟩; have hb13 := hb12.trans (hb3.mono hb12.size); have hN3' := isNtP.keep (S' := fun k => wb.heap.size ≤ k ∧ k < w3.heap.size) (fun k hk => ⟨⟨Nat.le_trans hb12.size hk.1, hk.2⟩, rfl⟩) _ _ _ _ hN3; obtain ⟨hF1, hF2⟩ := unhide HFIN w3 ao cp hb13 hN3'; have HF1 := hide hF1; have HF2 := hide hF2; clear hF1 hF2 hN3 hN3' hb13)
          | (refine step_append_at rfl (.tmp 37) (.tmp 48) 22 rfl w.heap.size 47 i0 _ 3 56 Tryd.underlying22 hi hz0 hz1 hz2 rfl (by decide) u5 L.length (nrow L) (by simp [Act.eval]) (unhide HF1 _).2 ⟨w3.heap.size, 0, none⟩ 1 1 [.string e.mv, .string e.cm, .slice ao NX.length cp] (by simp [Act.eval]) rfl (unhide HNW1 w3 ao cp) (unhide HNW2 ao cp) (unhide HB1) (unhide HB2) (unhide HF1 _).1 ?_; intro v' w9 hown9 hgrow9 hat9; obtain ⟨hE1, hE2⟩ := unhide HF2 _ v' w9 hown9 hgrow9 hat9; have HE1 := hide hE1; have HE2 := hide hE2; clear hE1 hE2 hown9 hgrow9 hat9))
        all_goals go_wp2
        all_goals go_roundw
        case rel => exact ⟨i + 1, _, by go_num, by omega, by omega, unhide HE2, unhide HE1, hide (unhide HST _ _)⟩
        case measure => simp only [intOf]; omega
        case rel => exact ⟨i + 1, _, by go_num, by omega, by omega, unhide HE2, unhide HE1, hide (unhide HST _ _)⟩
        case measure => simp only [intOf]; omega
        case rel => exact ⟨i + 1, _, by go_num, by omega, by omega, unhide HE2, unhide HE1, hide (unhide HST _ _)⟩
        case measure => simp only [intOf]; omega
      · have hofb : (e.of_ != j) = true := by simp [hof]
        have HST : Hid (L.map (·.t) = (List.range' (j + 1).toNat (i + 1 - (j + 1).toNat)).filterMap (kidF E (notesF E f) j)) := by
          refine hide ?_
          rw [show i + 1 - (j + 1).toNat = (i - (j + 1).toNat) + 1 by omega, range_cut, List.filterMap_append, ← unhide HL]
          have : kidF E (notesF E f) j i = none := by unfold kidF; rw [unhide HHE]; simp only; rw [if_neg hof]
          rw [show (j + 1).toNat + (i - (j + 1).toNat) = i by omega, show List.range' i 1 = [i] from rfl]
          simp [this]
        clear hof
        go_wp2
        go_roundw
        case rel => exact ⟨i + 1, L, by go_num, by omega, by omega, unhide HBW, unhide HLL, HST⟩
        case measure => simp only [intOf]; omega
    · have hlti : ¬ (i : Int) < (E.length : Int) := by omega
      obtain ⟨qo, qc, hkv⟩ := row_len hkw
      rw [hkv] at c2
      have hLn : L.map (·.t) = notesF E (f + 1) j := by rw [unhide HL, notesF]; congr 2; omega
      have HLN := hide hLn
      have HLL := hide hL
      have HBW := hide hb
      obtain ⟨lo, lc, hlv⟩ := row_len hL.row
      subst hlv
      clear hre hkw hL hb hLn
      go_wp2
      go_ret
      obtain ⟨ao, cp, hv, hN⟩ := (unhide HLL).done (by have := congrArg List.length (unhide HL); rw [List.length_map] at this; have h2 := List.length_filterMap_le (kidF E (notesF E f) j) (List.range' (j + 1).toNat (i - (j + 1).toNat)); rw [List.length_range'] at h2; unfold maxLen; omega)
      rw [unhide HLN] at hN
      refine ⟨ao, cp, ?_, hN, unhide HBW⟩
      rw [← unhide HLN, List.length_map, ← hv]
      rfl
theorem notesOf_any (g B : Nat) (x : Re) (E : List En) (hE : E.length ≤ 1000) (hsz : ∀ e ∈ E, e.mv.size < 2000000 ∧ e.cm.size < 2000000) : ∀ (f : Nat) (j : Int) (w : World), -1 ≤ j → j ≤ 1000 → isRe w g x → w.ownsRow B 52 4 x.kept E.length (evals E) → (E.length : Int) ≤ f + 1 + j →
    Calls Tryd.prog 9 #[.pointer (some ⟨g, 0, none⟩), .int .i64 j] w fun e w' => ∃ ao cap, e = .returned (.slice ao (notesF E (f + 1) j).length cap) ∧ isNtP (fun k => w.heap.size ≤ k ∧ k < w'.heap.size) (f + 1) w' ao cap (notesF E (f + 1) j) ∧ Below w.heap.size w w'
  | 0, j, w, hj, hj2, h, hk, hf => notesOf_step g B 0 x E hE hsz (fun i w' hi _ _ hf' => by omega) j hj hj2 w h hk (by omega)
  | f + 1, j, w, hj, hj2, h, hk, hf => notesOf_step g B (f + 1) x E hE hsz (fun i w' hi h' hk' hf' => notesOf_any g B x E hE hsz f i w' (by omega) (by omega) h' hk' (by omega)) j hj hj2 w h hk (by omega)
end Go.Proofs.YtdibjdpnleepmacDoor
