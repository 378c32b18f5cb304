/-
  package record, walked: parts.
-/
import Derived.Test.YtdibjdpnleepmacDoorN20
namespace Go.Proofs.YtdibjdpnleepmacDoor
open Go.RowKit
attribute [local go_sem ↓] Go.wp_at_zero Go.wp_at_succ

theorem infoStr : (Tryd.prog.info? 9).map (fun i => (i.zero, i.size, i.bytes)) = some (some (.string ⟨#[]⟩), 1, 16) := by kernel_rfl
theorem row_down {w : World} {base base' : Nat} {e : TypeId} {size n : Nat} {v : Value} {xs : List Value} (h : w.ownsRow base e size v n xs) (hb : base' ≤ base) : w.ownsRow base' e size v n xs := by
  obtain ⟨h1, h2⟩ := h
  refine ⟨h1, ?_⟩
  rcases h2 with h2 | ⟨g, cap, cur, e1, hbg, r⟩
  · exact .inl h2
  · exact .inr ⟨g, cap, cur, e1, Nat.le_trans hb hbg, r⟩
/-- A note in a box. -/
def isMb (w : World) (b : Nat) (mv cm : ByteArray) (v : Value) : Prop := w.heap[b]? = some (.cells #[.string mv, .string cm, v] 47 (0, 0))
theorem isMb.all {w : World} {b : Nat} {mv cm : ByteArray} {v : Value} (h : isMb w b mv cm v) : w.cell? ⟨b, 0, none⟩ = some (.string mv) ∧ w.cell? ⟨b, 1, none⟩ = some (.string cm) ∧ w.cell? ⟨b, 2, none⟩ = some v := by
  unfold isMb at h; simp [World.cell?, h]
theorem strs_app (A B : List (List UInt8)) : strs (A ++ B) = strs A ++ strs B := by simp [strs]
theorem strs_len (A : List (List UInt8)) : (strs A).length = A.length := by simp [strs]
theorem strs_one (A : List (List UInt8)) : ∀ u ∈ strs A, u.oneCell' = true := by
  intro u hu
  unfold strs at hu
  obtain ⟨x, -, rfl⟩ := List.mem_map.1 hu
  rfl
theorem ba_ext {a b : ByteArray} (h : a.data.toList = b.data.toList) : a = b := by rw [← ofL_of a, ← ofL_of b, h]
theorem app_list (a b : ByteArray) : (a ++ b).data.toList = a.data.toList ++ b.data.toList := by simp
theorem brack (S : ByteArray) (a b : UInt8) : (⟨#[a]⟩ : ByteArray) ++ S ++ ⟨#[b]⟩ = ofL (a :: (S.data.toList ++ [b])) := by
  apply ba_ext
  rw [app_list, app_list, ofL_list]
  simp
theorem run_append_none {P : Program} (w : World) (t ty e : TypeId) (i : TypeInfo) (ht : P.underlying t = some (.slice e)) (hi : P.info? e = some i) (b : Addr) (n cap : Nat) (hn : n ≤ cap) :
    (Builtin.append_ #[t, t] ty #[.slice (some b) n cap, .slice none 0 0]).run P w = .ok (.slice (some b) n cap) w := by
  simp [Builtin.append_, run_underlying ht, sizeOf, typeInfo, hi, Builtin.lenOf, Builtin.firstCells, loadCells, storeCells, hn]
theorem wpList_append_none {P : Program} {ops : Array Oper} {rest : List Oper} {o : Oper} {a : Act} {w : World} {Q : Exit → Act → World → Prop} (hgd : o.guard = none) (s x : Operand) (t : TypeId)
    (ho : o.op = .call { callee := .builtin .append, args := #[s, x], argTypes := #[t, t] }) (e : TypeId) (i : TypeInfo) (ht : P.underlying t = some (.slice e)) (hi : P.info? e = some i)
    (b : Addr) (n cap : Nat) (hs : a.eval s = .slice (some b) n cap) (hx : a.eval x = .slice none 0 0) (hn : n ≤ cap) (h : wpList P ops Q rest (a.put o.dst (.slice (some b) n cap)) w) : wpList P ops Q (o :: rest) a w := by
  refine wpList_plain hgd fun K hK => ?_
  have hr := run_append_none (P := P) w t o.type e i ht hi b n cap hn
  unfold Oper.wp execOp
  simp only [ho, resolve, invoke, builtin, Sem.run_bind, Sem.run_pure, Result.andThen_ok, List.map_toArray, List.map_cons, List.map_nil, hs, hx, hr]
  exact hK _ _ h
/-- One of a list of notes, alone. -/
theorem isNts.one {d : Nat} {w : World} {B g off cap : Nat} {l : List Nt} (h : isNts (d + 1) w B (some ⟨g, off, none⟩) cap l) {i : Nat} {t : Nt} (hi : l[i]? = some t) : isNts (d + 1) w B (some ⟨g, off + i * 3, none⟩) (cap - i) [t] := by
  obtain ⟨h1, h2, h3, h4⟩ := h
  have hlt := (List.getElem?_eq_some_iff.1 hi).1
  obtain ⟨g', off', e, hg, hc⟩ := h4 (by intro e; rw [e] at hlt; simp at hlt)
  cases e
  refine ⟨by simp only [List.length_cons, List.length_nil]; omega, by omega, fun e => by simp at e, fun _ => ⟨g, off + i * 3, rfl, hg, fun k t' hk => ?_⟩⟩
  have hk0 : k = 0 := by
    have := (List.getElem?_eq_some_iff.1 hk).1
    simp at this; omega
  subst hk0
  simp only [List.getElem?_cons_zero, Option.some.injEq] at hk
  subst hk
  have := hc i t hi
  rw [show off + i * 3 + 0 * 3 = off + i * 3 by omega]
  exact this
theorem cnt_one : ∀ (l : List Nt) (t : Nt), t ∈ l → cnt (foL [t]) ≤ cnt (foL l)
  | [], t, h => by simp at h
  | .mk mv cm nx :: l, t, h => by
    rw [foL_cons, cnt]
    rcases List.mem_cons.1 h with rfl | h
    · rw [foL_one, cnt, cnt]; omega
    · have := cnt_one l t h; omega

set_option maxHeartbeats 4000000 in
set_option maxRecDepth 100000 in
theorem parts_step (n : Nat)
    (IH : ∀ (d B : Nat) (ao : Option Addr) (cap : Nat) (l : List Nt) (w : World), B ≤ w.heap.size → isNts d w B ao cap l → cnt (foL l) ≤ n → (textL (foL l)).length ≤ 1000000 → Calls Tryd.prog 18 #[.slice ao l.length cap] w fun e w' => PartsEnd l w e w')
    (d B : Nat) (ao : Option Addr) (cap : Nat) (mv cm : ByteArray) (nx r : List Nt) (w : World) (hB : B ≤ w.heap.size) (hN : isNts (d + 1) w B ao cap (.mk mv cm nx :: r)) (hc : cnt (foL (.mk mv cm nx :: r)) ≤ n + 1) (hlen : (textL (foL (.mk mv cm nx :: r))).length ≤ 1000000) :
    Calls Tryd.prog 18 #[.slice ao (.mk mv cm nx :: r : List Nt).length cap] w fun e w' => PartsEnd (.mk mv cm nx :: r) w e w' := by
  have HN0 := hide hN
  obtain ⟨h1, h2, h3, h4⟩ := hN
  obtain ⟨g, off, rfl, hg, hcell⟩ := h4 (by simp)
  obtain ⟨z1, z2, no, nc, c0, c1, c2, hnx⟩ := hcell 0 (.mk mv cm nx) rfl
  rw [show off + 0 * 3 = off by omega] at c0 c1 c2
  rw [show (Nt.mk mv cm nx).mv = mv from rfl] at c0 z1
  rw [show (Nt.mk mv cm nx).cm = cm from rfl] at c1 z2
  rw [show (Nt.mk mv cm nx).nx = nx from rfl] at c2 hnx
  obtain ⟨l, hl⟩ : ∃ l : List Nt, l = .mk mv cm nx :: r := ⟨_, rfl⟩
  obtain ⟨m, hm⟩ : ∃ m, m = l.length := ⟨_, rfl⟩
  have hm1 : m = r.length + 1 := by rw [hm, hl]; rfl
  have hpc := parts_count l
  have hpl := parts_len l
  have hpp : partsL l = mv.data.toList :: (cmP cm ++ (r.map brkL ++ partsL nx)) := by rw [hl]; exact partsL_cons mv cm nx r
  rw [← hl] at h1 HN0 hc hlen ⊢
  rw [← hm] at h1 ⊢
  obtain ⟨p0, hp0⟩ : ∃ p0, p0 = (mv.data.toList :: cmP cm : List (List UInt8)) := ⟨_, rfl⟩
  have hplen : p0.length + r.length + (partsL nx).length ≤ 1000001 := by
    have : (partsL l).length = p0.length + r.length + (partsL nx).length := by rw [hpp, hp0]; simp; omega
    omega
  have hp0l : p0.length ≤ 2 := by rw [hp0]; unfold cmP; split <;> simp
  obtain ⟨wa, hwa⟩ : ∃ wa, wa = w.alloc (.cells #[.string mv, .string cm, .slice no nx.length nc] 47 (0, 0)) := ⟨_, rfl⟩
  have hba : Below w.heap.size w wa := by rw [hwa]; exact (Below.refl _ _).alloc (Nat.le_refl _) _
  have hsa : wa.heap.size = w.heap.size + 1 := by rw [hwa]; simp
  have hmb : isMb wa w.heap.size mv cm (.slice no nx.length nc) := by rw [hwa]; exact heap_alloc_new w _
  obtain ⟨b0, b1, b2⟩ := hmb.all
  have HMB := hide hmb
  have HBA := hide hba
  have HIH := hide IH
  have HNX := hide hnx
  have HC := hide hc
  have HLEN := hide hlen
  have HPL := hide hpl
  have HPP := hide hpp
  have HP0 := hide hp0
  have HL := hide hl
  have HM := hide hm
  clear IH hnx hcell h4 hm hl hpp hpl hp0 hc hlen hpc hmb hba
  have hm0 : ((m : Int) == 0) = false := by simp; omega
  have hm0n : (m == 0) = false := by simp; omega
  have hmi : (0 : Int) < (m : Int) := by omega
  have HM1 := hide hm1
  clear hm1
  unfold maxLen at h2
  obtain ⟨i0, hi, hz0, hz1, hz2⟩ := info_parts infoStr
  obtain ⟨cb, hcb⟩ : ∃ cb, (!cm.toList.isEmpty) = cb := ⟨_, rfl⟩
  have HCB : Hid (cb = !decide (cm.data.toList = [])) := by
    refine hide ?_
    rw [← hcb, Lib.toList_data]
    cases cm.data.toList <;> rfl
  go_enter Tryd.func18, Tryd.ntmps18
  go_upto_if 17 with fail
  rw [← hwa]
  have HWA := hide hwa
  clear hwa
  obtain ⟨wp, hwp⟩ : ∃ wp, wp = wa.alloc (.cells #[.string mv] 9 (0, 0)) := ⟨_, rfl⟩
  have hbp : Below wa.heap.size wa wp := by rw [hwp]; exact (Below.refl _ _).alloc (Nat.le_refl _) _
  have hsp : wp.heap.size = w.heap.size + 2 := by rw [hwp]; simp [hsa]
  have hrp : wp.ownsRow (w.heap.size + 1) 9 1 (.slice (some ⟨w.heap.size + 1, 0, none⟩) 1 1) 1 [.string mv] :=
    ⟨rfl, .inr ⟨w.heap.size + 1, 1, #[.string mv], rfl, Nat.le_refl _, by rw [hwp, ← hsa]; exact heap_alloc_new wa _, Nat.le_refl _, by unfold maxLen; omega, rfl, rfl⟩⟩
  rw [← hwp]
  have HRP := hide hrp
  have HBP : Hid (Below (w.heap.size + 1) wa wp) := hide (hbp.mono (by omega))
  have k1 : wp.cell? ⟨w.heap.size, 1, none⟩ = some (.string cm) := (hbp.cell (p := ⟨w.heap.size, 1, none⟩) (by simp only; omega)).trans b1
  have HSP := hide hsp
  have HSA := hide hsa
  clear hwp hbp hrp hsp hsa b0 b1 b2
  go_cut [4] (fun pv wc => wc.ownsRow (w.heap.size + 1) 9 1 pv p0.length (strs p0) ∧ Below (w.heap.size + 1) wa wc)
  case first =>
    clear hcb
    cases cb with
    | false =>
      have hce : cm.data.toList = [] := by have := unhide HCB; simpa using this
      have hq : p0 = [mv.data.toList] := by rw [unhide HP0]; unfold cmP; rw [if_pos hce]
      have HQ := hide hq
      clear hce hq
      go_wp2_with fail
      go_meet
      case rel =>
        rw [unhide HQ]
        refine ⟨?_, unhide HBP⟩
        have := unhide HRP
        simp only [strs, List.map_cons, List.map_nil, ofL_of, List.length_cons, List.length_nil]
        exact this
    | true =>
      have hce : ¬ cm.data.toList = [] := by have := unhide HCB; simpa using this
      have hq : p0 = [mv.data.toList, 123 :: (cm.data.toList ++ [125])] := by rw [unhide HP0]; unfold cmP; rw [if_neg hce]
      have HQ := hide hq
      clear hce hq
      obtain ⟨X1, hX1⟩ : ∃ X1, (⟨#[123]⟩ : ByteArray) ++ cm = X1 := ⟨_, rfl⟩
      have hx1 : X1.size ≤ 2000000 := by rw [← hX1, ByteArray.size_append, show (⟨#[123]⟩ : ByteArray).size = 1 from rfl]; omega
      obtain ⟨X, hX⟩ : ∃ X, X1 ++ (⟨#[125]⟩ : ByteArray) = X := ⟨_, rfl⟩
      have hXX : X = ofL (123 :: (cm.data.toList ++ [125])) := by rw [← hX, ← hX1, brack]
      have HXX := hide hXX
      have s1 : (⟨#[123]⟩ : ByteArray).size + cm.size ≤ 9223372036854775807 := by rw [show (⟨#[123]⟩ : ByteArray).size = 1 from rfl]; omega
      have s2 : X1.size + (⟨#[125]⟩ : ByteArray).size ≤ 9223372036854775807 := by rw [show (⟨#[125]⟩ : ByteArray).size = 1 from rfl]; omega
      clear hXX
      have HNW : Hid (∀ (jj : Nat) (u : Value), [Value.string X][jj]? = some u → (wp.alloc (.cells #[.string X] 9)).cell? ((⟨wp.heap.size, 0, none⟩ : Addr).add jj) = some u) := by
        refine hide fun jj u hj => ?_
        match jj, hj with
        | 0, hj => simp at hj; subst hj; simp [Addr.add]
      have HNW2 : Hid (∀ u ∈ [Value.string X], u.oneCell' = true) := hide fun u hu => by simp only [List.mem_singleton] at hu; subst hu; rfl
      have HNW3 : Hid (w.heap.size + 1 ≤ (wp.alloc (.cells #[.string X] 9)).heap.size) := hide (by have := unhide HSP; simp; omega)
      go_wp2_with (at_builtin; refine wpList_append_own _ rfl (.tmp 18) (.tmp 23) 57 rfl (w.heap.size + 1) 9 i0 (.string ⟨#[]⟩) 1 16 Tryd.underlying57 hi hz0 hz1 hz2 rfl (by decide) _ 1 [.string mv] rfl ((unhide HRP).alloc _) ⟨wp.heap.size, 0, none⟩ 1 1 [.string X] rfl rfl (by intro jj u hj; exact unhide HNW jj u hj) (by intro u hu; exact unhide HNW2 u hu) (by unfold maxLen; omega) (by omega) (unhide HNW3) ?_; intro v' w1 hown1 hgrow1 hnil1)
      go_meet
      case rel =>
        refine ⟨?_, ?_⟩
        · rw [unhide HQ]
          simp only [strs, List.map_cons, List.map_nil, ofL_of, ← unhide HXX, List.length_cons, List.length_nil]
          exact hown1
        · have h5 : Below (w.heap.size + 1) (wp.alloc (.cells #[.string X] 9)) w1 := (Below.refl _ _).grown hgrow1 (unhide HNW3) (own_low (unhide HRP))
          exact ((unhide HBP).trans (((Below.refl _ wp).alloc (Nat.le_refl _) _).mono (by have := unhide HSP; omega))).trans h5
  case rest =>
    obtain ⟨hrow0, hb0⟩ := hcut
    have HROW0 := hide hrow0
    have HB0 := hide hb0
    clear hrow0 hb0 c0 c1 c2 k1 hcb
    go_wp2
    go_loopw [4, 5] (fun pv iv wr => ∃ i : Nat, iv = .int .i64 (i : Int) ∧ 1 ≤ i ∧ i ≤ m ∧ wr.ownsRow (w.heap.size + 1) 9 1 pv (p0.length + (i - 1)) (strs (p0 ++ (r.take (i - 1)).map brkL)) ∧ Below (w.heap.size + 1) wa wr) (fun _ iv _ => m - (intOf iv).toNat)
    case atStart =>
      refine ⟨1, rfl, Nat.le_refl _, by omega, ?_, unhide HB0⟩
      simp only [Nat.sub_self, List.take_zero, List.map_nil, List.append_nil, Nat.add_zero]
      exact unhide HROW0
    case round =>
      obtain ⟨i, rfl, hi1, him, hrow, hb⟩ := hrel
      have hmm : m ≤ 1000002 := by have := unhide HM1; omega
      by_cases hlt : i < m
      · have hlti : (i : Int) < (m : Int) := by omega
        obtain ⟨t, ht⟩ : ∃ t, r[i - 1]? = some t := ⟨_, List.getElem?_eq_getElem (by have := unhide HM1; omega)⟩
        have hlt' : l[i]? = some t := by rw [unhide HL]; obtain ⟨j, rfl⟩ : ∃ j, i = j + 1 := ⟨i - 1, by omega⟩; simpa using ht
        have HT := hide ht
        have HTL := hide hlt'
        have hwr : Below w.heap.size w wr := (unhide HBA).trans (hb.mono (Nat.le_succ _))
        have hone : isNts (d + 1) wr B (some ⟨g, off + i * 3, none⟩) (cap - i) [t] := isNts.one (isNts.below hwr (by omega) _ _ _ _ (unhide HN0)) hlt'
        have htm : t ∈ r := List.mem_of_getElem? ht
        have hcn : cnt (foL [t]) ≤ n := by
          have h5 := cnt_one r t htm
          have h6 := unhide HC
          rw [unhide HL, foL_cons, cnt] at h6
          omega
        have hbr : brkL t ∈ partsL l := by rw [unhide HPP]; simp only [List.mem_cons, List.mem_append]; exact .inr (.inr (.inl (List.mem_map_of_mem htm)))
        have hbl := unhide HPL _ hbr
        have hlenl := unhide HLEN
        have htl : (textL (foL [t])).length + 2 ≤ 1000000 := by unfold brkL at hbl; simp only [List.length_cons, List.length_append, List.length_nil] at hbl; omega
        have hsw : w.heap.size ≤ wr.heap.size := hwr.size
        have HTX := hide (recText_of (some ⟨g, off + i * 3, none⟩) (cap - i) [t] wr (unhide HIH (d + 1) B _ _ [t] wr (by omega) hone hcn (by omega)) (by omega))
        have HROW := hide hrow
        have HB := hide hb
        clear hrow hb ht hlt' hwr hone hbr hbl hlenl
        go_wp2_with fail
        refine (unhide HTX).mono ?_
        rintro e w2 ⟨rfl, hb2⟩
        obtain ⟨S, hS⟩ : ∃ S, S = ofL (textL (foL [t])) := ⟨_, rfl⟩
        rw [← hS]
        have hss : S.size + 2 ≤ 1000000 := by rw [hS, size_ofL]; exact htl
        obtain ⟨X1, hX1⟩ : ∃ X1, (⟨#[40]⟩ : ByteArray) ++ S = X1 := ⟨_, rfl⟩
        have hx1 : X1.size ≤ 2000000 := by rw [← hX1, ByteArray.size_append, show (⟨#[40]⟩ : ByteArray).size = 1 from rfl]; omega
        obtain ⟨X, hX⟩ : ∃ X, X1 ++ (⟨#[41]⟩ : ByteArray) = X := ⟨_, rfl⟩
        have hXX : X = ofL (brkL t) := by rw [← hX, ← hX1, brack, hS, ofL_list]; rfl
        have HXX := hide hXX
        have s1 : (⟨#[40]⟩ : ByteArray).size + S.size ≤ 9223372036854775807 := by rw [show (⟨#[40]⟩ : ByteArray).size = 1 from rfl]; omega
        have s2 : X1.size + (⟨#[41]⟩ : ByteArray).size ≤ 9223372036854775807 := by rw [show (⟨#[41]⟩ : ByteArray).size = 1 from rfl]; omega
        have hrow2 := row_keep (w' := w2) (unhide HROW) (fun k _ hk => hb2.block k hk)
        have hs2 : wr.heap.size ≤ w2.heap.size := hb2.size
        have hsr : w.heap.size + 1 ≤ wr.heap.size := by have := (unhide HB).size; have := unhide HSA; omega
        have HB2 : Hid (Below (w.heap.size + 1) wa w2) := hide ((unhide HB).trans (hb2.mono hsr))
        have HROW2 := hide hrow2
        have HNW : Hid (∀ (jj : Nat) (u : Value), [Value.string X][jj]? = some u → (w2.alloc (.cells #[.string X] 9)).cell? ((⟨w2.heap.size, 0, none⟩ : Addr).add jj) = some u) := by
          refine hide fun jj u hj => ?_
          match jj, hj with
          | 0, hj => simp at hj; subst hj; simp [Addr.add]
        have HNW2 : Hid (∀ u ∈ [Value.string X], u.oneCell' = true) := hide fun u hu => by simp only [List.mem_singleton] at hu; subst hu; rfl
        have HNW3 : Hid (w.heap.size + 1 ≤ (w2.alloc (.cells #[.string X] 9)).heap.size) := hide (by simp; omega)
        obtain ⟨q, hq⟩ : ∃ q, q = p0.length + (i - 1) := ⟨_, rfl⟩
        obtain ⟨PS, hPS⟩ : ∃ PS, PS = strs (p0 ++ (r.take (i - 1)).map brkL) := ⟨_, rfl⟩
        rw [← hq, ← hPS] at HROW2
        have hqb : q ≤ 1000004 := by omega
        have HQ := hide hq
        have HPS := hide hPS
        have HQB := hide hqb
        clear hXX hS hb2 hrow2 hq hPS hqb hs2 hsr
        go_wp2_with (at_builtin; refine wpList_append_own _ rfl (.tmp 31) (.tmp 40) 57 rfl (w.heap.size + 1) 9 i0 (.string ⟨#[]⟩) 1 16 Tryd.underlying57 hi hz0 hz1 hz2 rfl (by decide) u4 q PS rfl ((unhide HROW2).alloc _) ⟨w2.heap.size, 0, none⟩ 1 1 [.string X] rfl rfl (by intro jj u hj; exact unhide HNW jj u hj) (by intro u hu; exact unhide HNW2 u hu) (by have := unhide HQB; unfold maxLen; omega) (by have := unhide HQB; omega) (unhide HNW3) ?_; intro v' w1 hown1 hgrow1 hnil1)
        go_roundw
        case rel =>
          refine ⟨i + 1, by go_num, by omega, by omega, ?_, ?_⟩
          · rw [show p0.length + (i + 1 - 1) = q + 1 by rw [unhide HQ]; omega]
            have hst : strs (p0 ++ (r.take (i + 1 - 1)).map brkL) = PS ++ [.string X] := by
              rw [unhide HPS, unhide HXX, show i + 1 - 1 = (i - 1) + 1 by omega, List.take_add_one, unhide HT]
              simp [strs]
            rw [hst]
            exact hown1
          · have h5 : Below (w.heap.size + 1) (w2.alloc (.cells #[.string X] 9)) w1 := (Below.refl _ _).grown hgrow1 (unhide HNW3) (own_low (unhide HROW2))
            exact ((unhide HB2).trans (((Below.refl _ w2).alloc (Nat.le_refl _) _).mono (by have := unhide HNW3; have h7 := (unhide HB2).size; have := unhide HSA; omega))).trans h5
        case measure => simp only [intOf]; omega
      · have hlti : ¬ (i : Int) < (m : Int) := by omega
        have hie : i - 1 = r.length := by have := unhide HM1; omega
        rw [hie, List.take_length] at hrow
        have hwr : Below w.heap.size w wr := (unhide HBA).trans (hb.mono (Nat.le_succ _))
        have hsr : w.heap.size + 1 ≤ wr.heap.size := by have := hb.size; have := unhide HSA; omega
        have b2 : wr.cell? ⟨w.heap.size, 2, none⟩ = some (.slice no nx.length nc) := (hb.cell (p := ⟨w.heap.size, 2, none⟩) (Nat.lt_succ_self _)).trans (unhide HMB).all.2.2
        have hcn : cnt (foL nx) ≤ n := by
          have h6 := unhide HC
          rw [unhide HL, foL_cons, cnt] at h6
          omega
        have hnl : (textL (foL nx)).length ≤ 1000000 := by
          have h6 := unhide HLEN
          have h7 := parts_text nx
          rw [unhide HL, foL_cons, textL_cons] at h6
          have h8 : (textL (foL nx)).length ≤ (nxT (foL nx)).length := by
            cases nx with
            | nil => rw [foL_nil, textL]; exact Nat.zero_le _
            | cons a b =>
              cases a with
              | mk x y z => rw [foL_cons]; show _ ≤ (32 :: textL _).length; rw [List.length_cons]; omega
          simp only [List.length_append] at h6
          omega
        have HPN := hide (unhide HIH d B no nc nx wr (by omega) (isNts.below hwr (by omega) _ _ _ _ (unhide HNX)) hcn hnl)
        have HROW := hide hrow
        have HB := hide hb
        clear hrow hb hwr hie hcn hnl
        go_wp2_with fail
        refine (unhide HPN).mono ?_
        rintro e w2 ⟨⟨v2, rfl, hrow2⟩, hb2⟩
        have hrw2 := row_keep (w' := w2) (unhide HROW) (fun k _ hk => hb2.block k hk)
        have hs2 : wr.heap.size ≤ w2.heap.size := hb2.size
        have hbw2 : Below (w.heap.size + 1) wa w2 := (unhide HB).trans (hb2.mono hsr)
        obtain ⟨q, hq⟩ : ∃ q, q = p0.length + r.length := ⟨_, rfl⟩
        obtain ⟨PS, hPS⟩ : ∃ PS, PS = strs (p0 ++ r.map brkL) := ⟨_, rfl⟩
        rw [← hq, ← hPS] at hrw2
        have hqb : q + (partsL nx).length ≤ 1000001 := by omega
        have hfin : partsL l = p0 ++ r.map brkL ++ partsL nx := by rw [unhide HPP, unhide HP0]; simp
        have HQ := hide hq
        have HPS := hide hPS
        have HQB := hide hqb
        have HFIN := hide hfin
        have HB2 := hide hbw2
        have HRW2 := hide hrw2
        have HS2 := hide hs2
        have HSR := hide hsr
        clear hq hPS hqb hfin hbw2 hs2
        rcases hrow2.2 with ⟨h5, h6⟩ | ⟨bk, cp, cur, h5, hbk, hgk, hnk, hck, -⟩
        · subst h5
          have hp1 : 1 ≤ p0.length := by rw [unhide HP0]; simp
          have hnil : partsL nx = [] := List.eq_nil_of_length_eq_zero (by omega)
          rcases hrw2.2 with ⟨h7, h8⟩ | ⟨bk, cp, cur, h7, hbk, hgk, hnk, hck, -⟩
          · have := unhide HQ; omega
          · subst h7
            have HNIL := hide hnil
            clear hrow2 hbk hgk hck hrw2 h6 hp1 hnil
            go_wp2_with (at_builtin; refine wpList_append_none rfl (.tmp 42) (.tmp 45) 57 rfl 9 i0 Tryd.underlying57 hi ⟨bk, 0, none⟩ q cp rfl rfl hnk ?_)
            go_ret
            refine ⟨⟨_, rfl, ?_⟩, (unhide HBA).trans ((unhide HB2).mono (Nat.le_succ _))⟩
            rw [unhide HFIN, unhide HNIL, List.append_nil]
            have h9 := row_down (base' := w.heap.size) (unhide HRW2) (Nat.le_succ _)
            rw [unhide HPS] at h9
            rw [List.length_append, List.length_map, ← unhide HQ]
            exact h9
        · have hcl := World.ownsRow.cells hrow2 (g := bk) (by rw [h5]; rfl)
          subst h5
          have HCL := hide hcl
          clear hrow2 hcl hbk hgk hnk hck hrw2
          go_wp2_with (at_builtin; refine wpList_append_own _ rfl (.tmp 42) (.tmp 45) 57 rfl (w.heap.size + 1) 9 i0 (.string ⟨#[]⟩) 1 16 Tryd.underlying57 hi hz0 hz1 hz2 rfl (by decide) u4 q PS rfl (unhide HRW2) ⟨bk, 0, none⟩ (partsL nx).length cp (strs (partsL nx)) rfl (by rw [strs_len, Nat.mul_one]) (by intro jj u hj; exact unhide HCL jj u hj) (by intro u hu; exact strs_one _ u hu) (by have := unhide HQB; unfold maxLen; omega) (by have := unhide HQB; omega) (by have := unhide HS2; have := unhide HSR; omega) ?_; intro v' w1 hown1 hgrow1 hnil1)
          go_ret
          have h5 : Below (w.heap.size + 1) w2 w1 := (Below.refl _ _).grown hgrow1 (by have := unhide HS2; have := unhide HSR; omega) (own_low (unhide HRW2))
          refine ⟨⟨_, rfl, ?_⟩, (unhide HBA).trans (((unhide HB2).trans h5).mono (Nat.le_succ _))⟩
          have h9 := row_down (base' := w.heap.size) hown1 (Nat.le_succ _)
          rw [unhide HPS, ← strs_app, unhide HQ] at h9
          rw [unhide HFIN, List.length_append, List.length_append, List.length_map]
          exact h9
set_option maxHeartbeats 1000000 in
theorem parts_nil (ao : Option Addr) (cap : Nat) (w : World) : Calls Tryd.prog 18 #[.slice ao 0 cap] w fun e w' => PartsEnd [] w e w' := by
  go_enter Tryd.func18, Tryd.ntmps18
  go_wp2
  go_ret
  refine ⟨⟨_, rfl, ?_⟩, Below.refl _ _⟩
  rw [partsL_nil]
  exact ⟨rfl, .inl ⟨rfl, rfl⟩⟩
theorem parts_any : ∀ (n d B : Nat) (ao : Option Addr) (cap : Nat) (l : List Nt) (w : World), B ≤ w.heap.size → isNts d w B ao cap l → cnt (foL l) ≤ n → (textL (foL l)).length ≤ 1000000 → Calls Tryd.prog 18 #[.slice ao l.length cap] w fun e w' => PartsEnd l w e w'
  | n, 0, B, ao, cap, l, w, hB, hN, hc, hl => by
    obtain ⟨rfl, -⟩ := hN
    exact parts_nil ao cap w
  | n, d + 1, B, ao, cap, [], w, hB, hN, hc, hl => parts_nil ao cap w
  | 0, d + 1, B, ao, cap, .mk mv cm nx :: r, w, hB, hN, hc, hl => by rw [foL_cons, cnt] at hc; omega
  | n + 1, d + 1, B, ao, cap, .mk mv cm nx :: r, w, hB, hN, hc, hl => parts_step n (parts_any n) d B ao cap mv cm nx r w hB hN hc hl
end Go.Proofs.YtdibjdpnleepmacDoor
