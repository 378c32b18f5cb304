/-
  package table, walked: settle.
-/
import Derived.Test.YtbijadnekoeofaaGreatDoorJ33
import Derived.BigQuiet
import Derived.Shelf.Abstract
import Derived.Deep.RegionLawGrows
namespace Go.Proofs.YtbijadnekoeofaaGreatDoor
open Go.RowKit Go.Shelf
attribute [local go_sem ↓] Go.wp_at_zero Go.wp_at_succ

def isK (v0 : Nat → Nat) (i : Nat) : Bool := v0 i == 1 || v0 i == 2
def kN (v0 : Nat → Nat) (k : Nat) : List Nat := (List.range k).filter (isK v0)
theorem kN_succ (v0 : Nat → Nat) (k : Nat) : kN v0 (k + 1) = kN v0 k ++ (if isK v0 k then [k] else []) := by
  unfold kN
  rw [List.range_succ, List.filter_append]
  congr 1
  cases h : isK v0 k <;> simp [h]
theorem kN_len (v0 : Nat → Nat) (k : Nat) : (kN v0 k).length ≤ k := by
  unfold kN
  have := List.length_filter_le (isK v0) (List.range k)
  simpa using this
/-- What is left is even. -/
def fxN (n : Nd) : Nd := if n.v = 0 then { n with v := 3 } else n
/-- The first t of them. -/
def FX (nds : List Nd) (t : Nat) (ndt : List Nd) : Prop := ndt.length = nds.length ∧ ∀ (a : Nat) (n : Nd), ndt[a]? = some n → ∃ n0, nds[a]? = some n0 ∧ n = if a < t then fxN n0 else n0
theorem FX.set {nds ndt : List Nd} {t : Nat} (h : FX nds t ndt) {y : Nd} (hy : ndt[t]? = some y) (hy0 : nds[t]? = some y) : FX nds (t + 1) (ndt.set t (fxN y)) := by
  have ht := (List.getElem?_eq_some_iff.1 hy).1
  refine ⟨by rw [List.length_set]; exact h.1, fun a n hn => ?_⟩
  by_cases ha : t = a
  · subst ha
    rw [List.getElem?_set_self ht] at hn
    cases hn
    exact ⟨y, hy0, by rw [if_pos (by omega)]⟩
  · rw [List.getElem?_set_ne ha] at hn
    obtain ⟨n0, h1, h2⟩ := h.2 a n hn
    refine ⟨n0, h1, ?_⟩
    rw [h2]
    by_cases hat : a < t
    · rw [if_pos hat, if_pos (by omega)]
    · rw [if_neg hat, if_neg (by omega)]
theorem fxN_same (n : Nd) : (fxN n).p = n.p ∧ (fxN n).fr = n.fr ∧ (fxN n).fo = n.fo ∧ (fxN n).fc = n.fc := by
  unfold fxN
  split <;> exact ⟨rfl, rfl, rfl, rfl⟩
theorem sameN.fx {nds0 nds ndt : List Nd} (h : sameN nds0 nds) {t : Nat} (hf : FX nds t ndt) : sameN nds0 ndt := by
  refine ⟨hf.1.trans h.1, fun a n hn => ?_⟩
  obtain ⟨n0, h1, h2⟩ := hf.2 a n hn
  obtain ⟨m, a1, a2, a3, a4, a5⟩ := h.2 a n0 h1
  obtain ⟨b1, b2, b3, b4⟩ := fxN_same n0
  refine ⟨m, a1, ?_⟩
  rw [h2]
  split
  · exact ⟨b1.trans a2, b2.trans a3, b3.trans a4, b4.trans a5⟩
  · exact ⟨a2, a3, a4, a5⟩
theorem Cons.cong {N : Nat} {nxt : Nat → List Nat} {v0 : Nat → Nat} {A B : Nat → Nat × Nat} (h : Cons N nxt v0 A) (hn : ∀ i, i < N → ∀ j ∈ nxt i, j < N) (he : ∀ i, i < N → B i = A i) : Cons N nxt v0 B := by
  refine ⟨fun i hi h0 => (he i hi).trans (h.over i hi h0), fun i hi h0 => ?_⟩
  rw [he i hi]
  rcases h.play i hi h0 with ⟨a1, ⟨j, hj, a2, a3⟩, a4⟩ | ⟨a1, a2, j, hj, a3⟩ | ⟨a1, a2, j, hj, a3⟩
  · exact .inl ⟨a1, ⟨j, hj, by rw [he j (hn i hi j hj)]; exact a2, by rw [he j (hn i hi j hj)]; exact a3⟩, fun x hx => by rw [he x (hn i hi x hx)]; exact a4 x hx⟩
  · exact .inr (.inl ⟨a1, fun x hx => by rw [he x (hn i hi x hx)]; exact a2 x hx, j, hj, by rw [he j (hn i hi j hj)]; exact a3⟩)
  · exact .inr (.inr ⟨a1, fun x hx => by rw [he x (hn i hi x hx)]; exact a2 x hx, j, hj, by rw [he j (hn i hi j hj)]; exact a3⟩)
/-- A node in a box. -/
def isNb (w : World) (g : Nat) (m : Nd) : Prop := w.heap[g]? = some (.cells #[.int .i64 m.p.W, .int .i64 m.p.H, .string m.p.C, .int .i64 m.p.T, .string m.p.A, .string m.p.B, .int .i64 m.v, .int .i64 m.d, .slice m.fo m.fr.length m.fc, .int .i64 m.l] 54 (0, 0))
theorem SM.learn3 {base gN cap : Nat} {w : World} {nds : List Nd} {ko : Option Addr} {kc : Nat} {known : List Nat} {u : World} (h : SM base gN cap w nds ko kc known u) {i : Nat} {n : Nd} (hn : nds[i]? = some n) (v d : Int) : SM base gN cap w (nds.set i { n with l := n.l - 1, v := v, d := d }) ko kc known (((u.setCell ⟨gN, i * 10 + 9, none⟩ (.int .i64 (n.l - 1))).setCell ⟨gN, i * 10 + 6, none⟩ (.int .i64 v)).setCell ⟨gN, i * 10 + 7, none⟩ (.int .i64 d)) := by
  have hi := (List.getElem?_eq_some_iff.1 hn).1
  have h1 := h.set (n' := { n with l := n.l - 1 }) hn 9 (by omega) (.int .i64 (n.l - 1)) rfl rfl rfl rfl
  have h2 := h1.set (i := i) (n := { n with l := n.l - 1 }) (n' := { n with l := n.l - 1, v := v }) (List.getElem?_set_self hi) 6 (by omega) (.int .i64 v) rfl rfl rfl rfl
  rw [List.set_set] at h2
  have h3 := h2.set (i := i) (n := { n with l := n.l - 1, v := v }) (n' := { n with l := n.l - 1, v := v, d := d }) (List.getElem?_set_self hi) 7 (by omega) (.int .i64 d) rfl rfl rfl rfl
  rw [List.set_set] at h3
  exact h3
/-- What settle leaves. -/
def SeE (nxt : Nat → List Nat) (v0 : Nat → Nat) (base gN cap : Nat) (nds0 : List Nd) (w : World) (e : Ending) (w' : World) : Prop := e = .returned (.tuple #[]) ∧ ∃ nds', NdR w' base gN cap nds' ∧ sameN nds0 nds' ∧ Cons nds0.length nxt v0 (aOf nds') ∧ (∀ (i : Nat) (n : Nd), nds'[i]? = some n → 0 ≤ n.v ∧ 0 ≤ n.d) ∧ w.grownBy w' (some gN)
set_option maxHeartbeats 4000000 in
set_option maxRecDepth 100000 in
theorem settle_walk (nxt : Nat → List Nat) (v0 : Nat → Nat) (fr : Nat → List Nat) (base gN cap : Nat) (nds0 : List Nd) (w : World) (hN5 : nds0.length ≤ 5000) (hnd : NdR w base gN cap nds0)
    (hv : ∀ (i : Nat) (n : Nd), nds0[i]? = some n → n.v = (v0 i : Int) ∧ n.d = 0 ∧ n.l = ((nxt i).length : Int) ∧ n.fr = fr i)
    (hne : ∀ i, i < nds0.length → v0 i = 0 → nxt i ≠ []) (hnN : ∀ i, i < nds0.length → ∀ j ∈ nxt i, j < nds0.length) (hfr : ∀ i j, i < nds0.length → (fr j).count i = (nxt i).count j) (hfN : ∀ j, ∀ i ∈ fr j, i < nds0.length) (hlen : ∀ i, (nxt i).length ≤ 4608) :
    Calls Tryz.prog 14 #[.slice (some ⟨gN, 0, none⟩) nds0.length cap] w (SeE nxt v0 base gN cap nds0 w) := by
  obtain ⟨n, hn⟩ : ∃ n, n = nds0.length := ⟨_, rfl⟩
  have hix := hnd.ix
  have hSM0 := SM.start hnd
  rw [← hn] at hix
  obtain ⟨hix1, hix2⟩ := hix
  unfold maxLen at hix2
  have hn5 : n ≤ 5000 := by rw [hn]; exact hN5
  have HS0 := hide hSM0
  have HN := hide hn
  have HV := hide hv
  have HNE := hide hne
  have HNN := hide hnN
  have HFR := hide hfr
  have HFN := hide hfN
  have HLE := hide hlen
  rw [← hn]
  clear hSM0 hn hv hne hnN hfr hfN hlen hnd hN5
  go_enter Tryz.func14, Tryz.ntmps14
  go_wp2
  go_loopw [2, 12] (fun lv kv wr => ∃ (k m : Nat) (ko : Option Addr) (kc : Nat), lv = .slice ko m kc ∧ kv = .int .i64 (k : Int) ∧ k ≤ n ∧ Hid ((kN v0 k).length = m) ∧ Hid (SM base gN cap w nds0 ko kc (kN v0 k) wr)) (fun _ kv _ => n - (intOf kv).toNat)
  case atStart => exact ⟨0, 0, none, 0, rfl, rfl, Nat.zero_le _, hide rfl, HS0⟩
  case round =>
    obtain ⟨k, m, ko, kc, rfl, rfl, hk, HM, HSM⟩ := hrel
    rename World => wr
    by_cases hlt : k < n
    · have hlti : (k : Int) < (n : Int) := by omega
      have hk0 : (0 : Int) ≤ (k : Int) := by omega
      obtain ⟨x, hx⟩ : ∃ x, nds0[k]? = some x := ⟨_, List.getElem?_eq_getElem (by rw [← unhide HN]; exact hlt)⟩
      obtain ⟨xv, -, -, -⟩ := unhide HV k x hx
      have hsm := unhide HSM
      have c0 : wr.cell? ⟨gN, k * 10, none⟩ = some (.int .i64 x.p.W) := (hsm.nd.cell hx 0 (by omega)).1
      have c1 : wr.cell? ⟨gN, k * 10 + 1, none⟩ = some (.int .i64 x.p.H) := (hsm.nd.cell hx 1 (by omega)).1
      have c2 : wr.cell? ⟨gN, k * 10 + 2, none⟩ = some (.string x.p.C) := (hsm.nd.cell hx 2 (by omega)).1
      have c3 : wr.cell? ⟨gN, k * 10 + 3, none⟩ = some (.int .i64 x.p.T) := (hsm.nd.cell hx 3 (by omega)).1
      have c4 : wr.cell? ⟨gN, k * 10 + 4, none⟩ = some (.string x.p.A) := (hsm.nd.cell hx 4 (by omega)).1
      have c5 : wr.cell? ⟨gN, k * 10 + 5, none⟩ = some (.string x.p.B) := (hsm.nd.cell hx 5 (by omega)).1
      have c6 : wr.cell? ⟨gN, k * 10 + 6, none⟩ = some (.int .i64 x.v) := (hsm.nd.cell hx 6 (by omega)).1
      have c7 : wr.cell? ⟨gN, k * 10 + 7, none⟩ = some (.int .i64 x.d) := (hsm.nd.cell hx 7 (by omega)).1
      have c8 : wr.cell? ⟨gN, k * 10 + 8, none⟩ = some (.slice x.fo x.fr.length x.fc) := (hsm.nd.cell hx 8 (by omega)).1
      have c9 : wr.cell? ⟨gN, k * 10 + 9, none⟩ = some (.int .i64 x.l) := (hsm.nd.cell hx 9 (by omega)).1
      obtain ⟨wb, hwb⟩ : ∃ wb, wb = wr.alloc (.cells #[.int .i64 x.p.W, .int .i64 x.p.H, .string x.p.C, .int .i64 x.p.T, .string x.p.A, .string x.p.B, .int .i64 x.v, .int .i64 x.d, .slice x.fo x.fr.length x.fc, .int .i64 x.l] 54 (0, 0)) := ⟨_, rfl⟩
      have hbb : Below wr.heap.size wr wb := by rw [hwb]; exact (Below.refl _ _).alloc (Nat.le_refl _) _
      have hnb : isNb wb wr.heap.size x := by rw [hwb]; exact heap_alloc_new wr _
      have b6 : wb.cell? ⟨wr.heap.size, 6, none⟩ = some (.int .i64 x.v) := by unfold isNb at hnb; simp [World.cell?, hnb]
      have hsb := hsm.below hbb
      have hml : (kN v0 k).length ≤ 5000 := by have := kN_len v0 k; omega
      obtain ⟨ko2, kc2, u2, hrun, hs2, -, -⟩ := hsb.push k hml
      have hm := unhide HM
      rw [hm] at hrun
      obtain ⟨m2, hm2⟩ : ∃ m2, m2 = m + 1 := ⟨_, rfl⟩
      rw [← hm2] at hrun
      have HWB := hide hwb
      by_cases h12 : x.v = 1 ∨ x.v = 2
      · have hkK : kN v0 (k + 1) = kN v0 k ++ [k] := by
          rw [kN_succ, if_pos (by unfold isK; rcases h12 with h | h <;> (rw [xv] at h; simp; omega))]
        have HS2 : Hid (SM base gN cap w nds0 ko2 kc2 (kN v0 (k + 1)) u2) := hide (by rw [hkK]; exact hs2)
        have HM2 : Hid ((kN v0 (k + 1)).length = m2) := hide (by rw [hkK, List.length_append, hm, hm2]; rfl)
        rcases h12 with h1 | h1
        · have e1 : (x.v == 1) = true := by simp [h1]
          clear hx xv hsm hwb hbb hnb hsb hml hs2 hm hm2 hkK h1 HSM HM
          go_upto_region 4 with fail
          rw [← unhide HWB]
          clear HWB c0 c1 c2 c3 c4 c5 c6 c7 c8 c9
          go_wp2_with (first | (at_builtin; refine wpList_appRun rfl _ _ 52 rfl _ _ _ _ rfl rfl hrun ?_) | go_in)
          go_roundw
          case rel => exact ⟨k + 1, m2, ko2, kc2, rfl, by go_num, by omega, HM2, HS2⟩
          case measure => simp only [intOf]; omega
        · have e1 : (x.v == 1) = false := by simp [h1]
          have e2 : (x.v == 2) = true := by simp [h1]
          clear hx xv hsm hwb hbb hnb hsb hml hs2 hm hm2 hkK h1 HSM HM
          go_upto_region 4 with fail
          rw [← unhide HWB]
          clear HWB c0 c1 c2 c3 c4 c5 c6 c7 c8 c9
          go_wp2_with (first | (at_builtin; refine wpList_appRun rfl _ _ 52 rfl _ _ _ _ rfl rfl hrun ?_) | go_in)
          go_roundw
          case rel => exact ⟨k + 1, m2, ko2, kc2, rfl, by go_num, by omega, HM2, HS2⟩
          case measure => simp only [intOf]; omega
      · have e1 : (x.v == 1) = false := by simp; omega
        have e2 : (x.v == 2) = false := by simp; omega
        have hkK : kN v0 (k + 1) = kN v0 k := by
          rw [kN_succ, if_neg (by unfold isK; simp; omega), List.append_nil]
        have HS2 : Hid (SM base gN cap w nds0 ko kc (kN v0 (k + 1)) wb) := hide (by rw [hkK]; exact hsb)
        have HM2 : Hid ((kN v0 (k + 1)).length = m) := hide (by rw [hkK]; exact hm)
        clear hx xv hsm hwb hbb hnb hsb hml hs2 hm hm2 hkK h12 HSM HM hrun
        go_upto_region 4 with fail
        rw [← unhide HWB]
        clear HWB c0 c1 c2 c3 c4 c5 c6 c7 c8 c9
        go_wp2
        go_roundw
        case rel => exact ⟨k + 1, m, ko, kc, rfl, by go_num, by omega, HM2, HS2⟩
        case measure => simp only [intOf]; omega
    · have hlti : ¬ (k : Int) < (n : Int) := by omega
      have hke : k = n := by omega
      subst hke
      have hSI0 : SI nxt v0 fr nds0 nds0 (kN v0 k) 0 0 := by
        have hA : ∀ i, i < nds0.length → aOf nds0 i = (v0 i, 0) := fun i hi => by
          obtain ⟨x, hx⟩ : ∃ x, nds0[i]? = some x := ⟨_, List.getElem?_eq_getElem hi⟩
          obtain ⟨a1, a2, -, -⟩ := unhide HV i x hx
          rw [aOf_at hx, a1, a2]
          rfl
        have hK : ∀ j, j ∈ kN v0 k ↔ j < nds0.length ∧ (v0 j = 1 ∨ v0 j = 2) := fun j => by
          unfold kN isK
          rw [List.mem_filter, List.mem_range, unhide HN]
          simp
        refine ⟨QI.start _ (unhide HNE) hK (List.Pairwise.filter _ List.nodup_range) hA (fun i hi => ?_), sameN.refl _, fun i x hx => ?_, fun a x hx => ?_⟩
        · obtain ⟨x, hx⟩ : ∃ x, nds0[i]? = some x := ⟨_, List.getElem?_eq_getElem hi⟩
          rw [lOf_at hx]
          exact (unhide HV i x hx).2.2.1
        · obtain ⟨a1, a2, -, -⟩ := unhide HV i x hx
          omega
        · rw [hA x ((hK x).1 (List.mem_of_getElem? hx)).1]
          exact Nat.zero_le _
      have hmn : m ≤ k := by rw [← unhide HM]; exact kN_len v0 k
      have HSI := hide hSI0
      clear hSI0
      go_wp2
      go_loopw [2, 5] (fun lv kv wr => ∃ (q m : Nat) (ko : Option Addr) (kc : Nat) (known : List Nat) (nds : List Nd), lv = .slice ko m kc ∧ kv = .int .i64 (q : Int) ∧ q ≤ m ∧ m ≤ k ∧ Hid (known.length = m) ∧ Hid (SI nxt v0 fr nds0 nds known q 0) ∧ Hid (SM base gN cap w nds ko kc known wr)) (fun _ kv _ => k - (intOf kv).toNat)
      case atStart => exact ⟨0, m, ko, kc, kN v0 k, nds0, rfl, rfl, Nat.zero_le _, hmn, HM, HSI, HSM⟩
      case round =>
        clear HSI HSM HM hmn
        obtain ⟨q, m, ko, kc, known, nds, rfl, rfl, hqm, hmn, HM, HSI, HSM⟩ := hrel
        rename World => w2
        by_cases hlt2 : q < m
        · have hlti2 : (q : Int) < (m : Int) := by omega
          have hq0 : (0 : Int) ≤ (q : Int) := by omega
          obtain ⟨j, hj⟩ : ∃ j, known[q]? = some j := ⟨_, List.getElem?_eq_getElem (by rw [unhide HM]; exact hlt2)⟩
          have hsi := unhide HSI
          have hsm := unhide HSM
          obtain ⟨gk, hko, hgk1, hgk2, hck, hkc1, hkc2⟩ := hsm.at_ hj
          subst hko
          rw [unhide HM] at hkc1
          have hjN : j < k := by rw [unhide HN]; exact ((hsi.q.kn j).1 (List.mem_of_getElem? hj)).1
          have hjNi : (j : Int) < (k : Int) := by omega
          have hj0 : (0 : Int) ≤ (j : Int) := by omega
          obtain ⟨x, hx⟩ : ∃ x, nds[j]? = some x := ⟨_, List.getElem?_eq_getElem (by rw [hsi.same.1, ← unhide HN]; exact hjN)⟩
          have c0 : w2.cell? ⟨gN, j * 10, none⟩ = some (.int .i64 x.p.W) := (hsm.nd.cell hx 0 (by omega)).1
          have c1 : w2.cell? ⟨gN, j * 10 + 1, none⟩ = some (.int .i64 x.p.H) := (hsm.nd.cell hx 1 (by omega)).1
          have c2 : w2.cell? ⟨gN, j * 10 + 2, none⟩ = some (.string x.p.C) := (hsm.nd.cell hx 2 (by omega)).1
          have c3 : w2.cell? ⟨gN, j * 10 + 3, none⟩ = some (.int .i64 x.p.T) := (hsm.nd.cell hx 3 (by omega)).1
          have c4 : w2.cell? ⟨gN, j * 10 + 4, none⟩ = some (.string x.p.A) := (hsm.nd.cell hx 4 (by omega)).1
          have c5 : w2.cell? ⟨gN, j * 10 + 5, none⟩ = some (.string x.p.B) := (hsm.nd.cell hx 5 (by omega)).1
          have c6 : w2.cell? ⟨gN, j * 10 + 6, none⟩ = some (.int .i64 x.v) := (hsm.nd.cell hx 6 (by omega)).1
          have c7 : w2.cell? ⟨gN, j * 10 + 7, none⟩ = some (.int .i64 x.d) := (hsm.nd.cell hx 7 (by omega)).1
          have c8 : w2.cell? ⟨gN, j * 10 + 8, none⟩ = some (.slice x.fo x.fr.length x.fc) := (hsm.nd.cell hx 8 (by omega)).1
          have c9 : w2.cell? ⟨gN, j * 10 + 9, none⟩ = some (.int .i64 x.l) := (hsm.nd.cell hx 9 (by omega)).1
          obtain ⟨fo, hfo⟩ : ∃ fo, fo = x.fo := ⟨_, rfl⟩
          obtain ⟨L, hL⟩ : ∃ L, L = x.fr.length := ⟨_, rfl⟩
          obtain ⟨fc, hfc⟩ : ∃ fc, fc = x.fc := ⟨_, rfl⟩
          have hxfr : x.fr = fr j := by
            obtain ⟨x0, a1, -, a3, -, -⟩ := hsi.same.2 j x hx
            rw [a3]
            exact (unhide HV j x0 a1).2.2.2
          obtain ⟨wb, hwb⟩ : ∃ wb, wb = w2.alloc (.cells #[.int .i64 x.p.W, .int .i64 x.p.H, .string x.p.C, .int .i64 x.p.T, .string x.p.A, .string x.p.B, .int .i64 x.v, .int .i64 x.d, .slice fo L fc, .int .i64 x.l] 54 (0, 0)) := ⟨_, rfl⟩
          rw [← hfo, ← hL, ← hfc] at c8
          have hbb : Below w2.heap.size w2 wb := by rw [hwb]; exact (Below.refl _ _).alloc (Nat.le_refl _) _
          have hnb : wb.heap[w2.heap.size]? = some (.cells #[.int .i64 x.p.W, .int .i64 x.p.H, .string x.p.C, .int .i64 x.p.T, .string x.p.A, .string x.p.B, .int .i64 x.v, .int .i64 x.d, .slice fo L fc, .int .i64 x.l] 54 (0, 0)) := by rw [hwb]; exact heap_alloc_new w2 _
          have b8 : wb.cell? ⟨w2.heap.size, 8, none⟩ = some (.slice fo L fc) := by simp [World.cell?, hnb]
          have hsb := hsm.below hbb
          have hx12 : x.v = 1 ∨ x.v = 2 := by
            have h1 := ((hsi.q.kn j).1 (List.mem_of_getElem? hj)).2
            have h2 := (hsi.pos j x hx).1
            rw [aOf_at hx] at h1
            simp only at h1
            omega
          have hxd : 0 ≤ x.d ∧ x.d ≤ 5000 := by
            have h1 := hsi.dist hj
            have h2 := (hsi.pos j x hx).2
            rw [aOf_at hx, ← unhide HN] at h1
            simp only at h1
            omega
          obtain ⟨bx, hbx⟩ : ∃ bx, bx = w2.heap.size := ⟨_, rfl⟩
          have hgNw := hsm.lo
          have hws := hsm.gr.size
          have HIN : Hid (known.length = m ∧ known[q]? = some j ∧ nds[j]? = some x ∧ SI nxt v0 fr nds0 nds known q 0 ∧ SM base gN cap w nds (some ⟨gk, 0, none⟩) kc known wb ∧ wb.heap[bx]? = some (.cells #[.int .i64 x.p.W, .int .i64 x.p.H, .string x.p.C, .int .i64 x.p.T, .string x.p.A, .string x.p.B, .int .i64 x.v, .int .i64 x.d, .slice fo L fc, .int .i64 x.l] 54 (0, 0)) ∧ (Value.slice (some ⟨gk, 0, none⟩) m kc).ownBlock ≠ some bx) := hide ⟨unhide HM, hj, hx, hsi, hsb, by rw [hbx]; exact hnb, by simp only [Value.ownBlock, ne_eq, Option.some.injEq]; omega⟩
          have hbxN : gN ≠ bx := by omega
          rw [← hbx] at b8
          have HBX := hide hbx
          have HFO := hide hfo
          have HL := hide hL
          have HFC := hide hfc
          have HXF := hide hxfr
          have HWB := hide hwb
          clear hj hsi hsm hgk1 hgk2 hx hfo hL hfc hxfr hwb hbb hnb hsb hbx hgNw hws HSI HSM HM
          go_upto_region 11 with fail
          rw [← unhide HWB, ← unhide HBX]
          clear HWB c0 c1 c2 c3 c4 c5 c6 c7 c8 c9 hck
          go_wp2
          go_loopw [2, 48] (fun lv pv w3 => ∃ (p m : Nat) (ko : Option Addr) (kc : Nat) (known : List Nat) (nds : List Nd), lv = .slice ko m kc ∧ pv = .int .i64 (p : Int) ∧ p ≤ L ∧ q < m ∧ m ≤ k ∧ Hid (known.length = m ∧ known[q]? = some j ∧ nds[j]? = some x ∧ SI nxt v0 fr nds0 nds known q p ∧ SM base gN cap w nds ko kc known w3 ∧ w3.heap[bx]? = some (.cells #[.int .i64 x.p.W, .int .i64 x.p.H, .string x.p.C, .int .i64 x.p.T, .string x.p.A, .string x.p.B, .int .i64 x.v, .int .i64 x.d, .slice fo L fc, .int .i64 x.l] 54 (0, 0)) ∧ (Value.slice ko m kc).ownBlock ≠ some bx)) (fun _ pv _ => L - (intOf pv).toNat)
          case atStart => exact ⟨0, m, some ⟨gk, 0, none⟩, kc, known, nds, rfl, rfl, Nat.zero_le _, hlt2, hmn, HIN⟩
          case round =>
            clear HIN
            obtain ⟨p, m, ko, kc, known, nds, rfl, rfl, hpL, hqm, hmn, HIN⟩ := hrel
            rename World => w3
            by_cases hlt3 : p < L
            · have hlti3 : (p : Int) < (L : Int) := by omega
              have hp0 : (0 : Int) ≤ (p : Int) := by omega
              obtain ⟨hkm, hkj, hnj, hsi, hsm, hbox, hkb⟩ := unhide HIN
              obtain ⟨i, hi⟩ : ∃ i, x.fr[p]? = some i := ⟨_, List.getElem?_eq_getElem (by rw [← unhide HL]; exact hlt3)⟩
              obtain ⟨gf, hfe, hgf1, hgf2, hcf, hfc1, hfc2⟩ := hsm.from hnj hi
              rw [← unhide HFO] at hfe
              rw [← unhide HL, ← unhide HFC] at hfc1
              rw [← unhide HFC] at hfc2
              subst hfe
              have hif : (fr j)[p]? = some i := by rw [← unhide HXF]; exact hi
              have hiN : i < k := by rw [unhide HN]; exact unhide HFN j i (List.mem_of_getElem? hif)
              have hiNi : (i : Int) < (k : Int) := by omega
              have hi0 : (0 : Int) ≤ (i : Int) := by omega
              obtain ⟨y, hy⟩ : ∃ y, nds[i]? = some y := ⟨_, List.getElem?_eq_getElem (by rw [hsi.same.1, ← unhide HN]; exact hiN)⟩
              have c6 : w3.cell? ⟨gN, i * 10 + 6, none⟩ = some (.int .i64 y.v) := (hsm.nd.cell hy 6 (by omega)).1
              by_cases hyv : y.v = 0
              · obtain ⟨hv0, -, hyl1, hyl2⟩ := hsi.open_ hy hyv
                have hyl3 := unhide HLE i
                have e0 : (y.v == 0) = true := by simp [hyv]
                obtain ⟨c7, f7⟩ := hsm.nd.cell hy 7 (by omega)
                obtain ⟨c9, f9⟩ := hsm.nd.cell hy 9 (by omega)
                have f6 := (hsm.nd.cell hy 6 (by omega)).2
                have hgl := hsm.nd.lt.2
                have hne : j ≠ i := fun e => by
                  rw [e, hy] at hnj
                  cases hnj
                  omega
                have hla := learn_any gN (i * 10) y.l x.v x.d y.v y.d x.p w3.drew ⟨by omega, by omega⟩ ⟨hxd.1, by omega⟩ hgl c6 c7 c9 f6 f7 f9
                have hbs : bx < w3.heap.size := (Array.getElem?_eq_some_iff.1 hbox).1
                have t0 : w3.cell? ⟨bx, 0, none⟩ = some (.int .i64 x.p.W) := by simp [World.cell?, hbox]
                have t1 : w3.cell? ⟨bx, 1, none⟩ = some (.int .i64 x.p.H) := by simp [World.cell?, hbox]
                have t2 : w3.cell? ⟨bx, 2, none⟩ = some (.string x.p.C) := by simp [World.cell?, hbox]
                have t3 : w3.cell? ⟨bx, 3, none⟩ = some (.int .i64 x.p.T) := by simp [World.cell?, hbox]
                have t4 : w3.cell? ⟨bx, 4, none⟩ = some (.string x.p.A) := by simp [World.cell?, hbox]
                have t5 : w3.cell? ⟨bx, 5, none⟩ = some (.string x.p.B) := by simp [World.cell?, hbox]
                have t6 : w3.cell? ⟨bx, 6, none⟩ = some (.int .i64 x.v) := by simp [World.cell?, hbox]
                have t7 : w3.cell? ⟨bx, 7, none⟩ = some (.int .i64 x.d) := by simp [World.cell?, hbox]
                have d6 : w3.drew.cell? ⟨gN, i * 10 + 6, none⟩ = some (.int .i64 y.v) := c6
                have d0 : w3.drew.cell? ⟨bx, 0, none⟩ = some (.int .i64 x.p.W) := t0
                have d1 : w3.drew.cell? ⟨bx, 1, none⟩ = some (.int .i64 x.p.H) := t1
                have d2 : w3.drew.cell? ⟨bx, 2, none⟩ = some (.string x.p.C) := t2
                have d3 : w3.drew.cell? ⟨bx, 3, none⟩ = some (.int .i64 x.p.T) := t3
                have d4 : w3.drew.cell? ⟨bx, 4, none⟩ = some (.string x.p.A) := t4
                have d5 : w3.drew.cell? ⟨bx, 5, none⟩ = some (.string x.p.B) := t5
                have g6 : w3.drew.cell? ⟨bx, 6, none⟩ = some (.int .i64 x.v) := t6
                have g7 : w3.drew.cell? ⟨bx, 7, none⟩ = some (.int .i64 x.d) := t7
                by_cases hx2 : x.v = 2
                · have hlc : Calls Tryz.prog 37 #[.pointer (some ⟨gN, i * 10, none⟩), .agg #[.int .i64 x.p.W, .int .i64 x.p.H, .string x.p.C, .int .i64 x.p.T, .string x.p.A, .string x.p.B, .int .i64 x.v, .int .i64 x.d]] w3.drew fun e w' => e = .returned (.bool true) ∧ ∃ wz, Below w3.heap.size w3.drew wz ∧ w' = ((wz.setCell ⟨gN, i * 10 + 9, none⟩ (.int .i64 (y.l - 1))).setCell ⟨gN, i * 10 + 6, none⟩ (.int .i64 1)).setCell ⟨gN, i * 10 + 7, none⟩ (.int .i64 (x.d + 1)) := hla.mono (fun e w' hh => by
                    obtain ⟨wz, hbz, hcs⟩ := hh.out
                    rcases hcs with ⟨-, he, hw⟩ | ⟨h2, -⟩ | ⟨h2, -⟩
                    · exact ⟨he, wz, hbz, hw⟩
                    · exact absurd hx2 h2
                    · exact absurd hx2 h2)
                  have HSI2 := hide (hsi.edge2 (unhide HNN) (unhide HFR) hkj hif hy hyv hnj 1 (.inl ⟨hx2, rfl⟩))
                  have HSM3 := hide hsm
                  have HHY := hide hy
                  have HHX := hide (And.intro hnj hne)
                  have HBOX := hide hbox
                  have HKB := hide hkb
                  have HKM := hide hkm
                  have HKJ := hide hkj
                  have HLC := hide hlc
                  have HBS := hide hbs
                  clear hx2
                  (try clear hl0)
                  (try clear hx12)
                  clear hla hlc hkm hkj hnj hne hsi hsm hbox hkb hi hif hy hyv HIN hv0 hyl1 hyl2 hyl3 c7 c9 f7 f9 f6 hgl hbs t0 t1 t2 t3 t4 t5 t6 t7
                  go_upto_region 14 with fail
                  go_region_with (first | (go_at_call 37; (with_reducible refine (unhide HLC).mono ?_); rintro e w5 ⟨rfl, hw5⟩; have HW5 := hide hw5; clear hw5))
                  all_goals
                    obtain ⟨wz, hbz, hw5⟩ := unhide HW5
                    have hsz := (unhide HSM3).below (u' := wz) ⟨hbz.os, hbz.tape, hbz.output, hbz.size, hbz.block⟩
                    have hs5 := hsz.learn3 (unhide HHY) 1 (x.d + 1)
                    rw [← hw5] at hs5
                    obtain ⟨ko2, kc2, u2, hrun, hsp, hu25, hfr2⟩ := hs5.push i (by rw [unhide HKM]; omega)
                    rw [unhide HKM] at hrun hfr2
                    have hbs2 := unhide HBS
                    have h5s : w5.heap.size = wz.heap.size := by rw [hw5]; simp [World.setCell]
                    have h5b : w5.heap[bx]? = w3.heap[bx]? := by
                      rw [hw5]
                      exact (Below.heap_setCell _ _ _ _ (Ne.symm hbxN)).trans ((Below.heap_setCell _ _ _ _ (Ne.symm hbxN)).trans ((Below.heap_setCell _ _ _ _ (Ne.symm hbxN)).trans (hbz.block bx hbs2)))
                    have hws2 := hbz.size
                    have hw3d : w3.drew.heap.size = w3.heap.size := rfl
                    obtain ⟨hfa, hfb⟩ := hfr2 bx (by omega) (unhide HKB)
                    obtain ⟨m2, hm2⟩ : ∃ m2, m2 = m + 1 := ⟨_, rfl⟩
                    rw [← hm2] at hrun hfb
                    have hkl : (known ++ [i]).length = m2 := by rw [List.length_append, unhide HKM, hm2]; rfl
                    have hm2k : m2 ≤ k := by
                      have := (unhide HSI2).klen
                      rw [hkl, ← unhide HN] at this
                      exact this
                    have HNEW : Hid ((known ++ [i]).length = m2 ∧ (known ++ [i])[q]? = some j ∧ (nds.set i { y with l := y.l - 1, v := 1, d := x.d + 1 })[j]? = some x ∧ SI nxt v0 fr nds0 (nds.set i { y with l := y.l - 1, v := 1, d := x.d + 1 }) (known ++ [i]) q (p + 1) ∧ SM base gN cap w (nds.set i { y with l := y.l - 1, v := 1, d := x.d + 1 }) ko2 kc2 (known ++ [i]) u2 ∧ u2.heap[bx]? = some (.cells #[.int .i64 x.p.W, .int .i64 x.p.H, .string x.p.C, .int .i64 x.p.T, .string x.p.A, .string x.p.B, .int .i64 x.v, .int .i64 x.d, .slice (some ⟨gf, 0, none⟩) L fc, .int .i64 x.l] 54 (0, 0)) ∧ (Value.slice ko2 m2 kc2).ownBlock ≠ some bx) := hide ⟨hkl, by rw [List.getElem?_append_left (by rw [unhide HKM]; exact hqm)]; exact unhide HKJ, by rw [List.getElem?_set_ne (Ne.symm (unhide HHX).2)]; exact (unhide HHX).1, unhide HSI2, hsp, hfa.trans (h5b.trans (unhide HBOX)), hfb⟩
                    have hqm2 : q < m2 := by omega
                    have HH2 := hide hm2
                    clear hbz hw5 hsz hs5 hsp hu25 hfr2 hbs2 h5s h5b hws2 hw3d hfa hfb hm2 hkl HW5 HSI2 HSM3 HHY HHX HBOX HKB HKM HKJ HLC HBS d0 d1 d2 d3 d4 d5 d6 g6 g7
                    go_wp2_with (first | (at_builtin; refine wpList_appRun rfl _ _ 52 rfl _ _ _ _ rfl rfl hrun ?_) | go_in)
                    go_roundw
                    case rel => exact ⟨p + 1, m2, ko2, kc2, known ++ [i], _, rfl, by go_num, by omega, hqm2, hm2k, HNEW⟩
                    case measure => simp only [intOf]; omega
                · by_cases hl0 : y.l - 1 = 0
                  · have hlc : Calls Tryz.prog 37 #[.pointer (some ⟨gN, i * 10, none⟩), .agg #[.int .i64 x.p.W, .int .i64 x.p.H, .string x.p.C, .int .i64 x.p.T, .string x.p.A, .string x.p.B, .int .i64 x.v, .int .i64 x.d]] w3.drew fun e w' => e = .returned (.bool true) ∧ ∃ wz, Below w3.heap.size w3.drew wz ∧ w' = ((wz.setCell ⟨gN, i * 10 + 9, none⟩ (.int .i64 (y.l - 1))).setCell ⟨gN, i * 10 + 6, none⟩ (.int .i64 2)).setCell ⟨gN, i * 10 + 7, none⟩ (.int .i64 (x.d + 1)) := hla.mono (fun e w' hh => by
                      obtain ⟨wz, hbz, hcs⟩ := hh.out
                      rcases hcs with ⟨h2, -⟩ | ⟨-, -, he, hw⟩ | ⟨-, h2, -⟩
                      · exact absurd h2 hx2
                      · exact ⟨he, wz, hbz, hw⟩
                      · exact absurd hl0 h2)
                    have HSI2 := hide (hsi.edge2 (unhide HNN) (unhide HFR) hkj hif hy hyv hnj 2 (.inr ⟨hx2, hl0, rfl⟩))
                    have HSM3 := hide hsm
                    have HHY := hide hy
                    have HHX := hide (And.intro hnj hne)
                    have HBOX := hide hbox
                    have HKB := hide hkb
                    have HKM := hide hkm
                    have HKJ := hide hkj
                    have HLC := hide hlc
                    have HBS := hide hbs
                    clear hx2
                    (try clear hl0)
                    (try clear hx12)
                    clear hla hlc hkm hkj hnj hne hsi hsm hbox hkb hi hif hy hyv HIN hv0 hyl1 hyl2 hyl3 c7 c9 f7 f9 f6 hgl hbs t0 t1 t2 t3 t4 t5 t6 t7
                    go_upto_region 14 with fail
                    go_region_with (first | (go_at_call 37; (with_reducible refine (unhide HLC).mono ?_); rintro e w5 ⟨rfl, hw5⟩; have HW5 := hide hw5; clear hw5))
                    all_goals
                      obtain ⟨wz, hbz, hw5⟩ := unhide HW5
                      have hsz := (unhide HSM3).below (u' := wz) ⟨hbz.os, hbz.tape, hbz.output, hbz.size, hbz.block⟩
                      have hs5 := hsz.learn3 (unhide HHY) 2 (x.d + 1)
                      rw [← hw5] at hs5
                      obtain ⟨ko2, kc2, u2, hrun, hsp, hu25, hfr2⟩ := hs5.push i (by rw [unhide HKM]; omega)
                      rw [unhide HKM] at hrun hfr2
                      have hbs2 := unhide HBS
                      have h5s : w5.heap.size = wz.heap.size := by rw [hw5]; simp [World.setCell]
                      have h5b : w5.heap[bx]? = w3.heap[bx]? := by
                        rw [hw5]
                        exact (Below.heap_setCell _ _ _ _ (Ne.symm hbxN)).trans ((Below.heap_setCell _ _ _ _ (Ne.symm hbxN)).trans ((Below.heap_setCell _ _ _ _ (Ne.symm hbxN)).trans (hbz.block bx hbs2)))
                      have hws2 := hbz.size
                      have hw3d : w3.drew.heap.size = w3.heap.size := rfl
                      obtain ⟨hfa, hfb⟩ := hfr2 bx (by omega) (unhide HKB)
                      obtain ⟨m2, hm2⟩ : ∃ m2, m2 = m + 1 := ⟨_, rfl⟩
                      rw [← hm2] at hrun hfb
                      have hkl : (known ++ [i]).length = m2 := by rw [List.length_append, unhide HKM, hm2]; rfl
                      have hm2k : m2 ≤ k := by
                        have := (unhide HSI2).klen
                        rw [hkl, ← unhide HN] at this
                        exact this
                      have HNEW : Hid ((known ++ [i]).length = m2 ∧ (known ++ [i])[q]? = some j ∧ (nds.set i { y with l := y.l - 1, v := 2, d := x.d + 1 })[j]? = some x ∧ SI nxt v0 fr nds0 (nds.set i { y with l := y.l - 1, v := 2, d := x.d + 1 }) (known ++ [i]) q (p + 1) ∧ SM base gN cap w (nds.set i { y with l := y.l - 1, v := 2, d := x.d + 1 }) ko2 kc2 (known ++ [i]) u2 ∧ u2.heap[bx]? = some (.cells #[.int .i64 x.p.W, .int .i64 x.p.H, .string x.p.C, .int .i64 x.p.T, .string x.p.A, .string x.p.B, .int .i64 x.v, .int .i64 x.d, .slice (some ⟨gf, 0, none⟩) L fc, .int .i64 x.l] 54 (0, 0)) ∧ (Value.slice ko2 m2 kc2).ownBlock ≠ some bx) := hide ⟨hkl, by rw [List.getElem?_append_left (by rw [unhide HKM]; exact hqm)]; exact unhide HKJ, by rw [List.getElem?_set_ne (Ne.symm (unhide HHX).2)]; exact (unhide HHX).1, unhide HSI2, hsp, hfa.trans (h5b.trans (unhide HBOX)), hfb⟩
                      have hqm2 : q < m2 := by omega
                      have HH2 := hide hm2
                      clear hbz hw5 hsz hs5 hsp hu25 hfr2 hbs2 h5s h5b hws2 hw3d hfa hfb hm2 hkl HW5 HSI2 HSM3 HHY HHX HBOX HKB HKM HKJ HLC HBS d0 d1 d2 d3 d4 d5 d6 g6 g7
                      go_wp2_with (first | (at_builtin; refine wpList_appRun rfl _ _ 52 rfl _ _ _ _ rfl rfl hrun ?_) | go_in)
                      go_roundw
                      case rel => exact ⟨p + 1, m2, ko2, kc2, known ++ [i], _, rfl, by go_num, by omega, hqm2, hm2k, HNEW⟩
                      case measure => simp only [intOf]; omega
                  · have hlc : Calls Tryz.prog 37 #[.pointer (some ⟨gN, i * 10, none⟩), .agg #[.int .i64 x.p.W, .int .i64 x.p.H, .string x.p.C, .int .i64 x.p.T, .string x.p.A, .string x.p.B, .int .i64 x.v, .int .i64 x.d]] w3.drew fun e w' => e = .returned (.bool false) ∧ ∃ wz, Below w3.heap.size w3.drew wz ∧ w' = wz.setCell ⟨gN, i * 10 + 9, none⟩ (.int .i64 (y.l - 1)) := hla.mono (fun e w' hh => by
                      obtain ⟨wz, hbz, hcs⟩ := hh.out
                      rcases hcs with ⟨h2, -⟩ | ⟨-, h2, -⟩ | ⟨-, -, he, hw⟩
                      · exact absurd h2 hx2
                      · exact absurd h2 hl0
                      · exact ⟨he, wz, hbz, hw⟩)
                    have HSI2 := hide (hsi.edge1 hkj hif hy hyv hnj hx2 hl0)
                    have HSM3 := hide hsm
                    have HHY := hide hy
                    have HHX := hide (And.intro hnj hne)
                    have HBOX := hide hbox
                    have HKB := hide hkb
                    have HKM := hide hkm
                    have HKJ := hide hkj
                    have HLC := hide hlc
                    have HBS := hide hbs
                    clear hx2 hl0 hx12
                    clear hla hlc hkm hkj hnj hne hsi hsm hbox hkb hi hif hy hyv HIN hv0 hyl1 hyl2 hyl3 c7 c9 f7 f9 f6 hgl hbs t0 t1 t2 t3 t4 t5 t6 t7
                    go_upto_region 14 with fail
                    go_region_with (first | (go_at_call 37; (with_reducible refine (unhide HLC).mono ?_); rintro e w5 ⟨rfl, hw5⟩; have HW5 := hide hw5; clear hw5))
                    all_goals
                      obtain ⟨wz, hbz, hw5⟩ := unhide HW5
                      have hsz := (unhide HSM3).below (u' := wz) ⟨hbz.os, hbz.tape, hbz.output, hbz.size, hbz.block⟩
                      have hs5 := hsz.set (n' := { y with l := y.l - 1 }) (unhide HHY) 9 (by omega) (.int .i64 (y.l - 1)) rfl rfl rfl rfl
                      rw [← hw5] at hs5
                      have h5b : w5.heap[bx]? = w3.heap[bx]? := by
                        rw [hw5]
                        exact (Below.heap_setCell _ _ _ _ (Ne.symm hbxN)).trans (hbz.block bx (unhide HBS))
                      have HNEW : Hid (known.length = m ∧ known[q]? = some j ∧ (nds.set i { y with l := y.l - 1 })[j]? = some x ∧ SI nxt v0 fr nds0 (nds.set i { y with l := y.l - 1 }) known q (p + 1) ∧ SM base gN cap w (nds.set i { y with l := y.l - 1 }) ko kc known w5 ∧ w5.heap[bx]? = some (.cells #[.int .i64 x.p.W, .int .i64 x.p.H, .string x.p.C, .int .i64 x.p.T, .string x.p.A, .string x.p.B, .int .i64 x.v, .int .i64 x.d, .slice (some ⟨gf, 0, none⟩) L fc, .int .i64 x.l] 54 (0, 0)) ∧ (Value.slice ko m kc).ownBlock ≠ some bx) := hide ⟨unhide HKM, unhide HKJ, by rw [List.getElem?_set_ne (Ne.symm (unhide HHX).2)]; exact (unhide HHX).1, unhide HSI2, hs5, h5b.trans (unhide HBOX), unhide HKB⟩
                      clear hbz hw5 hsz hs5 h5b HW5 HSI2 HSM3 HHY HHX HBOX HKB HKM HKJ HLC HBS d0 d1 d2 d3 d4 d5 d6 g6 g7
                      go_wp2
                      go_roundw
                      case rel => exact ⟨p + 1, m, ko, kc, known, _, rfl, by go_num, by omega, hqm, hmn, HNEW⟩
                      case measure => simp only [intOf]; omega
              · have e0 : (y.v == 0) = false := by simp [hyv]
                have HNEW : Hid (∀ nq, known.length = m ∧ known[q]? = some j ∧ nds[j]? = some x ∧ SI nxt v0 fr nds0 nds known q (p + 1) ∧ SM base gN cap w nds ko kc known (w3.drewN nq) ∧ (w3.drewN nq).heap[bx]? = some (.cells #[.int .i64 x.p.W, .int .i64 x.p.H, .string x.p.C, .int .i64 x.p.T, .string x.p.A, .string x.p.B, .int .i64 x.v, .int .i64 x.d, .slice (some ⟨gf, 0, none⟩) L fc, .int .i64 x.l] 54 (0, 0)) ∧ (Value.slice ko m kc).ownBlock ≠ some bx) := hide (fun nq => ⟨hkm, hkj, hnj, hsi.edge0 hkj hif hy hyv, hsm.below ⟨rfl, rfl, rfl, Nat.le_refl _, fun _ _ => rfl⟩, hbox, hkb⟩)
                clear hkm hkj hnj hsi hsm hbox hkb hi hif hy hyv HIN
                go_upto_region 14 with fail
                go_quiet (fail)
                go_wp2
                go_roundw
                case rel => exact ⟨p + 1, m, ko, kc, known, nds, rfl, by go_num, by omega, hqm, hmn, hide (unhide HNEW _)⟩
                case measure => simp only [intOf]; omega
            · have hlti3 : ¬ (p : Int) < (L : Int) := by omega
              obtain ⟨hkm, hkj, hnj, hsi, hsm, -, -⟩ := unhide HIN
              have hnext := hsi.next (unhide HFR) hkj (by rw [← unhide HXF, ← unhide HL]; omega)
              have HSI2 := hide hnext
              have HSM2 := hide hsm
              have HKM := hide hkm
              clear hkm hkj hnj hsi hsm hnext HIN hx12 hxd
              go_wp2
              go_roundw
              case rel => exact ⟨q + 1, m, ko, kc, known, nds, rfl, by go_num, by omega, hmn, HKM, HSI2, HSM2⟩
              case measure => simp only [intOf]; omega
        · have hlti2 : ¬ (q : Int) < (m : Int) := by omega
          have hsi := unhide HSI
          have hcons : Cons nds0.length nxt v0 (finR (aOf nds)) := hsi.q.fin (unhide HNN) (by rw [unhide HM]; omega)
          have HCONS := hide hcons
          have HPOS := hide hsi.pos
          have HUNK : Hid (∀ (a : Nat) (y : Nd), nds[a]? = some y → y.v = 0 → y.d = 0) := hide (fun a y hy hy0 => by
            obtain ⟨h0, haN, -, -⟩ := hsi.open_ hy hy0
            have h1 := (hsi.q.unk a haN h0 (by rw [aOf_at hy, hy0]; rfl)).1
            have h2 := (hsi.pos a y hy).2
            rw [aOf_at hy] at h1
            simp only [Prod.mk.injEq] at h1
            omega)
          have HSAME := hide hsi.same
          have HSTART : Hid (FX nds 0 nds) := hide ⟨rfl, fun a y hy => ⟨y, hy, by rw [if_neg (by omega)]⟩⟩
          clear hsi hcons HSI hlt2 hqm
          go_wp2
          go_loopw [74] (fun tv w6 => ∃ (t : Nat) (ndt : List Nd), tv = .int .i64 (t : Int) ∧ t ≤ k ∧ Hid (FX nds t ndt) ∧ Hid (SM base gN cap w ndt ko kc known w6)) (fun tv _ => k - (intOf tv).toNat)
          case atStart => exact ⟨0, nds, rfl, Nat.zero_le _, HSTART, HSM⟩
          case round =>
            clear HSTART HSM
            obtain ⟨t, ndt, rfl, htk, HFX, HSM⟩ := hrel
            rename World => w6
            by_cases hlt6 : t < k
            · have hlti6 : (t : Int) < (k : Int) := by omega
              have ht0 : (0 : Int) ≤ (t : Int) := by omega
              have hfx := unhide HFX
              have hsm := unhide HSM
              obtain ⟨y, hy⟩ : ∃ y, ndt[t]? = some y := ⟨_, List.getElem?_eq_getElem (by rw [hfx.1, (unhide HSAME).1, ← unhide HN]; exact hlt6)⟩
              obtain ⟨c6, f6⟩ := hsm.nd.cell hy 6 (by omega)
              have c6' : w6.cell? ⟨gN, t * 10 + 6, none⟩ = some (.int .i64 y.v) := c6
              obtain ⟨y0, hy0, hye⟩ := hfx.2 t y hy
              rw [if_neg (by omega)] at hye
              subst hye
              by_cases hyv : y.v = 0
              · have e0 : (y.v == 0) = true := by simp [hyv]
                have hs2 := hsm.set (n' := { y with v := 3 }) hy 6 (by omega) (.int .i64 3) rfl rfl rfl rfl
                have HS2 := hide hs2
                have HF2 : Hid (FX nds (t + 1) (ndt.set t { y with v := 3 })) := hide (by
                  have := hfx.set hy hy0
                  unfold fxN at this
                  rw [if_pos hyv] at this
                  exact this)
                clear hfx hsm hy hy0 hyv c6 hs2 HFX HSM
                go_wp2
                go_roundw
                case rel => exact ⟨t + 1, _, by go_num, by omega, HF2, HS2⟩
                case measure => simp only [intOf]; omega
              · have e0 : (y.v == 0) = false := by simp [hyv]
                have HF2 : Hid (FX nds (t + 1) ndt) := hide (by
                  have := hfx.set hy hy0
                  unfold fxN at this
                  rw [if_neg hyv] at this
                  have e : ndt.set t y = ndt := by
                    apply List.ext_getElem?
                    intro a
                    by_cases ha : t = a
                    · subst ha
                      rw [List.getElem?_set_self (List.getElem?_eq_some_iff.1 hy).1, hy]
                    · rw [List.getElem?_set_ne ha]
                  rw [e] at this
                  exact this)
                clear hfx hsm hy hy0 hyv c6 HFX
                go_wp2
                go_roundw
                case rel => exact ⟨t + 1, ndt, by go_num, by omega, HF2, HSM⟩
                case measure => simp only [intOf]; omega
            · have hlti6 : ¬ (t : Int) < (k : Int) := by omega
              have HFIN : Hid (SeE nxt v0 base gN cap nds0 w (.returned (.tuple #[])) w6) := hide (by
                have hsm := unhide HSM
                have hfx := unhide HFX
                refine ⟨rfl, ndt, hsm.nd, (unhide HSAME).fx hfx, ?_, fun a y hy => ?_, hsm.gr⟩
                · refine (unhide HCONS).cong (unhide HNN) (fun a ha => ?_)
                  obtain ⟨y, hy⟩ : ∃ y, ndt[a]? = some y := ⟨_, List.getElem?_eq_getElem (by rw [hfx.1, (unhide HSAME).1]; exact ha)⟩
                  obtain ⟨y0, hy0, hye⟩ := hfx.2 a y hy
                  have hkn := unhide HN
                  rw [if_pos (by omega)] at hye
                  have hp0 := (unhide HPOS a y0 hy0).1
                  rw [aOf_at hy, hye]
                  unfold finR fxN
                  rw [aOf_at hy0]
                  by_cases h0 : y0.v = 0
                  · rw [if_pos h0, if_pos (by simp only; omega)]
                    have := unhide HUNK a y0 hy0 h0
                    simp only [this]
                    rfl
                  · rw [if_neg h0, if_neg (by simp only; omega)]
                · obtain ⟨y0, hy0, hye⟩ := hfx.2 a y hy
                  have hp0 := unhide HPOS a y0 hy0
                  rw [hye]
                  split
                  · unfold fxN
                    split
                    · exact ⟨by show (0 : Int) ≤ 3; omega, hp0.2⟩
                    · exact hp0
                  · exact hp0)
              clear HFX HSM HCONS HPOS HUNK HSAME
              go_wp2
              refine bodyPost_end (v := .tuple #[]) (by simp [results, Tryz.results14]) rfl ?_
              exact unhide HFIN
end Go.Proofs.YtbijadnekoeofaaGreatDoor
