/-
  package nim, walked: the walk through a graph.
-/
import Derived.Test.YtphnjedoghopcaaQ3
import Derived.Deep.RegionHeld3
namespace Go.Proofs.Ytphnjedoghopcaa
open Go.RowKit
attribute [local go_sem ↓] Go.wp_at_zero Go.wp_at_succ

/-- All as it was but two blocks. -/
structure Fr2 (gf gv : Nat) (w w' : World) : Prop where
  os : w'.os = w.os
  tape : w'.tape = w.tape
  output : w'.output = w.output
  size : w.heap.size ≤ w'.heap.size
  block : ∀ k, k < w.heap.size → k ≠ gf → k ≠ gv → w'.heap[k]? = w.heap[k]?
theorem Fr2.refl (gf gv : Nat) (w : World) : Fr2 gf gv w w := ⟨rfl, rfl, rfl, Nat.le_refl _, fun _ _ _ _ => rfl⟩
theorem Fr2.trans {gf gv : Nat} {a b c : World} (h : Fr2 gf gv a b) (k : Fr2 gf gv b c) : Fr2 gf gv a c :=
  ⟨k.os.trans h.os, k.tape.trans h.tape, k.output.trans h.output, Nat.le_trans h.size k.size, fun j hj h1 h2 => (k.block j (Nat.lt_of_lt_of_le hj h.size) h1 h2).trans (h.block j hj h1 h2)⟩
theorem Fr2.of {gf gv : Nat} {w w' : World} (h : Below w.heap.size w w') : Fr2 gf gv w w' := ⟨h.os, h.tape, h.output, h.size, fun k hk _ _ => h.block k hk⟩
theorem Fr2.alloc {gf gv : Nat} {w w' : World} (h : Fr2 gf gv w w') (o : Obj) : Fr2 gf gv w (w'.alloc o) := h.trans (.of ((Below.refl _ _).alloc (Nat.le_refl _) o))
theorem Fr2.put {gf gv : Nat} {w w' : World} (h : Fr2 gf gv w w') {g : Nat} (hg : g = gf ∨ g = gv ∨ w.heap.size ≤ g) (i : Nat) (v : Value) : Fr2 gf gv w (w'.setCell ⟨g, i, none⟩ v) :=
  ⟨h.os, h.tape, h.output, by rw [show (w'.setCell ⟨g, i, none⟩ v).heap.size = w'.heap.size by simp [World.setCell]]; exact h.size, fun k hk h1 h2 => (Below.heap_setCell _ _ _ _ (by simp only; omega)).trans (h.block k hk h1 h2)⟩
theorem Fr2.below {gf gv B : Nat} {w w' : World} (h : Fr2 gf gv w w') (hf : B ≤ gf) (hv : B ≤ gv) (hB : B ≤ w.heap.size) : Below B w w' := ⟨h.os, h.tape, h.output, h.size, fun k hk => h.block k (by omega) (by omega) (by omega)⟩
/-- The walk in a box. -/
def isWk (w : World) (b : Nat) (ao : Option Addr) (n cap gf gv : Nat) : Prop := w.heap[b]? = some (.cells #[.slice ao n cap, .slice (some ⟨gf, 0, none⟩) n n, .slice (some ⟨gv, 0, none⟩) n n] 70 (0, 0))
theorem isWk.all {w : World} {b : Nat} {ao : Option Addr} {n cap gf gv : Nat} (h : isWk w b ao n cap gf gv) : w.cell? ⟨b, 0, none⟩ = some (.slice ao n cap) ∧ w.cell? ⟨b, 1, none⟩ = some (.slice (some ⟨gf, 0, none⟩) n n) ∧ w.cell? ⟨b, 2, none⟩ = some (.slice (some ⟨gv, 0, none⟩) n n) := by
  unfold isWk at h; simp [World.cell?, h]
theorem isWk.lt {w : World} {b : Nat} {ao : Option Addr} {n cap gf gv : Nat} (h : isWk w b ao n cap gf gv) : b < w.heap.size := (Array.getElem?_eq_some_iff.1 h).1
theorem isWk.fr {w w' : World} {b : Nat} {ao : Option Addr} {n cap gf gv : Nat} (h : isWk w b ao n cap gf gv) (hf : Fr2 gf gv w w') (h1 : b ≠ gf) (h2 : b ≠ gv) : isWk w' b ao n cap gf gv := (hf.block b h.lt h1 h2).trans h
/-- What the walk through a number leaves. -/
structure ThrEnd (G : List (List Int)) (gf gv : Nat) (F V : List Nat) (i : Nat) (w : World) (e : Ending) (w' : World) : Prop where
  fr : Fr2 gf gv w w'
  out : (e = .returned (.bool true) ∧ ∃ F' V', rowN w' gf F' ∧ rowN w' gv V' ∧ Dfs G F' V' ∧ DExt F V F' V' ∧ F'[i]! = 2) ∨ (e = .returned (.bool false) ∧ ∃ c, Reach G c c)

set_option maxHeartbeats 4000000 in
set_option maxRecDepth 100000 in
theorem through_step (G : List (List Int)) (ok : OkG G) (ao : Option Addr) (cap b gf gv B : Nat) (h1 : B ≤ gf) (h2 : B ≤ gv) (h3 : gf ≠ gv) (h4 : b ≠ gf) (h5 : b ≠ gv) (f : Nat)
    (IH : ∀ (i : Nat) (F V : List Nat) (w : World), isG w B ao cap G → isWk w b ao G.length cap gf gv → rowN w gf F → rowN w gv V → Dfs G F V → zer F < f → i < G.length → (∀ j : Nat, F[j]! = 1 → Reach G j i) →
      Calls Try.prog 35 #[.pointer (some ⟨b, 0, none⟩), .int .i64 (i : Int)] w fun e w' => ThrEnd G gf gv F V i w e w')
    (i : Nat) (F V : List Nat) (w : World) (hG : isG w B ao cap G) (hW : isWk w b ao G.length cap gf gv) (hF : rowN w gf F) (hV : rowN w gv V) (hI : Dfs G F V) (hz : zer F < f + 1) (hi : i < G.length) (hR : ∀ j : Nat, F[j]! = 1 → Reach G j i) :
    Calls Try.prog 35 #[.pointer (some ⟨b, 0, none⟩), .int .i64 (i : Int)] w fun e w' => ThrEnd G gf gv F V i w e w' := by
  have hle := hG.1
  have hmx := hG.2.1
  unfold maxLen at hmx
  have hii : (i : Int) < (G.length : Int) := by omega
  have hi0 : (0 : Int) ≤ (i : Int) := by omega
  have hn := ok.len
  obtain ⟨c0, c1, c2⟩ := hW.all
  have d0 := hF.cell (k := i) (by rw [hI.lf]; exact hi)
  have h3i := hI.three i
  have HIH := hide IH
  have HG := hide hG
  have HW := hide hW
  have HF := hide hF
  have HV := hide hV
  have HI := hide hI
  have HR := hide hR
  clear IH hG hW hF hV hI hR
  by_cases hf1 : F[i]! = 1
  · have HC : Hid (∃ c, Reach G c c) := hide ⟨i, unhide HR i hf1⟩
    rw [hf1] at d0
    clear hf1
    go_enter Try.func35, Try.ntmps35
    go_wp2
    go_ret
    exact ⟨Fr2.refl _ _ _, .inr ⟨rfl, unhide HC⟩⟩
  · by_cases hf2 : F[i]! = 2
    · have HE := hide hf2
      rw [hf2] at d0
      clear hf1 hf2
      go_enter Try.func35, Try.ntmps35
      go_wp2
      go_ret
      exact ⟨Fr2.refl _ _ _, .inl ⟨rfl, F, V, unhide HF, unhide HV, unhide HI, DExt.refl _ _, unhide HE⟩⟩
    · have hf0 : F[i]! = 0 := by omega
      rw [hf0] at d0
      have HF0 := hide hf0
      have hr := List.getElem?_eq_getElem hi
      obtain ⟨g, off, ro, rc, e, hg, e0, hIs⟩ := (unhide HG).at_ hr
      subst e
      obtain ⟨r, hrr⟩ : ∃ r, r = G[i] := ⟨_, rfl⟩
      rw [← hrr] at hr e0 hIs
      have hrl := hIs.1
      have hrm := hIs.2.1
      unfold maxLen at hrm
      have hr1000 := ok.row i r hr
      have HRR := hide hr
      have f0 := (unhide HF).frozen i
      have hgw : gf < w.heap.size := (unhide HF).lt
      have hvw : gv < w.heap.size := (unhide HV).lt
      have hbw : b < w.heap.size := (unhide HW).lt
      obtain ⟨w1, hw1⟩ : ∃ w1, w1 = w.setCell ⟨gf, i, none⟩ (.int .i64 1) := ⟨_, rfl⟩
      have hs1 : w1.heap.size = w.heap.size := by rw [hw1]; simp [World.setCell]
      have fr1 : Fr2 gf gv w w1 := by rw [hw1]; exact (Fr2.refl _ _ _).put (.inl rfl) _ _
      have hF1 : rowN w1 gf (F.set i 1) := by rw [hw1]; exact (unhide HF).set i 1
      have hV1 : rowN w1 gv V := (unhide HV).keep (by rw [hw1]; exact Below.heap_setCell _ _ _ _ (by simp only; omega))
      have hW1 := (unhide HW).fr fr1 h4 h5
      have hG1 := (unhide HG).below (fr1.below h1 h2 (by omega)) (Nat.le_refl _)
      obtain ⟨c10, c11, c12⟩ := hW1.all
      have e10 : w1.cell? ⟨g, off + i, none⟩ = some (.slice ro r.length rc) := ((fr1.below h1 h2 (by omega)).cell (p := ⟨g, off + i, none⟩) hg).trans e0
      have hmk := made_ints r.length (by omega)
      obtain ⟨w2, hw2⟩ : ∃ w2, w2 = w1.alloc (.cells (nvals (List.replicate r.length 0)).toArray 3 (0, 0)) := ⟨_, rfl⟩
      have hb2 : Below w1.heap.size w1 w2 := by rw [hw2]; exact (Below.refl _ _).alloc (Nat.le_refl _) _
      have fr2 : Fr2 gf gv w w2 := fr1.trans (.of hb2)
      have hb0 : rowN w2 w.heap.size (List.replicate r.length 0) := by rw [hw2, ← hs1]; exact heap_alloc_new w1 _
      have hF2 : rowN w2 gf (F.set i 1) := hF1.keep (hb2.block _ (by omega))
      have hV2 : rowN w2 gv V := hV1.keep (hb2.block _ (by omega))
      have hW2 := (unhide HW).fr fr2 h4 h5
      have hG2 := (unhide HG).below (fr2.below h1 h2 (by omega)) (Nat.le_refl _)
      obtain ⟨c20, c21, c22⟩ := hW2.all
      have e20 : w2.cell? ⟨g, off + i, none⟩ = some (.slice ro r.length rc) := ((fr2.below h1 h2 (by omega)).cell (p := ⟨g, off + i, none⟩) hg).trans e0
      have HI1 := hide ((unhide HI).begin hi hf0)
      have HW1 := hide hw1
      have HW2 := hide hw2
      have HFR2 := hide fr2
      have HB0 := hide hb0
      have HF2 := hide hF2
      have HV2 := hide hV2
      have HIs := hide hIs
      clear fr1 hF1 hV1 hW1 hG1 hb2 hb0 hF2 hV2 hW2 hG2 fr2 hr hf0 hf1 hf2 hrr hw1 hw2 hIs
      go_enter Try.func35, Try.ntmps35
      go_upto_region 7 with fail
      rw [← unhide HW1]
      go_upto_region 8 with fail
      rw [← unhide HW2]
      clear HW1 HW2 hmk c10 c11 c12 e10
      go_wp2
      go_loopw [42] (fun iv wr => ∃ (k : Nat) (F' V' : List Nat), k ≤ r.length ∧ iv = .int .i64 (k : Int) ∧ rowN wr gf F' ∧ rowN wr gv V' ∧ Dfs G F' V' ∧ DExt (F.set i 1) V F' V' ∧ Hid (∀ x ∈ r.take k, F'[x.toNat]! = 2) ∧ rowN wr w.heap.size (kidV V' (r.take k) ++ List.replicate (r.length - k) 0) ∧ Fr2 gf gv w wr) (fun iv _ => r.length - (intOf iv).toNat)
      case atStart => exact ⟨0, F.set i 1, V, Nat.zero_le _, rfl, unhide HF2, unhide HV2, unhide HI1, DExt.refl _ _, hide (fun x hx => by simp at hx), by simpa [kidV] using unhide HB0, unhide HFR2⟩
      case round =>
        obtain ⟨k, F', V', hk, rfl, hF', hV', hI', hE', HD', hB', hfr'⟩ := hrel
        clear HFR2 HB0 HF2 HV2 c20 c21 c22 e20
        have hWr := (unhide HW).fr hfr' h4 h5
        obtain ⟨y0, y1, y2⟩ := hWr.all
        by_cases hlt : k < r.length
        · have hlti : (k : Int) < (r.length : Int) := by omega
          have hk0 : (0 : Int) ≤ (k : Int) := by omega
          have hx := List.getElem?_eq_getElem hlt
          obtain ⟨g2, off2, e2, hg2, cx⟩ := (unhide HIs).at_ hx
          subst e2
          have hbl : Below B w wr := hfr'.below h1 h2 (by omega)
          have cx' := (hbl.cell (p := ⟨g2, off2 + k, none⟩) hg2).trans cx
          have hin := ok.in_ i r (unhide HRR) r[k] (List.getElem_mem hlt)
          have htk : r.take (k + 1) = r.take k ++ [r[k]] := List.take_succ_eq_append_getElem hlt
          have hkid : kid G i (r[k]).toNat := ⟨r, unhide HRR, by rw [Int.toNat_of_nonneg hin.1]; exact List.getElem_mem hlt⟩
          clear hx cx
          generalize r[k] = x at *
          obtain ⟨X, rfl⟩ := Int.eq_ofNat_of_zero_le hin.1
          simp only [Int.toNat_natCast] at hkid
          have hXn : X < G.length := by omega
          have hF1l : (F.set i 1).length = G.length := by rw [List.length_set]; exact (unhide HI).lf
          have hzz : zer F' < f := by
            have a := hE'.zer (G := G) (unhide HI1) hI'
            have b := zer_set F i 1 (by rw [(unhide HI).lf]; exact hi) (unhide HF0) (by omega)
            omega
          have hreach : ∀ j : Nat, F'[j]! = 1 → Reach G j X := by
            intro j hj
            have := hE'.same j hj
            rw [get_set!] at this
            split at this
            · rename_i hij
              rw [← hij.1]
              exact .one hkid
            · exact .snoc (unhide HR j this) hkid
          have HREC := hide (unhide HIH X F' V' wr ((unhide HG).below hbl (Nat.le_refl _)) hWr hF' hV' hI' hzz hXn hreach)
          have HBR := hide hB'
          have HFR := hide hfr'
          have HEX := hide hE'
          clear hWr hF' hV' hI' hE' hB' hfr' hzz hreach hbl
          go_wp2_with fail
          refine (unhide HREC).mono ?_
          rintro e w3 ⟨hfr3, hout⟩
          have hfrw := (unhide HFR).trans hfr3
          have hbwr : w.heap.size < wr.heap.size := (unhide HBR).lt
          have hB3 := (unhide HBR).keep (hfr3.block _ hbwr (by omega) (by omega))
          have hW3 := (unhide HW).fr hfrw h4 h5
          obtain ⟨z0, z1, z2⟩ := hW3.all
          rcases hout with ⟨rfl, F'', V'', hF3, hV3, hI3, hE3, hX2⟩ | ⟨rfl, hcyc⟩
          · have q0 := hV3.cell (k := X) (by rw [hI3.lv]; exact hXn)
            have hkk : kidV V'' (r.take k) = kidV V' (r.take k) := by
              unfold kidV
              refine List.map_congr_left fun y hy => ?_
              exact (hE3.keep y.toNat (by rw [unhide HD' y hy]; omega)).2
            rw [← hkk] at hB3
            have hbl3 : (kidV V'' (r.take k)).length = k := by unfold kidV; rw [List.length_map, List.length_take]; omega
            have hrw : (kidV V'' (r.take k) ++ List.replicate (r.length - k) 0).set k V''[X]! = kidV V'' (r.take (k + 1)) ++ List.replicate (r.length - (k + 1)) 0 := by
              rw [htk, show r.length - k = (r.length - (k + 1)) + 1 by omega, List.replicate_succ, List.set_append, if_neg (by omega), hbl3, Nat.sub_self, List.set_cons_zero]
              unfold kidV
              simp
            have hst := hB3.set k V''[X]!
            rw [hrw] at hst
            have fz := hB3.frozen k
            have cz := hB3.cell (k := k) (by rw [List.length_append, hbl3, List.length_replicate]; omega)
            have HST := hide hst
            have HV3 : Hid (rowN (w3.setCell ⟨w.heap.size, k, none⟩ (.int .i64 (V''[X]! : Int))) gv V'') := hide (hV3.keep (Below.heap_setCell _ _ _ _ (by simp only; omega)))
            have HF3 : Hid (rowN (w3.setCell ⟨w.heap.size, k, none⟩ (.int .i64 (V''[X]! : Int))) gf F'') := hide (hF3.keep (Below.heap_setCell _ _ _ _ (by simp only; omega)))
            have HFR3 : Hid (Fr2 gf gv w (w3.setCell ⟨w.heap.size, k, none⟩ (.int .i64 (V''[X]! : Int)))) := hide (hfrw.put (.inr (.inr (Nat.le_refl _))) _ _)
            have HDD : Hid (∀ y ∈ r.take (k + 1), F''[y.toNat]! = 2) := hide (fun y hy => by
              rw [htk] at hy
              rcases List.mem_append.1 hy with hy | hy
              · have a := unhide HD' y hy
                rw [(hE3.keep y.toNat (by rw [a]; omega)).1]; exact a
              · simp only [List.mem_singleton] at hy
                subst hy
                exact hX2)
            have HE3 := hide ((unhide HEX).trans hE3)
            have HI3 := hide hI3
            generalize V''[X]! = vx at *
            clear hF3 hV3 hI3 hE3 hX2 hkk hst hrw htk hfrw hfr3 hW3 hB3 hbl3
            go_wp2
            go_roundw
            case rel => exact ⟨k + 1, F'', V'', by omega, by go_num, unhide HF3, unhide HV3, unhide HI3, unhide HE3, HDD, unhide HST, unhide HFR3⟩
            case measure => simp only [intOf]; omega
          · have HCY := hide hcyc
            have HFW := hide hfrw
            clear hcyc hfrw hfr3 hW3 hB3
            go_wp2
            go_ret
            exact ⟨unhide HFW, .inr ⟨rfl, unhide HCY⟩⟩
        · have hlti : ¬ (k : Int) < (r.length : Int) := by omega
          obtain rfl : k = r.length := by omega
          rw [List.take_length] at HD' hB'
          rw [Nat.sub_self, List.replicate_zero, List.append_nil] at hB'
          have hkl : (kidV V' r).length = r.length := by unfold kidV; rw [List.length_map]
          obtain ⟨M, hM⟩ : ∃ M, M = mexN (kidV V' r) := ⟨_, rfl⟩
          have HLM : Hid (∀ u, Below wr.heap.size wr u → Calls Try.prog 31 #[.slice (some ⟨w.heap.size, 0, none⟩) r.length r.length] u fun e w' => e = .returned (.int .i64 (M : Int)) ∧ Below u.heap.size u w') := by
            refine hide fun u hu => ?_
            have := leastMissing_any wr.heap.size (some ⟨w.heap.size, 0, none⟩) r.length (kidV V' r) u (by have := (hB'.is (by omega) hB'.lt).keep (fun k hk => hu.block k hk) (Nat.le_refl _); rwa [hkl] at this) hu.size (by omega)
            rw [hkl, ← hM] at this
            exact this
          have hvr : gv < wr.heap.size := hV'.lt
          have hbr : b < wr.heap.size := hWr.lt
          have hfr : gf < wr.heap.size := hF'.lt
          have HCL : Hid (∀ u, Below wr.heap.size wr u → u.cell? ⟨b, 2, none⟩ = some (.slice (some ⟨gv, 0, none⟩) G.length G.length) ∧ u.frozen? ⟨gv, i, none⟩ = false ∧ u.cell? ⟨gv, i, none⟩ = some (.int .i64 (V'[i]! : Int))) := hide fun u hu => by
            have a := hV'.keep (hu.block gv hvr)
            exact ⟨(hu.cell (p := ⟨b, 2, none⟩) hbr).trans y2, a.frozen i, a.cell (by rw [hI'.lv]; exact hi)⟩
          have HEND : Hid (∀ u, Below wr.heap.size wr u → (u.setCell ⟨gv, i, none⟩ (.int .i64 (M : Int))).cell? ⟨b, 2, none⟩ = some (.slice (some ⟨gv, 0, none⟩) G.length G.length) ∧ (u.setCell ⟨gv, i, none⟩ (.int .i64 (M : Int))).cell? ⟨b, 1, none⟩ = some (.slice (some ⟨gf, 0, none⟩) G.length G.length) ∧ (u.setCell ⟨gv, i, none⟩ (.int .i64 (M : Int))).frozen? ⟨gf, i, none⟩ = false ∧ (u.setCell ⟨gv, i, none⟩ (.int .i64 (M : Int))).cell? ⟨gf, i, none⟩ = some (.int .i64 (F'[i]! : Int)) ∧
              ThrEnd G gf gv F V i w (.returned (.bool true)) ((u.setCell ⟨gv, i, none⟩ (.int .i64 (M : Int))).setCell ⟨gf, i, none⟩ (.int .i64 2))) := hide fun u hu => by
            have a := hV'.keep (hu.block gv hvr)
            have b0 := (hF'.keep (hu.block gf hfr)).keep (w' := u.setCell ⟨gv, i, none⟩ (.int .i64 (M : Int))) (Below.heap_setCell _ _ _ _ (by simp only; omega))
            have fru : Fr2 gf gv w (u.setCell ⟨gv, i, none⟩ (.int .i64 (M : Int))) := (hfr'.trans (.of hu)).put (.inr (.inl rfl)) _ _
            have hWu := (unhide HW).fr fru h4 h5
            have h1i : F'[i]! = 1 := by
              have hs : (F.set i 1)[i]! = 1 := by rw [get_set!, if_pos ⟨rfl, by rw [(unhide HI).lf]; exact hi⟩]
              rw [(hE'.keep i (by rw [hs]; omega)).1, hs]
            refine ⟨hWu.all.2.2, hWu.all.2.1, b0.frozen i, b0.cell (by rw [hI'.lf]; exact hi), ?_, .inl ⟨rfl, F'.set i 2, V'.set i M, b0.set i 2, ?_, ?_, ?_, ?_⟩⟩
            · exact fru.put (.inl rfl) _ _
            · exact (a.set i M).keep (Below.heap_setCell _ _ _ _ (by simp only; omega))
            · rw [hM]; exact hI'.finish (unhide HRR) h1i (unhide HD')
            · exact DExt.finish M (unhide HF0) (by rw [hI'.lf, (unhide HI).lf]) hE' (by rw [(unhide HI).lf]; exact hi)
            · rw [get_set!, if_pos ⟨rfl, by rw [hI'.lf]; exact hi⟩]
          obtain ⟨q2, -, -⟩ := unhide HCL wr.drew ⟨rfl, rfl, rfl, Nat.le_refl _, fun _ _ => rfl⟩
          have HBD : Hid (Below wr.heap.size wr wr.drew) := hide ⟨rfl, rfl, rfl, Nat.le_refl _, fun _ _ => rfl⟩
          clear hWr hF' hV' hI' hE' hB' hfr' hM hkl y0 y1 y2
          go_upto_region 15 with fail
          go_region_held3 (fun u => u.cell? ⟨b, 2, none⟩ = some (.slice (some ⟨gv, 0, none⟩) G.length G.length))
            (first
              | (go_keep; done)
              | with_reducible exact q2
              | with_reducible exact k2
              | with_reducible exact j0)
            (first | (go_at_call 31; (with_reducible refine (unhide HLM _ (unhide HBD)).mono ?_); rintro e w4 ⟨rfl, hb⟩; have hb4 := (unhide HBD).trans hb; obtain ⟨k2, k3, k4⟩ := unhide HCL w4 hb4; obtain ⟨j0, j1, j2, j3, j4⟩ := unhide HEND w4 hb4; have HJ := hide j4; clear j4 hb))
          all_goals go_wp2
          all_goals go_ret
          all_goals exact unhide HJ
end Go.Proofs.Ytphnjedoghopcaa
