/-
  package moves, walked: appendDrops.
-/
import Derived.Test.YtihojhfpepbjhaaGreatDoorJ9
import Derived.Deep.Onto
namespace Go.Proofs.YtihojhfpepbjhaaGreatDoor
open Go.RowKit
attribute [local go_sem ↓] Go.wp_at_zero Go.wp_at_succ

/-- A move: whence (-1: out of the hand), where to, which piece. -/
structure Mv where
  f : Int
  t : Nat
  c : Nat
deriving DecidableEq
def mvals (L : List Mv) : List Value := L.flatMap fun m => [.int .i64 m.f, .int .i64 (m.t : Int), .int .u8 (m.c : Int)]
theorem mvals_snoc (L : List Mv) (m : Mv) : mvals (L ++ [m]) = mvals L ++ [.int .i64 m.f, .int .i64 (m.t : Int), .int .u8 (m.c : Int)] := by simp [mvals]
theorem infoMove : (Tryz.prog.info? 61).map (fun i => (i.zero, i.size, i.bytes)) = some (some (.agg #[.int .i64 0, .int .i64 0, .int .u8 0]), 3, 24) := by kernel_rfl
def mkD (to : Nat) (c : UInt8) : Mv := ⟨-1, to, c.toNat⟩
/-- What a hand's letters can do at a cell; at all cells below one. -/
def dropAt (C : ByteArray) (h : List UInt8) (to : Nat) : List Mv := if cellN C to = 46 then h.map (mkD to) else []
def dropsTo (C : ByteArray) (h : List UInt8) (n : Nat) : List Mv := (List.range n).flatMap (dropAt C h)
theorem dropsTo_succ (C : ByteArray) (h : List UInt8) (n : Nat) : dropsTo C h (n + 1) = dropsTo C h n ++ dropAt C h n := by unfold dropsTo; rw [List.range_succ, List.flatMap_append]; simp
theorem dropsTo_len (C : ByteArray) (h : List UInt8) (n : Nat) : (dropsTo C h n).length ≤ n * h.length := by
  induction n with
  | zero => simp [dropsTo]
  | succ n ih =>
    rw [dropsTo_succ, List.length_append, Nat.succ_mul]
    have : (dropAt C h n).length ≤ h.length := by unfold dropAt; split <;> simp
    omega
theorem RowM.below {w w' : World} {g B : Nat} {l : List UInt8} (h : RowM w g l) (hb : Below B w w') (hg : g < B) : RowM w' g l := by
  obtain ⟨cur, m, h1, h2, h3⟩ := h
  exact ⟨cur, m, by rw [hb.block g hg]; exact h1, h2, h3⟩
theorem RowM.lt {w : World} {g : Nat} {l : List UInt8} (h : RowM w g l) : g < w.heap.size := by
  obtain ⟨cur, m, h1, -⟩ := h
  exact (Array.getElem?_eq_some_iff.1 h1).1
/-- The hand of the player whose turn it is. -/
def handOf (T : Nat) (A B : ByteArray) : ByteArray := if T = 0 then A else B
theorem hand_cell (w : World) (b T : Nat) (W H T' : Int) (C A B : ByteArray) (h : isPb w b W H T' C A B) (hT : T ≤ 1) : w.cell? ⟨b, 4 + T, none⟩ = some (.string (handOf T A B)) := by
  obtain ⟨-, -, -, -, p4, p5⟩ := h.all
  rcases (by omega : T = 0 ∨ T = 1) with rfl | rfl
  · exact p4
  · exact p5

set_option maxHeartbeats 4000000 in
set_option maxRecDepth 100000 in
theorem appendDrops_any (W H T : Nat) (C A B : ByteArray) (w : World) (hT : T ≤ 1) (hA : A.size ≤ 8) (hB : B.size ≤ 8) (hC : C.size ≤ 64) :
    Calls Tryz.prog 127 #[.slice none 0 0, .agg #[.int .i64 (W : Int), .int .i64 (H : Int), .string C, .int .i64 (T : Int), .string A, .string B]] w fun e w' => ∃ v, e = .returned v ∧ w'.ownsRow w.heap.size 61 3 v (dropsTo C (cptN (handOf T A B).data.toList (handOf T A B).size) C.size).length (mvals (dropsTo C (cptN (handOf T A B).data.toList (handOf T A B).size) C.size)) ∧ Below w.heap.size w w' := by
  obtain ⟨i0, hi, hz0, hz1, hz2⟩ := info_parts infoMove
  obtain ⟨h, hh⟩ : ∃ h, h = handOf T A B := ⟨_, rfl⟩
  rw [← hh]
  have hh8 : h.size ≤ 8 := by rw [hh]; unfold handOf; split <;> assumption
  obtain ⟨wa, hwa⟩ : ∃ wa, wa = w.alloc (.cells #[.int .i64 (W : Int), .int .i64 (H : Int), .string C, .int .i64 (T : Int), .string A, .string B] 24 (0, 0)) := ⟨_, rfl⟩
  have hba : Below w.heap.size w wa := by rw [hwa]; exact (Below.refl _ _).alloc (Nat.le_refl _) _
  have hpb : isPb wa w.heap.size W H T C A B := by rw [hwa]; exact heap_alloc_new w _
  have hsa : wa.heap.size = w.heap.size + 1 := by rw [hwa]; simp
  have hhc := hand_cell wa w.heap.size T _ _ _ C A B hpb hT
  rw [← hh] at hhc
  have hcv := run_bytes_of_string (P := Tryz.prog) wa 9 127 5 h Tryz.underlying9 Tryz.underlying127 Tryz.underlying5
  obtain ⟨cap, hcap⟩ : ∃ cap, cap = grownCap wa h.size 0 5 := ⟨_, rfl⟩
  rw [← hcap] at hcv
  obtain ⟨w1, hw1⟩ : ∃ w1, w1 = wa.drew.alloc (.cells (bytesRow h cap) 5 ((bytesRow h cap).size, (bytesRow h cap).size + 1)) := ⟨_, rfl⟩
  rw [← hw1, hsa] at hcv
  have hrow1 : RowM w1 (w.heap.size + 1) h.data.toList := by
    have := rowM_new wa.drew h cap
    rw [← hw1, show wa.drew.heap.size = w.heap.size + 1 from hsa] at this
    simpa [flipTo] using this
  have hb1 : Below wa.heap.size wa w1 := by rw [hw1]; exact (Below.refl _ _).drew.alloc (Nat.le_refl _) _
  have hs1 : w1.heap.size = w.heap.size + 2 := by rw [hw1]; show (wa.drew.alloc _).heap.size = _; simp; exact hsa
  have hp1 : isPb w1 w.heap.size W H T C A B := hpb.below hb1 (by omega)
  have hcm : h.size ≤ cap ∧ cap ≤ maxLen := by rw [hcap]; exact ⟨grownCap_ge _ _ _ _, grownCap_le_maxLen _ _ _ _ (by unfold maxLen; omega)⟩
  have HCP := hide (Compact_any (w.heap.size + 1) h.size cap h.data.toList w1 hrow1 (len_data h) (by omega) hcm.1 hcm.2)
  obtain ⟨lt, hlt⟩ : ∃ lt, lt = cptN h.data.toList h.size := ⟨_, rfl⟩
  have hl8 : lt.length ≤ 8 := by rw [hlt]; exact Nat.le_trans (cptN_le _ _) hh8
  rw [← hlt] at HCP ⊢
  have HBW : Hid (Below w.heap.size w w1) := hide (hba.trans (hb1.mono (by omega)))
  have HP1 := hide hp1
  have HS1 := hide hs1
  rw [hwa] at hcv hhc
  clear hh hrow1 hb1 hs1 hp1 hw1 hwa hba hpb hsa hcap hlt
  go_enter Tryz.func127, Tryz.ntmps127
  go_wp2_with fail
  refine (unhide HCP).mono ?_
  rintro e w2 ⟨rfl, hrow2, hbt2⟩
  have hs2 : w.heap.size + 2 ≤ w2.heap.size := by have := hbt2.size; rw [unhide HS1] at this; exact this
  have hp2 : isPb w2 w.heap.size W H T C A B := (unhide HP1).bt hbt2 (by omega)
  have hb2 : Below w.heap.size w w2 := (unhide HBW).trans (hbt2.below (by omega) (by rw [unhide HS1]; omega))
  obtain ⟨-, -, p2, -⟩ := hp2.all
  have HP2 := hide hp2
  have HB2 := hide hb2
  have HROW2 := hide hrow2
  clear HCP HP1 HS1 HBW hcv hhc hrow2 hbt2 hp2 hb2
  go_wp2
  go_loopw [0, 21] (fun lv iv wr => ∃ to : Nat, iv = .int .i64 (to : Int) ∧ to ≤ C.size ∧ wr.ownsRow (w.heap.size + 2) 61 3 lv (dropsTo C lt to).length (mvals (dropsTo C lt to)) ∧ isPb wr w.heap.size W H T C A B ∧ RowM wr (w.heap.size + 1) lt ∧ Below w.heap.size w wr ∧ w.heap.size + 2 ≤ wr.heap.size) (fun _ iv _ => C.size - (intOf iv).toNat)
  case atStart => exact ⟨0, rfl, Nat.zero_le _, World.ownsRow_nil _ _ _ _, unhide HP2, unhide HROW2, unhide HB2, hs2⟩
  case round =>
    obtain ⟨to, rfl, hto, hown, hpb, hrow, hbw, hsz⟩ := hrel
    clear HP2 HB2 HROW2 p2
    by_cases hlt : to < C.size
    · have hlti : (to : Int) < (C.size : Int) := by omega
      obtain ⟨hcn, h256⟩ := cellN_at C to hlt
      obtain ⟨N, hN⟩ : ∃ N, N = cellN C to := ⟨_, rfl⟩
      rw [← hN] at hcn h256
      obtain ⟨-, -, p2, -⟩ := hpb.all
      have HPB := hide hpb
      have HROW := hide hrow
      have HBW := hide hbw
      have HOWN := hide hown
      have hlen := dropsTo_len C lt to
      have hmul : to * lt.length ≤ 63 * 8 := Nat.mul_le_mul (by omega) hl8
      have hdl : (dropsTo C lt to).length ≤ 504 := by omega
      have hsu := dropsTo_succ C lt to
      clear hpb hrow hbw hown hlen hmul
      by_cases h46 : N = 46
      · have hb : ((N : Int) != 46) = false := by simp; omega
        have hat : dropAt C lt to = lt.map (mkD to) := by unfold dropAt; rw [← hN, if_pos h46]
        rw [hat] at hsu
        have HSU := hide hsu
        clear hN hat hsu h46
        have hl8i : (lt.length : Int) ≤ 8 := by omega
        go_wp2
        go_loopw [0, 31] (fun lv jv wr => ∃ j : Nat, jv = .int .i64 (j : Int) ∧ j ≤ lt.length ∧ wr.ownsRow (w.heap.size + 2) 61 3 lv (dropsTo C lt to ++ (lt.take j).map (mkD to)).length (mvals (dropsTo C lt to ++ (lt.take j).map (mkD to))) ∧ isPb wr w.heap.size W H T C A B ∧ RowM wr (w.heap.size + 1) lt ∧ Below w.heap.size w wr ∧ w.heap.size + 2 ≤ wr.heap.size) (fun _ jv _ => lt.length - (intOf jv).toNat)
        case atStart => exact ⟨0, rfl, Nat.zero_le _, by simpa using unhide HOWN, unhide HPB, unhide HROW, unhide HBW, hsz⟩
        case round =>
          obtain ⟨j, rfl, hj, hown, hpb, hrow, hbw, hszj⟩ := hrel
          clear HPB HROW HBW HOWN p2
          by_cases hjl : j < lt.length
          · have hjli : (j : Int) < (lt.length : Int) := by omega
            have cj := hrow.cell j hjl
            obtain ⟨c, hc⟩ : ∃ c, c = lt[j] := ⟨_, rfl⟩
            rw [← hc] at cj
            have htk : (lt.take (j + 1)).map (mkD to) = (lt.take j).map (mkD to) ++ [⟨-1, to, c.toNat⟩] := by rw [List.take_succ_eq_append_getElem hjl, List.map_append, hc]; rfl
            have HTK := hide htk
            obtain ⟨L, hL⟩ : ∃ L : List Mv, L = dropsTo C lt to ++ (lt.take j).map (mkD to) := ⟨_, rfl⟩
            have hLl : L.length ≤ 512 := by rw [hL, List.length_append, List.length_map, List.length_take]; omega
            rw [← hL] at hown
            have HL := hide hL
            have HPB := hide hpb
            have HROW := hide hrow
            have HBW := hide hbw
            have hge := own_ge hown
            have HGE := hide hge
            clear hpb hrow hbw hc htk hL hge
            go_wp2_with (at_builtin; refine wpList_append_own _ rfl _ _ 56 rfl (w.heap.size + 2) 61 i0 _ 3 24 Tryz.underlying56 hi hz0 hz1 hz2 rfl (by decide) _ _ _ rfl (hown.alloc _) ⟨wr.heap.size, 0, none⟩ 1 1 [.int .i64 (-1), .int .i64 (to : Int), .int .u8 (c.toNat : Int)] rfl rfl ?c1 ?c2 ?c3 ?c4 ?c5 ?_)
            case c1 =>
              intro j u hj
              match j, hj with
              | 0, hj => simp at hj; subst hj; simp [Addr.add]
              | 1, hj => simp at hj; subst hj; simp [Addr.add]
              | 2, hj => simp at hj; subst hj; simp [Addr.add]
            case c2 =>
              intro u hu
              simp only [List.mem_cons, List.not_mem_nil, or_false] at hu
              rcases hu with rfl | rfl | rfl <;> rfl
            case c3 => unfold maxLen; omega
            case c4 => omega
            case c5 => simp; omega
            intro v' w3 hown' hgrow _
            have hb3 : Below (w.heap.size + 2) wr w3 := ((Below.refl _ wr).alloc hszj _).grown hgrow (by simp; omega) (unhide HGE)
            have hown3 : w3.ownsRow (w.heap.size + 2) 61 3 v' (dropsTo C lt to ++ (lt.take (j + 1)).map (mkD to)).length (mvals (dropsTo C lt to ++ (lt.take (j + 1)).map (mkD to))) := by
              rw [unhide HTK, ← List.append_assoc, ← unhide HL, mvals_snoc, List.length_append]
              exact hown'
            have HOWN3 := hide hown3
            have HPB3 := hide ((unhide HPB).below hb3 (by omega))
            have HROW3 := hide ((unhide HROW).below hb3 (by omega))
            have HBW3 := hide ((unhide HBW).trans (hb3.mono (by omega)))
            have hsz3 : w.heap.size + 2 ≤ w3.heap.size := Nat.le_trans hszj hb3.size
            clear hown' hgrow hown hown3 hb3 HPB HROW HBW cj
            go_wp2
            go_roundw
            case rel => exact ⟨j + 1, by go_num, by omega, unhide HOWN3, unhide HPB3, unhide HROW3, unhide HBW3, hsz3⟩
            case measure => simp only [intOf]; omega
          · have hjli : ¬ (j : Int) < (lt.length : Int) := by omega
            rw [List.take_of_length_le (show lt.length ≤ j by omega), ← unhide HSU] at hown
            have HPB := hide hpb
            have HROW := hide hrow
            have HBW := hide hbw
            have HOWN := hide hown
            clear hpb hrow hbw hown
            go_wp2
            go_roundw
            case rel => exact ⟨to + 1, by go_num, by omega, unhide HOWN, unhide HPB, unhide HROW, unhide HBW, hszj⟩
            case measure => simp only [intOf]; omega
      · have hb : ((N : Int) != 46) = true := by simp; omega
        have hat : dropAt C lt to = [] := by unfold dropAt; rw [← hN, if_neg h46]
        rw [hat, List.append_nil] at hsu
        have HSU := hide hsu
        clear hN hat hsu h46
        go_wp2
        go_roundw
        case rel => exact ⟨to + 1, by go_num, by omega, by rw [unhide HSU]; exact unhide HOWN, unhide HPB, unhide HROW, unhide HBW, hsz⟩
        case measure => simp only [intOf]; omega
    · have hlti : ¬ (to : Int) < (C.size : Int) := by omega
      have HBW := hide hbw
      rw [show to = C.size by omega] at hown
      have HOWN := hide hown
      clear hpb hrow hbw hown
      go_wp2
      go_ret
      exact ⟨_, rfl, World.ownsRow.mono (unhide HOWN) (by omega), unhide HBW⟩
end Go.Proofs.YtihojhfpepbjhaaGreatDoor
