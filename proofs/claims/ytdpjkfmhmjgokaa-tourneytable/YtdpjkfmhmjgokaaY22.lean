/-
  The document's answer, walked: gameref.Ranks.
-/
import Derived.Test.YtdpjkfmhmjgokaaY21
namespace Go.Proofs.Ytdpjkfmhmjgokaa
open Go.RowKit
attribute [local go_sem ↓] Go.wp_at_zero Go.wp_at_succ

/-- What Ranks leaves. -/
structure RsE (n : Nat) (l : List Re) (w : World) (e : Ending) (w' : World) : Prop where
  bw : Below w.heap.size w w'
  out : ∃ v T, e = .returned v ∧ SoR l n T ∧ w'.ownsRow w.heap.size 34 3 v T.length (rvs T)
theorem RnF.drewN {w u : World} {v : Value} {n : Nat} {f : Nat → Int} (h : RnF w u v n f) (q : Nat) : RnF w (u.drewN q) v n f := ⟨⟨h.bw.os, h.bw.tape, h.bw.output, h.bw.size, h.bw.block⟩, h.lb, h.al.keep rfl⟩
theorem own_nilR (w : World) (base : Nat) : OuR w base (.slice none 0 0) [] := ⟨by simp [rvs], .inl ⟨rfl, rfl⟩⟩
theorem row_base {w : World} {base base' : Nat} {e : TypeId} {size n : Nat} {v : Value} {xs : List Value} (h : w.ownsRow base e size v n xs) (hb : base' ≤ base) : w.ownsRow base' e size v n xs := by
  obtain ⟨h1, h2⟩ := h
  refine ⟨h1, ?_⟩
  rcases h2 with h2 | ⟨g, cap, cur, e1, hb2, r⟩
  · exact .inl h2
  · exact .inr ⟨g, cap, cur, e1, by omega, r⟩


set_option maxHeartbeats 8000000 in
set_option maxRecDepth 100000 in
theorem Ranks_walk (n : Nat) (hn : n ≤ 200) (l : List Re) (hl : okL n l) (ao : Option Addr) (cap : Nat) (w : World) (h : isRs w w.heap.size ao cap l) :
    Calls Try.prog 10 #[.int .i64 (n : Int), .slice ao l.length cap] w (RsE n l w) := by
  obtain ⟨N, hN⟩ : ∃ N, N = l.length := ⟨_, rfl⟩
  have hN2 : N ≤ 10000 := by rw [hN]; exact hl.1
  have hcap := h.mx
  have hle := h.le
  rw [← hN] at hle
  unfold maxLen at hcap
  have hmf : ∀ (fn : Fn) (first cap : Array Value) (u : World), (Instr.makeFunc fn first cap).run Try.prog u = .ok (.func fn first cap) u := fun _ _ _ _ => rfl
  obtain ⟨wa, hwa⟩ : ∃ wa, wa = w.alloc (.cells #[.slice ao N cap] 22 (0, 0)) := ⟨_, rfl⟩
  have hsa : wa.heap.size = w.heap.size + 1 := by rw [hwa]; simp
  have hmk := made_ints n (by omega) wa
  rw [hsa] at hmk
  obtain ⟨wb, hwb⟩ : ∃ wb, wb = wa.alloc (.cells (ivf n fun _ => 0).toArray 3 (0, 0)) := ⟨_, rfl⟩
  rw [← hwb] at hmk
  have hF0 : RnF w wb (.slice ao N cap) n (fun i => if i < 0 then pts l i else 0) := by
    have h1 : Below w.heap.size w wa := by rw [hwa]; exact (Below.refl _ _).alloc (Nat.le_refl _) _
    have h2 : isLb wa w.heap.size (.slice ao N cap) := by rw [hwa]; exact heap_alloc_new w _
    have h3 : wb.heap[wa.heap.size]? = some (.cells (ivf n fun _ => 0).toArray 3 (0, 0)) := by rw [hwb]; exact heap_alloc_new wa _
    rw [hsa] at h3
    refine ⟨by rw [hwb]; exact h1.alloc (by omega) _, by rw [hwb]; exact (Below.heap_alloc _ _ _ (by omega)).trans h2, ?_⟩
    exact (AlR.of_block (Nat.le_refl _) (by omega) h3).congr fun i _ => by simp
  have HWA := hide hwa
  have HWB := hide hwb
  have HF0 := hide hF0
  have HPT : Hid (∀ (p : Int) u, RnF w u (.slice ao N cap) n (fun i => if i < p.toNat then pts l i else 0) → Calls Try.prog 24 #[.int .i64 p, .pointer (some ⟨w.heap.size, 0, none⟩)] u fun e w' => e = .returned (.int .i64 (pts l p)) ∧ w' = u) := hide (fun p u hu =>
    points_any n l hl p ao cap w.heap.size u (h.keep (fun k hk => hu.bw.block k hk) hu.bw.size) (by rw [← hN]; exact hu.lb))
  have HR := hide h
  have HN := hide hN
  have HL := hide hl
  rw [← hN]
  clear hwa hwb hF0 h hN hl hsa
  go_enter Try.func10, Try.ntmps10
  go_upto_region 3 with fail
  rw [← unhide HWA]
  clear HWA
  go_wp2
  clear HWB hmk
  go_loopw [8] (fun iv wr => ∃ p : Nat, p ≤ n ∧ iv = .int .i64 (p : Int) ∧ RnF w wr (.slice ao N cap) n (fun i => if i < p then pts l i else 0)) (fun iv _ => n - (intOf iv).toNat)
  case atStart => exact ⟨0, Nat.zero_le _, rfl, unhide HF0⟩
  case round =>
    obtain ⟨p, hp, rfl, hinv⟩ := hrel
    rename World => wr
    clear HF0
    by_cases hlt : p < n
    · have hlti : (p : Int) < (n : Int) := by omega
      have hp0 : (0 : Int) ≤ (p : Int) := by omega
      have HC := hide (unhide HPT (p : Int) wr (by rw [Int.toNat_natCast]; exact hinv))
      obtain ⟨c0, f0⟩ := hinv.al.cell hlt
      simp only [Nat.lt_irrefl, if_false] at c0
      obtain ⟨q, hq⟩ : ∃ q, q = pts l (p : Int) := ⟨_, rfl⟩
      rw [← hq] at HC
      have HE : Hid (RnF w (wr.setCell ⟨w.heap.size + 1, p, none⟩ (.int .i64 q)) (.slice ao N cap) n (fun i => if i < p + 1 then pts l i else 0)) := hide (by
        obtain ⟨h1, h2⟩ := hinv.al.put hlt q
        have key : ∀ k, k ≤ w.heap.size → (wr.setCell ⟨w.heap.size + 1, p, none⟩ (.int .i64 q)).heap[k]? = wr.heap[k]? := fun k hk => h2.block k (by have := hinv.size; omega) (by simp only [ne_eq, Option.some.injEq]; omega)
        refine ⟨⟨h2.os.trans hinv.bw.os, h2.tape.trans hinv.bw.tape, h2.output.trans hinv.bw.output, Nat.le_trans hinv.bw.size h2.size, fun k hk => (key k (by omega)).trans (hinv.bw.block k hk)⟩, (key _ (Nat.le_refl _)).trans hinv.lb, h1.congr fun i hi => ?_⟩
        by_cases e : i = p
        · subst e; simp [hq]
        · simp only [e, if_false]
          by_cases e2 : i < p
          · simp only [e2, if_true, show i < p + 1 by omega]
          · simp only [e2, if_false, show ¬ i < p + 1 by omega])
      clear hinv hq HPT
      go_wp2_with fail
      refine (unhide HC).mono ?_
      rintro e w5 ⟨rfl, rfl⟩
      clear HC
      go_wp2
      go_roundw
      case rel => exact ⟨p + 1, by omega, by go_num, unhide HE⟩
      case measure => simp only [intOf]; omega
    · have hlti : ¬ (p : Int) < (n : Int) := by omega
      have hG : RnF w wr (.slice ao N cap) n (fun i => pts l i) := ⟨hinv.bw, hinv.lb, hinv.al.congr fun i hi => by simp [show i < p by omega]⟩
      have HG := hide hG
      clear hinv hG HPT hmf
      go_wp2
      go_loopw [5, 9] (fun ov iv wr => ∃ (p : Nat) (T : List Rk), p ≤ n ∧ iv = .int .i64 (p : Int) ∧ Hid (RnF w wr (.slice ao N cap) n (fun i => pts l i)) ∧ Hid (SoR l p T) ∧ Hid (OuR wr (w.heap.size + 2) ov T)) (fun _ iv _ => n - (intOf iv).toNat)
      case atStart => exact ⟨0, [], Nat.zero_le _, rfl, HG, hide (SoR.start l), hide (own_nilR _ _)⟩
      case round =>
        obtain ⟨p2, T, hp2, rfl, HF, HS, HO⟩ := hrel
        rename World => wr
        clear HG
        by_cases hlt2 : p2 < n
        · have hlti2 : (p2 : Int) < (n : Int) := by omega
          have hp20 : (0 : Int) ≤ (p2 : Int) := by omega
          have hTl : T.length = p2 := (unhide HS).len
          obtain ⟨uo, uc, rfl⟩ : ∃ uo uc, u5 = .slice uo p2 uc := by
            rcases (unhide HO).row.2 with ⟨e1, e2⟩ | ⟨g, cp, cur, e1, -⟩
            · exact ⟨none, 0, by rw [e1, ← hTl, e2]⟩
            · exact ⟨some ⟨g, 0, none⟩, cp, by rw [e1, hTl]⟩
          obtain ⟨q, hq⟩ : ∃ q, q = pts l (p2 : Int) := ⟨_, rfl⟩
          have hal : ∀ p : Int, 0 ≤ pts l p ∧ pts l p ≤ 20000 := fun p => by
            have := pts_bound (n := n) (l := l) (fun r hr => (unhide HL).2 r hr) p
            have h2 := unhide HN
            omega
          have hot : ∀ i : Nat, 0 ≤ oth (pts l) (l.take i) (p2 : Int) ∧ oth (pts l) (l.take i) (p2 : Int) ≤ 200000000 := fun i => by
            have := oth_bound (n := n) (f := pts l) (c := 20000) (l := l.take i) (fun r hr => (unhide HL).2 r (List.mem_of_mem_take hr)) hal (p2 : Int)
            have h2 : ((l.take i).length : Int) ≤ 10000 := by rw [List.length_take]; have := unhide HN; omega
            omega
          have HAL := hide hal
          have HOT := hide hot
          obtain ⟨c0, -⟩ := (unhide HF).al.cell hlt2
          rw [← hq] at c0
          obtain ⟨bx, hbx⟩ : ∃ bx, bx = wr.heap.size := ⟨_, rfl⟩
          obtain ⟨wx, hwx⟩ : ∃ wx, wx = wr.alloc (.cells #[.int .i64 (p2 : Int), .int .i64 q, .int .i64 0] 34 (0, 0)) := ⟨_, rfl⟩
          have HX0 : Hid (RnF w wx (.slice ao N cap) n (fun i => pts l i)) := hide (by rw [hwx]; exact (unhide HF).alloc _)
          have HK0 : Hid (isKb wx bx ⟨p2, q, oth (pts l) (l.take 0) p2⟩) := hide (by rw [hwx, hbx]; simp only [List.take_zero, oth, sl]; exact heap_alloc_new wr _)
          have HNB : Hid (∀ k, (Value.slice uo p2 uc).ownBlock = some k → w.heap.size + 2 ≤ k ∧ k < bx) := hide (fun k hk => by rw [hbx]; exact row_block (unhide HO).row hk)
          have HO0 : Hid (OuR wx (w.heap.size + 2) (.slice uo p2 uc) T) := hide (by rw [hwx]; exact ⟨(unhide HO).row.alloc _⟩)
          have HBX : Hid (w.heap.size + 2 ≤ bx) := hide (by rw [hbx]; have := (unhide HF).size; omega)
          have HSTEP : Hid (∀ u o o', RnF w u (.slice ao N cap) n (fun i => pts l i) → isKb u bx ⟨p2, q, o⟩ → OuR u (w.heap.size + 2) (.slice uo p2 uc) T → RnF w (u.setCell ⟨bx, 2, none⟩ (.int .i64 o')).drew (.slice ao N cap) n (fun i => pts l i) ∧ isKb (u.setCell ⟨bx, 2, none⟩ (.int .i64 o')).drew bx ⟨p2, q, o'⟩ ∧ OuR (u.setCell ⟨bx, 2, none⟩ (.int .i64 o')).drew (w.heap.size + 2) (.slice uo p2 uc) T) := hide (fun u o o' h1 h2 h3 => by
            have hg := grown_set u bx 2 (.int .i64 o')
            refine ⟨(h1.grown hg (fun b hb => by cases hb; have := unhide HBX; omega)).drew, h2.put o', ⟨row_keep (h3.keep hg (fun b hb hk => by cases hb; have := (unhide HNB _ hk).2; omega)).row fun k _ => rfl⟩⟩)
          have HWX := hide hwx
          have HQ := hide hq
          have HBXE := hide hbx
          clear hwx hq hal hot HO HF
          go_upto_region 12 with fail
          rw [← unhide HWX, ← unhide HBXE]
          clear HWX HBXE c0 hbx
          go_wp2
          go_loopw [11] (fun iv wq => ∃ i : Nat, i ≤ N ∧ iv = .int .i64 (i : Int) ∧ Hid (RnF w wq (.slice ao N cap) n (fun i => pts l i)) ∧ Hid (isKb wq bx ⟨p2, q, oth (pts l) (l.take i) p2⟩) ∧ Hid (OuR wq (w.heap.size + 2) (.slice uo p2 uc) T)) (fun iv _ => N - (intOf iv).toNat)
          case atStart => exact ⟨0, Nat.zero_le _, rfl, HX0, HK0, HO0⟩
          case round =>
            obtain ⟨i, hi, rfl, HF, HK, HO⟩ := hrel
            rename World => wq
            clear HX0 HK0 HO0
            have cb := (unhide HF).lb.cell
            by_cases hlt3 : i < N
            · have hlti3 : (i : Int) < (N : Int) := by omega
              have hi0 : (0 : Int) ≤ (i : Int) := by omega
              obtain ⟨z, hz⟩ : ∃ z, l[i]? = some z := ⟨_, List.getElem?_eq_getElem (by rw [← unhide HN]; exact hlt3)⟩
              obtain ⟨gr, off, rfl, hgr, d0, d1, d2⟩ := (unhide HR).at_ hz
              have HD : Hid (∀ u, Below w.heap.size w u → u.cell? ⟨gr, off + i * 3, none⟩ = some (.int .i64 z.a) ∧ u.cell? ⟨gr, off + i * 3 + 1, none⟩ = some (.int .i64 z.b)) := hide (fun u hu => ⟨(World.cell?_of_block (a := ⟨gr, off + i * 3, none⟩) (hu.block gr hgr)).trans d0, (World.cell?_of_block (a := ⟨gr, off + i * 3 + 1, none⟩) (hu.block gr hgr)).trans d1⟩)
              have hok := (unhide HL).2 z (List.mem_of_getElem? hz)
              obtain ⟨a1, a2, a3, a4, a5, a6, a7⟩ := hok
              have hstep := oth_next (pts l) hz (p2 : Int)
              have b1 := unhide HOT i
              obtain ⟨A, hA⟩ : ∃ A : Nat, z.a = (A : Int) := ⟨z.a.toNat, by omega⟩
              obtain ⟨B, hB⟩ : ∃ B : Nat, z.b = (B : Int) := ⟨z.b.toNat, by omega⟩
              have hAn : A < n := by omega
              have hBn : B < n := by omega
              have hA0 : (0 : Int) ≤ (A : Int) := by omega
              have hB0 : (0 : Int) ≤ (B : Int) := by omega
              have hAi : (A : Int) < (n : Int) := by omega
              have hBi : (B : Int) < (n : Int) := by omega
              have hAB : A ≠ B := by omega
              rw [hA, hB] at HD
              unfold otR at hstep
              rw [hA, hB] at hstep
              obtain ⟨o, ho⟩ : ∃ o, o = oth (pts l) (l.take i) (p2 : Int) := ⟨_, rfl⟩
              obtain ⟨qa, hqa⟩ : ∃ o, o = pts l (A : Int) := ⟨_, rfl⟩
              obtain ⟨qb, hqb⟩ : ∃ o, o = pts l (B : Int) := ⟨_, rfl⟩
              have b2 := unhide HAL (A : Int)
              have b3 := unhide HAL (B : Int)
              have ca : wq.cell? ⟨w.heap.size + 1, A, none⟩ = some (.int .i64 qa) := by rw [((unhide HF).al.cell hAn).1, hqa]
              have cB : wq.cell? ⟨w.heap.size + 1, B, none⟩ = some (.int .i64 qb) := by rw [((unhide HF).al.cell hBn).1, hqb]
              rw [← ho] at HK b1 hstep
              rw [← hqa] at b2 hstep
              rw [← hqb] at b3 hstep
              obtain ⟨E1, e1⟩ : ∃ E : Bool, ((A : Int) == (p2 : Int)) = E := ⟨_, rfl⟩
              obtain ⟨E2, e2⟩ : ∃ E : Bool, ((B : Int) == (p2 : Int)) = E := ⟨_, rfl⟩
              obtain ⟨E1', e1'⟩ : ∃ E : Bool, (A == p2) = E := ⟨_, rfl⟩
              obtain ⟨E2', e2'⟩ : ∃ E : Bool, (B == p2) = E := ⟨_, rfl⟩
              have hE1 : E1' = E1 := by
                rw [← e1, ← e1', Bool.eq_iff_iff, beq_iff_eq, beq_iff_eq]; omega
              have hE2 : E2' = E2 := by
                rw [← e2, ← e2', Bool.eq_iff_iff, beq_iff_eq, beq_iff_eq]; omega
              subst hE1
              subst hE2
              have HBO : Hid (¬ (E1' = true ∧ E2' = true)) := hide (fun ⟨h1, h2⟩ => by
                rw [h1, beq_iff_eq] at e1'
                rw [h2, beq_iff_eq] at e2'
                omega)
              have HS2 : Hid (E1' = true → E2' = false → oth (pts l) (l.take (i + 1)) (p2 : Int) = o + qb) := hide (fun h1 h2 => by
                rw [h1, beq_iff_eq] at e1
                rw [h2, beq_eq_false_iff_ne] at e2
                rw [hstep, if_pos e1, if_neg e2]; omega)
              have HS3 : Hid (E1' = false → E2' = true → oth (pts l) (l.take (i + 1)) (p2 : Int) = o + qa) := hide (fun h1 h2 => by
                rw [h1, beq_eq_false_iff_ne] at e1
                rw [h2, beq_iff_eq] at e2
                rw [hstep, if_neg e1, if_pos e2]; omega)
              have HS4 : Hid (E1' = false → E2' = false → oth (pts l) (l.take (i + 1)) (p2 : Int) = o) := hide (fun h1 h2 => by
                rw [h1, beq_eq_false_iff_ne] at e1
                rw [h2, beq_eq_false_iff_ne] at e2
                rw [hstep, if_neg e1, if_neg e2]; omega)
              obtain ⟨c0, c1⟩ := unhide HD wq (unhide HF).bw
              obtain ⟨k0, k1, k2, kf⟩ := (unhide HK).cell
              simp only at k2
              clear hz a1 a2 a3 a4 a5 a6 a7 hstep ho hqa hqb hA hB hgr d0 d1 d2 HAL HOT k0 k1
              cases E1'
              · cases E2'
                · have HKN : Hid (isKb wq bx ⟨p2, q, oth (pts l) (l.take (i + 1)) p2⟩) := hide (by rw [unhide HS4 rfl rfl]; exact unhide HK)
                  clear HBO HS2 HS3 HS4 HD HSTEP
                  go_wp2
                  go_roundw
                  case rel => exact ⟨i + 1, by omega, by go_num, HF, HKN, HO⟩
                  case measure => simp only [intOf]; omega
                · obtain ⟨n1, n2, n3⟩ := unhide HSTEP wq o (o + qa) (unhide HF) (unhide HK) (unhide HO)
                  have HKN : Hid (isKb (wq.setCell ⟨bx, 2, none⟩ (.int .i64 (o + qa))).drew bx ⟨p2, q, oth (pts l) (l.take (i + 1)) p2⟩) := hide (by rw [unhide HS3 rfl rfl]; exact n2)
                  have HFN := hide n1
                  have HON := hide n3
                  clear HBO HS2 HS3 HS4 HD HSTEP n1 n2 n3
                  go_upto_region 18 with fail
                  go_region
                  go_wp2
                  go_roundw
                  case rel => exact ⟨i + 1, by omega, by go_num, HFN, HKN, HON⟩
                  case measure => simp only [intOf]; omega
              · cases E2'
                · obtain ⟨n1, n2, n3⟩ := unhide HSTEP wq o (o + qb) (unhide HF) (unhide HK) (unhide HO)
                  obtain ⟨wz, hwz⟩ : ∃ wz, wz = (wq.setCell ⟨bx, 2, none⟩ (.int .i64 (o + qb))).drew := ⟨_, rfl⟩
                  have HKN : Hid (isKb wz bx ⟨p2, q, oth (pts l) (l.take (i + 1)) p2⟩) := hide (by rw [unhide HS2 rfl rfl, hwz]; exact n2)
                  rw [← hwz] at n1 n3
                  have HFN := hide n1
                  have HON := hide n3
                  have HCZ := hide n1.lb.cell
                  have HDZ := hide (unhide HD wz n1.bw)
                  have HWZ := hide hwz
                  clear HBO HS2 HS3 HS4 HD HSTEP n1 n2 n3 hwz
                  go_upto_region 16 with fail
                  go_region
                  rw [← unhide HWZ]
                  clear HWZ c0 c1 cb k2 kf ca cB
                  have cb := unhide HCZ
                  obtain ⟨c0, c1⟩ := unhide HDZ
                  go_wp2
                  go_roundw
                  case rel => exact ⟨i + 1, by omega, by go_num, HFN, HKN, HON⟩
                  case measure => simp only [intOf]; omega
                · exact absurd ⟨rfl, rfl⟩ (unhide HBO)
            · have hlti3 : ¬ (i : Int) < (N : Int) := by omega
              have hil : l.take i = l := List.take_of_length_le (by have := unhide HN; omega)
              rw [hil] at HK
              obtain ⟨x, hx⟩ : ∃ x, x = rkOf l (p2 : Int) := ⟨_, rfl⟩
              have HKX : Hid (isKb wq bx x) := hide (by rw [hx]; unfold rkOf; rw [← unhide HQ]; exact unhide HK)
              have HXE := hide hx
              have HXP : Hid (x.p = (p2 : Int)) := hide (by rw [hx]; rfl)
              clear hil hx HK HSTEP HOT HAL
              obtain ⟨k0, k1, k2, -⟩ := (unhide HKX).cell
              obtain ⟨i0, hinfo, hz0, hz1, hz2⟩ := info_parts infoRk
              have HI := hide hinfo
              have HZ0 := hide hz0
              have HZ1 := hide hz1
              have HZ2 := hide hz2
              have HRW : Hid ((wq.alloc (.cells #[.int .i64 x.p, .int .i64 x.q, .int .i64 x.o] 34 (0, 0))).ownsRow (w.heap.size + 2) 34 3 (.slice uo p2 uc) p2 (rvs T)) := hide (by
                have := (unhide HO).row.alloc (.cells #[.int .i64 x.p, .int .i64 x.q, .int .i64 x.o] 34 (0, 0))
                rw [hTl] at this
                exact this)
              have HNW : Hid (∀ (j : Nat) (v : Value), (encR x)[j]? = some v → (wq.alloc (.cells #[.int .i64 x.p, .int .i64 x.q, .int .i64 x.o] 34 (0, 0))).cell? ((⟨wq.heap.size, 0, none⟩ : Addr).add j) = some v) := hide (fun j v hj => by
                rw [show (⟨wq.heap.size, 0, none⟩ : Addr).add j = ⟨wq.heap.size, j, none⟩ by (simp [Addr.add]; try omega)]
                rw [cell_of_row _ _ _ _ _ (0, 0) (heap_alloc_new wq (.cells #[.int .i64 x.p, .int .i64 x.q, .int .i64 x.o] 34 (0, 0)))]
                rw [← hj]
                rcases j with _ | _ | _ | j <;> simp [encR])
              have HNO : Hid (∀ v ∈ encR x, v.oneCell' = true) := hide (fun v hv => by
                simp only [encR, List.mem_cons, List.not_mem_nil, or_false] at hv
                rcases hv with rfl | rfl | rfl <;> rfl)
              have HBS : Hid (w.heap.size + 2 ≤ (wq.alloc (.cells #[.int .i64 x.p, .int .i64 x.q, .int .i64 x.o] 34 (0, 0))).heap.size) := hide (by have := (unhide HF).size; simp; omega)
              clear hinfo hz0 hz1 hz2
              go_wp2_with (at_builtin; refine wpList_append_own _ rfl (.tmp 84) (.tmp 86) 25 rfl (w.heap.size + 2) 34 i0 _ 3 24 Try.underlying25 (unhide HI) (unhide HZ0) (unhide HZ1) (unhide HZ2) rfl (by decide) (.slice uo p2 uc) p2 (rvs T) rfl (unhide HRW) ⟨wq.heap.size, 0, none⟩ 1 1 (encR x) rfl rfl (unhide HNW) (unhide HNO) (by unfold maxLen; omega) (by omega) (unhide HBS) ?_)
              intro v' w9 hrow hgr hiff
              obtain ⟨g, cp, hv, hcp, hcm, hL9⟩ : ∃ g cp, v' = .slice (some ⟨g, 0, none⟩) (p2 + 1) cp ∧ p2 + 1 ≤ cp ∧ cp ≤ maxLen ∧ RkL w9 (w.heap.size + 2) g cp (insK T x p2) := by
                have e0 : insK T x p2 = T ++ [x] := by unfold insK; rw [← hTl]; simp
                have e2 : rvs T ++ encR x = rvs (T ++ [x]) := by simp [rvs]
                rw [e2] at hrow
                rcases hrow.2 with ⟨-, e3⟩ | ⟨g, cp, cur, e1, hb, hgb, h1, h2, r⟩
                · omega
                · refine ⟨g, cp, e1, h1, h2, ⟨?_⟩⟩
                  rw [e0]
                  rw [e1] at hrow
                  rw [show (T ++ [x]).length = p2 + 1 by simp [hTl]]
                  exact hrow
              subst hv
              have HF9 : Hid (RnF w w9 (.slice ao N cap) n (fun i => pts l i)) := hide (((unhide HF).alloc _).grown hgr (fun b hb => by have := (unhide HNB b hb).1; omega))
              have HL9 := hide hL9
              have HI9 : Hid (InR T x p2) := hide (by rw [← hTl]; exact InR.start T x)
              have hgl : w.heap.size + 2 ≤ g := hL9.lt.1
              unfold maxLen at hcm
              clear hrow hgr hiff hL9 HRW HNW HNO HBS HI HZ0 HZ1 HZ2 HO HF HKX k0 k1 k2 cb
              go_wp2
              go_loopw [12] (fun kv wk => ∃ k : Nat, k ≤ p2 ∧ kv = .int .i64 (k : Int) ∧ Hid (RnF w wk (.slice ao N cap) n (fun i => pts l i)) ∧ Hid (InR T x k) ∧ Hid (RkL wk (w.heap.size + 2) g cp (insK T x k))) (fun kv _ => (intOf kv).toNat)
              case atStart => exact ⟨p2, Nat.le_refl _, rfl, HF9, HI9, HL9⟩
              case round =>
                obtain ⟨k, hk, rfl, HF, HI, HLK⟩ := hrel
                rename World => wk
                clear HF9 HI9 HL9
                cases k with
                | zero =>
                  have HSN : Hid (SoR l (p2 + 1) (insK T x 0)) := hide (by
                    have := (unhide HI).done0 (unhide HS).ord
                    rw [unhide HXE] at this ⊢
                    exact (unhide HS).next this)
                  have HON : Hid (∀ q, OuR (wk.drewN q) (w.heap.size + 2) (.slice (some ⟨g, 0, none⟩) (p2 + 1) cp) (insK T x 0)) := hide (fun q => by
                    have := (unhide HLK).row
                    rw [insK_len T x 0 (by omega), hTl] at this
                    exact ⟨by rw [insK_len T x 0 (by omega), hTl]; exact row_keep this fun k _ => rfl⟩)
                  have HFN := hide (fun q => (unhide HF).drewN q)
                  clear HF HI HLK
                  go_wp2_with fail
                  go_quiet (fail)
                  go_wp2
                  go_roundw
                  case rel => exact ⟨p2 + 1, insK T x 0, by omega, by go_num, hide (unhide HFN _), HSN, hide (unhide HON _)⟩
                  case measure => simp only [intOf]; omega
                | succ k1 =>
                  obtain ⟨K, hK⟩ : ∃ K, K = k1 + 1 := ⟨_, rfl⟩
                  rw [← hK] at hk HI HLK ⊢
                  have hk0 : (0 : Int) < (K : Int) := by omega
                  have hk0' : (0 : Int) ≤ (K : Int) := by omega
                  have hk1 : (K : Int) - 1 = (k1 : Int) := by omega
                  have hk10 : (0 : Int) ≤ (k1 : Int) := by omega
                  have hKn : (K : Int) < (p2 : Int) + 1 := by omega
                  have hk1n : (k1 : Int) < (p2 : Int) + 1 := by omega
                  have hKn' : (K : Int) < ((p2 + 1 : Nat) : Int) := by omega
                  have hk1n' : (k1 : Int) < ((p2 + 1 : Nat) : Int) := by omega
                  have wk1 : IntKind.i64.wrap (k1 : Int) = (k1 : Int) := by unfold IntKind.wrap; simp [IntKind.signed, IntKind.bits]; omega
                  have hdk : decide ((0 : Int) < (K : Int)) = true := by simp; omega
                  have hdk2 : decide (0 < K) = true := by simp; omega
                  obtain ⟨y, hy⟩ : ∃ y, T[k1]? = some y := ⟨_, List.getElem?_eq_getElem (by omega)⟩
                  have hxk : (insK T x K)[K]? = some x := insK_at T x K (by omega)
                  have hyk : (insK T x K)[k1]? = some y := by rw [hK]; exact insK_pre T x y k1 (by omega) hy
                  have HKD := hide hK
                  have HY := hide hy
                  have HXK := hide hxk
                  have HYK := hide hyk
                  obtain ⟨e0, z0⟩ := (unhide HLK).cell hxk 0 (by omega)
                  obtain ⟨e1, z1⟩ := (unhide HLK).cell hxk 1 (by omega)
                  obtain ⟨e2, z2⟩ := (unhide HLK).cell hxk 2 (by omega)
                  obtain ⟨y0, q0⟩ := (unhide HLK).cell hyk 0 (by omega)
                  obtain ⟨y1, q1⟩ := (unhide HLK).cell hyk 1 (by omega)
                  obtain ⟨y2, q2⟩ := (unhide HLK).cell hyk 2 (by omega)
                  rw [Nat.add_zero] at e0 z0 y0 q0
                  simp only [encR, List.getElem?_cons_zero, List.getElem?_cons_succ] at e0 e1 e2 y0 y1 y2
                  obtain ⟨bt, hbt⟩ : ∃ bt, bt = btr x y := ⟨_, rfl⟩
                  have HBT := hide hbt
                  have HNOX : Hid (bt = false → SoR l (p2 + 1) (insK T x K)) := hide (fun hb => by
                    have hi2 := unhide HI
                    rw [hK] at hi2 ⊢
                    have := hi2.doneS (unhide HS).ord hy (by rw [← hbt, hb]) (by rw [unhide HXP]; exact (unhide HS).below hy)
                    rw [unhide HXE] at this ⊢
                    exact (unhide HS).next this)
                  have HON : Hid (∀ u : World, u.heap[g]? = wk.heap[g]? → OuR u (w.heap.size + 2) (.slice (some ⟨g, 0, none⟩) (p2 + 1) cp) (insK T x K)) := hide (fun u hu => by
                    have := ((unhide HLK).keep hu).row
                    rw [insK_len T x K (by omega), hTl] at this
                    exact ⟨by rw [insK_len T x K (by omega), hTl]; exact this⟩)
                  clear hK hy hxk hyk hbt
                  have HB1 : Hid (bt = (decide (y.q < x.q) || (x.q == y.q && decide (y.o < x.o)))) := hide (by rw [unhide HBT]; rfl)
                  obtain ⟨D1, d1⟩ : ∃ D : Bool, decide (y.q < x.q) = D := ⟨_, rfl⟩
                  obtain ⟨D2, d2⟩ : ∃ D : Bool, (x.q == y.q) = D := ⟨_, rfl⟩
                  obtain ⟨D3, d3⟩ : ∃ D : Bool, decide (y.o < x.o) = D := ⟨_, rfl⟩
                  rw [d1, d2, d3] at HB1
                  have HCE : Hid (∀ u : World, u.heap[g]? = wk.heap[g]? → (u.cell? ⟨g, K * 3, none⟩ = some (.int .i64 x.p) ∧ u.cell? ⟨g, K * 3 + 1, none⟩ = some (.int .i64 x.q) ∧ u.cell? ⟨g, K * 3 + 2, none⟩ = some (.int .i64 x.o) ∧ u.cell? ⟨g, k1 * 3, none⟩ = some (.int .i64 y.p) ∧ u.cell? ⟨g, k1 * 3 + 1, none⟩ = some (.int .i64 y.q) ∧ u.cell? ⟨g, k1 * 3 + 2, none⟩ = some (.int .i64 y.o)) ∧ (u.frozen? ⟨g, K * 3, none⟩ = false ∧ u.frozen? ⟨g, K * 3 + 1, none⟩ = false ∧ u.frozen? ⟨g, K * 3 + 2, none⟩ = false ∧ u.frozen? ⟨g, k1 * 3, none⟩ = false ∧ u.frozen? ⟨g, k1 * 3 + 1, none⟩ = false ∧ u.frozen? ⟨g, k1 * 3 + 2, none⟩ = false)) := hide (fun u hu => by
                    have hE := (unhide HLK).keep hu
                    have f0 := hE.cell (unhide HXK) 0 (by omega)
                    have f1 := hE.cell (unhide HXK) 1 (by omega)
                    have f2 := hE.cell (unhide HXK) 2 (by omega)
                    have g0 := hE.cell (unhide HYK) 0 (by omega)
                    have g1 := hE.cell (unhide HYK) 1 (by omega)
                    have g2 := hE.cell (unhide HYK) 2 (by omega)
                    rw [Nat.add_zero] at f0 g0
                    exact ⟨⟨f0.1, f1.1, f2.1, g0.1, g1.1, g2.1⟩, f0.2, f1.2, f2.2, g0.2, g1.2, g2.2⟩)
                  have HSW : Hid (bt = true → ∀ u : World, u.heap[g]? = wk.heap[g]? → RnF w u (.slice ao N cap) n (fun i => pts l i) → InR T x k1 ∧ RkL ((((((u.setCell ⟨g, K * 3, none⟩ (.int .i64 y.p)).setCell ⟨g, K * 3 + 1, none⟩ (.int .i64 y.q)).setCell ⟨g, K * 3 + 2, none⟩ (.int .i64 y.o)).setCell ⟨g, k1 * 3, none⟩ (.int .i64 x.p)).setCell ⟨g, k1 * 3 + 1, none⟩ (.int .i64 x.q)).setCell ⟨g, k1 * 3 + 2, none⟩ (.int .i64 x.o)).drew (w.heap.size + 2) g cp (insK T x k1) ∧ RnF w ((((((u.setCell ⟨g, K * 3, none⟩ (.int .i64 y.p)).setCell ⟨g, K * 3 + 1, none⟩ (.int .i64 y.q)).setCell ⟨g, K * 3 + 2, none⟩ (.int .i64 y.o)).setCell ⟨g, k1 * 3, none⟩ (.int .i64 x.p)).setCell ⟨g, k1 * 3 + 1, none⟩ (.int .i64 x.q)).setCell ⟨g, k1 * 3 + 2, none⟩ (.int .i64 x.o)).drew (.slice ao N cap) n (fun i => pts l i)) := hide (fun hb u hu hF => by
                    have hKd := unhide HKD
                    have hi2 := unhide HI
                    rw [hKd] at hi2
                    refine ⟨hi2.next (unhide HY) (by rw [← unhide HBT, hb]), ?_⟩
                    obtain ⟨r1, w1⟩ := ((unhide HLK).keep hu).whole (unhide HXK) y
                    obtain ⟨r2, w2⟩ := r1.whole (i := k1) (x := y) (by rw [List.getElem?_set_ne (by omega)]; exact unhide HYK) x
                    have e : ((insK T x K).set K y).set k1 x = insK T x k1 := by rw [hKd]; exact insK_swap T x y k1 (by omega) (unhide HY)
                    rw [e] at r2
                    exact ⟨r2.keep rfl, ((hF.grown w1 (fun b hb => by cases hb; omega)).grown w2 (fun b hb => by cases hb; omega)).drew⟩)
                  have HFQ := hide (fun q => (unhide HF).drewN q)
                  clear HF HI HLK HBT HXK HYK HY HXP e0 y0 z0 z1 z2 q0 q1 q2
                  cases D1
                  · cases D2
                    · have HSN := hide (unhide HNOX (by rw [unhide HB1]; rfl))
                      clear HNOX HSW HCE HB1
                      go_wp2_with fail
                      go_quiet (fail)
                      go_wp2
                      go_roundw
                      case rel => exact ⟨p2 + 1, insK T x K, by omega, by go_num, hide (unhide HFQ _), HSN, hide (unhide HON _ rfl)⟩
                      case measure => simp only [intOf]; omega
                    · cases D3
                      · have HSN := hide (unhide HNOX (by rw [unhide HB1]; rfl))
                        clear HNOX HSW HCE HB1
                        go_wp2_with fail
                        go_quiet (fail)
                        go_wp2
                        go_roundw
                        case rel => exact ⟨p2 + 1, insK T x K, by omega, by go_num, hide (unhide HFQ _), HSN, hide (unhide HON _ rfl)⟩
                        case measure => simp only [intOf]; omega
                      · have HGO := hide (unhide HSW (by rw [unhide HB1]; rfl))
                        clear HNOX HSW HB1 HON
                        go_wp2_with fail
                        go_quiet (fail)
                        obtain ⟨⟨e0, e1', e2', y0, y1', y2'⟩, z0, z1, z2, q0, q1, q2⟩ := unhide HCE (wk.drewN nq) rfl
                        obtain ⟨t1, t2, t3⟩ := unhide HGO (wk.drewN nq) rfl (unhide HFQ _)
                        have HT1 := hide t1
                        have HT2 := hide t2
                        have HT3 := hide t3
                        clear t1 t2 t3 HCE HGO HFQ e1 e2 y1 y2
                        generalize wk.drewN nq = wv at *
                        go_upto_region 22 with fail
                        go_region
                        go_wp2
                        go_roundw
                        case rel => exact ⟨k1, by omega, by go_num, HT3, HT1, HT2⟩
                        case measure => simp only [intOf]; have := unhide HKD; omega
                  · have HGO := hide (unhide HSW (by rw [unhide HB1]; rfl))
                    clear HNOX HSW HB1 HON
                    go_wp2_with fail
                    go_quiet (fail)
                    obtain ⟨⟨e0, e1', e2', y0, y1', y2'⟩, z0, z1, z2, q0, q1, q2⟩ := unhide HCE (wk.drewN nq) rfl
                    obtain ⟨t1, t2, t3⟩ := unhide HGO (wk.drewN nq) rfl (unhide HFQ _)
                    have HT1 := hide t1
                    have HT2 := hide t2
                    have HT3 := hide t3
                    clear t1 t2 t3 HCE HGO HFQ e1 e2 y1 y2
                    generalize wk.drewN nq = wv at *
                    go_upto_region 22 with fail
                    go_region
                    go_wp2
                    go_roundw
                    case rel => exact ⟨k1, by omega, by go_num, HT3, HT1, HT2⟩
                    case measure => simp only [intOf]; have := unhide HKD; omega
        · have hlti2 : ¬ (p2 : Int) < (n : Int) := by omega
          have HE : Hid (RsE n l w (.returned u5) wr) := hide (by
            have e : p2 = n := by omega
            subst e
            exact ⟨(unhide HF).bw, u5, T, rfl, unhide HS, row_base (unhide HO).row (by omega)⟩)
          clear HF HS HO
          go_wp2
          go_ret
          exact unhide HE
end Go.Proofs.Ytdpjkfmhmjgokaa
