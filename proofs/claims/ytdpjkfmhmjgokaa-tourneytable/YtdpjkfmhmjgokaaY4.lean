/-
  package tourney, walked: ranksOf.
-/
import Derived.Test.YtdpjkfmhmjgokaaY3
namespace Go.Proofs.Ytdpjkfmhmjgokaa
open Go.RowKit Go.Sort
attribute [local go_sem ↓] Go.wp_at_zero Go.wp_at_succ

/-- What ranksOf leaves. -/
structure RaE (n : Nat) (l : List Re) (w : World) (e : Ending) (w' : World) : Prop where
  bw : Below w.heap.size w w'
  out : ∃ g ts, e = .returned (.slice (some ⟨g, 0, none⟩) n n) ∧ ts.length = n ∧ w'.ownsRow w.heap.size 34 3 (.slice (some ⟨g, 0, none⟩) n n) n (rvs ts) ∧ ts.Perm (rks n l) ∧ ts.Pairwise fun x y => ordR x y < 0

/-- While the points are gone through. -/
structure RaI (base g n : Nat) (f : Nat → Rk) (w u : World) : Prop where
  bw : Below w.heap.size w u
  row : RkR u base g n f

theorem RaI.alloc {base g n : Nat} {f : Nat → Rk} {w u : World} (h : RaI base g n f w u) (o : Obj) : RaI base g n f w (u.alloc o) := ⟨h.bw.alloc h.bw.size o, h.row.below ((Below.refl _ _).alloc (Nat.le_refl _) o)⟩
theorem RaI.put {base g n : Nat} {f : Nat → Rk} {w u : World} (h : RaI base g n f w u) (hb : w.heap.size ≤ base) {i : Nat} (hi : i < n) (c : Nat) (hc : c < 3) (v : Value) (x' : Rk) (hv : encR x' = (encR (f i)).set c v) : RaI base g n (fun k => if k = i then x' else f k) w (u.setCell ⟨g, i * 3 + c, none⟩ v).drew := by
  obtain ⟨h1, h2⟩ := h.row.put hi c hc v x' hv
  exact ⟨(below_grown h.bw h2 (Nat.le_trans hb h.row.lt.1)).drew, h1.keep rfl⟩
theorem RaI.congr {base g n : Nat} {f f' : Nat → Rk} {w u : World} (h : RaI base g n f w u) (he : ∀ i, i < n → f i = f' i) : RaI base g n f' w u := ⟨h.bw, h.row.congr he⟩
/-- A result in a box. -/
def isRb (u : World) (b : Nat) (z0 z1 z2 : Int) : Prop := u.heap[b]? = some (.cells #[.int .i64 z0, .int .i64 z1, .int .i64 z2] 49 (0, 0))
theorem isRb.cell {u : World} {b : Nat} {z0 z1 z2 : Int} (h : isRb u b z0 z1 z2) : u.cell? ⟨b, 0, none⟩ = some (.int .i64 z0) ∧ u.cell? ⟨b, 1, none⟩ = some (.int .i64 z1) ∧ u.cell? ⟨b, 2, none⟩ = some (.int .i64 z2) := by
  unfold isRb at h
  refine ⟨?_, ?_, ?_⟩ <;> simp [World.cell?, h]
theorem isRb.set {u : World} {b : Nat} {z0 z1 z2 : Int} (h : isRb u b z0 z1 z2) {g : Nat} (hg : g ≠ b) (j : Nat) (v : Value) : isRb (u.setCell ⟨g, j, none⟩ v).drew b z0 z1 z2 := by
  unfold isRb at *
  rw [← h]
  exact RowKit.Below.heap_setCell _ _ _ _ (Ne.symm hg)
theorem keys_nodup (n : Nat) (l : List Re) : ((rks n l).map keyR).Nodup := by
  rw [rks, List.map_map, List.nodup_iff_pairwise_ne, List.pairwise_map]
  refine List.nodup_range.imp fun h e => h ?_
  have e2 := congrArg (fun x : Int × Int × Int => x.2.2) e
  simp only [Function.comp, keyR, rkOf] at e2
  omega
/-- Points, one result more. -/
theorem pts_step {l : List Re} {k : Nat} {z : Re} (hz : l[k]? = some z) {A B : Nat} (hA : z.a = A) (hB : z.b = B) (hAB : A ≠ B) (i : Nat) :
    (if i = B then (⟨B, pts (l.take k) B + (2 - z.h), 0⟩ : Rk) else if i = A then ⟨A, pts (l.take k) A + z.h, 0⟩ else ⟨i, pts (l.take k) i, 0⟩) = ⟨i, pts (l.take (k + 1)) i, 0⟩ := by
  have e : ∀ p, pts (l.take (k + 1)) p = pts (l.take k) p + ptR p z := fun p => sl_snoc _ l k z hz
  rw [e]
  unfold ptR
  rw [hA, hB]
  by_cases h1 : i = B
  · subst h1
    simp [show ¬ (A : Int) = (i : Int) by omega]
  · by_cases h2 : i = A
    · subst h2
      simp [h1, show ¬ (B : Int) = (i : Int) by omega]
    · simp [h1, h2, show ¬ (A : Int) = (i : Int) by omega, show ¬ (B : Int) = (i : Int) by omega]
theorem oth_step {l : List Re} {k : Nat} {z : Re} (f : Int → Int) (hz : l[k]? = some z) {A B : Nat} (hA : z.a = A) (hB : z.b = B) (hAB : A ≠ B) (i : Nat) :
    (if i = B then (⟨B, f B, oth f (l.take k) B + f A⟩ : Rk) else if i = A then ⟨A, f A, oth f (l.take k) A + f B⟩ else ⟨i, f i, oth f (l.take k) i⟩) = ⟨i, f i, oth f (l.take (k + 1)) i⟩ := by
  have e : ∀ p, oth f (l.take (k + 1)) p = oth f (l.take k) p + otR f p z := fun p => sl_snoc _ l k z hz
  rw [e]
  unfold otR
  rw [hA, hB]
  by_cases h1 : i = B
  · subst h1
    simp [show ¬ (A : Int) = (i : Int) by omega]
  · by_cases h2 : i = A
    · subst h2
      simp [h1, show ¬ (B : Int) = (i : Int) by omega]
    · simp [h1, h2, show ¬ (A : Int) = (i : Int) by omega, show ¬ (B : Int) = (i : Int) by omega]

set_option maxHeartbeats 4000000 in
set_option maxRecDepth 100000 in
theorem ranksOf_walk (n : Nat) (hn : n ≤ 200) (l : List Re) (hl : okL n l) (ao : Option Addr) (cap : Nat) (w : World) (h : isRs w w.heap.size ao cap l) :
    Calls Try.prog 20 #[.int .i64 (n : Int), .slice ao l.length cap] w (RaE n l w) := by
  obtain ⟨i0, hinfo, hz0, hz1, hz2⟩ := info_parts infoRk
  obtain ⟨w1, hmk, hrow1, hg1⟩ := run_makeSlice_full (P := Try.prog) (w := w) w.heap.size 25 34 i0 _ 3 Try.underlying25 hinfo hz0 hz1 .i64 .i64 n (by omega) (by rw [hz2]; omega) (by unfold maxLen; omega) (Nat.le_refl _)
  rw [made_ranks] at hrow1
  obtain ⟨g, hg⟩ : ∃ g, g = w.heap.size := ⟨_, rfl⟩
  rw [← hg] at hmk hrow1
  have hb1 : Below w.heap.size w w1 := ⟨hg1.os, hg1.tape, hg1.output, hg1.size, fun k hk => hg1.block k hk (by simp)⟩
  have hI1 : RaI g g n (fun i => if i < 0 then ⟨i, 0, 0⟩ else ⟨0, 0, 0⟩) w w1 := ⟨hb1, ⟨by simpa using hrow1⟩⟩
  obtain ⟨N, hN⟩ : ∃ N, N = l.length := ⟨_, rfl⟩
  have hN2 : N ≤ 10000 := by rw [hN]; exact hl.1
  have HR := hide h
  have HN := hide hN
  have HG := hide hg
  have HL := hide hl
  have HI1 := hide hI1
  have hcap := h.mx
  have hle := h.le
  rw [← hN] at hle ⊢
  unfold maxLen at hcap
  clear hinfo hz0 hz1 hz2 hg1 hrow1 hb1 hI1 hl h hN hg
  go_enter Try.func20, Try.ntmps20
  go_wp2
  go_loopw [15] (fun iv wr => ∃ k : Nat, k ≤ n ∧ iv = .int .i64 (k : Int) ∧ RaI g g n (fun i => if i < k then ⟨i, 0, 0⟩ else ⟨0, 0, 0⟩) w wr) (fun iv _ => n - (intOf iv).toNat)
  case atStart => exact ⟨0, Nat.zero_le _, rfl, unhide HI1⟩
  case round =>
    obtain ⟨k, hk, rfl, hinv⟩ := hrel
    rename World => wr
    clear HI1
    by_cases hlt : k < n
    · have hlti : (k : Int) < (n : Int) := by omega
      have hk0 : (0 : Int) ≤ (k : Int) := by omega
      obtain ⟨c0, f0⟩ := hinv.row.cell hlt 0 (by omega)
      have c0 : wr.cell? ⟨g, k * 3 + 0, none⟩ = some (.int .i64 0) := by rw [c0]; simp [encR]
      rw [Nat.add_zero] at c0 f0
      have HE : Hid (RaI g g n (fun i => if i < k + 1 then ⟨i, 0, 0⟩ else ⟨0, 0, 0⟩) w (wr.setCell ⟨g, k * 3, none⟩ (.int .i64 (k : Int)))) := hide (by
        obtain ⟨h1, h2⟩ := hinv.row.put hlt 0 (by omega) (.int .i64 (k : Int)) ⟨k, 0, 0⟩ (by simp [encR])
        refine ⟨below_grown hinv.bw h2 (by rw [unhide HG]; omega), h1.congr fun i hi => ?_⟩
        by_cases e : i = k
        · subst e; simp
        · simp only [e, if_false]
          by_cases e2 : i < k
          · simp only [e2, if_true, show i < k + 1 by omega]
          · simp only [e2, if_false, show ¬ i < k + 1 by omega])
      clear hinv
      go_wp2
      go_roundw
      case rel => exact ⟨k + 1, by omega, by go_num, unhide HE⟩
      case measure => simp only [intOf]; omega
    · have hlti : ¬ (k : Int) < (n : Int) := by omega
      have hI2 : RaI g g n (fun i => ⟨i, pts (l.take 0) i, 0⟩) w wr := ⟨hinv.bw, hinv.row.congr fun i hi => by simp [pts, sl, show i < k by omega]⟩
      have HI2 := hide hI2
      clear hinv hI2
      go_wp2
      go_loopw [26] (fun iv wr => ∃ k : Nat, k ≤ N ∧ iv = .int .i64 (k : Int) ∧ RaI g g n (fun i => ⟨i, pts (l.take k) i, 0⟩) w wr) (fun iv _ => N - (intOf iv).toNat)
      case atStart => exact ⟨0, Nat.zero_le _, rfl, unhide HI2⟩
      case round =>
        obtain ⟨k, hk, rfl, hinv⟩ := hrel
        rename World => wr
        clear HI2
        by_cases hlt : k < N
        · have hlti : (k : Int) < (N : Int) := by omega
          have hk0 : (0 : Int) ≤ (k : Int) := by omega
          obtain ⟨z, hz⟩ : ∃ z, l[k]? = some z := ⟨_, List.getElem?_eq_getElem (by rw [← unhide HN]; exact hlt)⟩
          obtain ⟨gr, off, rfl, hgr, c0, c1, c2⟩ := ((unhide HR).below hinv.bw (Nat.le_refl _)).at_ hz
          have hok := (unhide HL).2 z (List.mem_of_getElem? hz)
          obtain ⟨a1, a2, a3, a4, a5, a6, a7⟩ := hok
          obtain ⟨A, hA⟩ : ∃ A : Nat, z.a = (A : Int) := ⟨z.a.toNat, by omega⟩
          obtain ⟨B, hB⟩ : ∃ B : Nat, z.b = (B : Int) := ⟨z.b.toNat, by omega⟩
          have hAn : A < n := by omega
          have hBn : B < n := by omega
          have hAB : A ≠ B := by omega
          obtain ⟨qa, hqa⟩ : ∃ q, q = pts (l.take k) (A : Int) := ⟨_, rfl⟩
          obtain ⟨qb, hqb⟩ : ∃ q, q = pts (l.take k) (B : Int) := ⟨_, rfl⟩
          have hbd : ∀ p, 0 ≤ pts (l.take k) p ∧ pts (l.take k) p ≤ 20000 := fun p => by
            have := pts_bound (n := n) (l := l.take k) (fun r hr => (unhide HL).2 r (List.mem_of_mem_take hr)) p
            have h2 : ((l.take k).length : Int) ≤ 10000 := by rw [List.length_take]; omega
            omega
          have hqa1 := hbd A
          have hqb1 := hbd B
          rw [← hqa] at hqa1
          rw [← hqb] at hqb1
          obtain ⟨hh, hhe⟩ : ∃ hh, hh = z.h := ⟨_, rfl⟩
          rw [hA] at c0
          rw [hB] at c1
          rw [← hhe] at c2 a6 a7
          obtain ⟨wi, hwi⟩ : ∃ wi, wi = wr.alloc (.cells #[.int .i64 (A : Int), .int .i64 (B : Int), .int .i64 hh] 49 (0, 0)) := ⟨_, rfl⟩
          have hbx : isRb wi wr.heap.size A B hh := by rw [hwi]; exact heap_alloc_new wr _
          have hri : RaI g g n (fun i => ⟨i, pts (l.take k) i, 0⟩) w wi := by rw [hwi]; exact hinv.alloc _
          have hgl := hinv.row.lt
          have hgw : w.heap.size ≤ g := by rw [unhide HG]; omega
          have ca : wi.cell? ⟨g, A * 3 + 1, none⟩ = some (.int .i64 qa) := (hri.row.cell hAn 1 (by omega)).1.trans (by rw [hqa]; rfl)
          have fa := (hri.row.cell hAn 1 (by omega)).2
          obtain ⟨y0, y1, y2⟩ := hbx.cell
          have hA0 : (0 : Int) ≤ (A : Int) := by omega
          have hB0 : (0 : Int) ≤ (B : Int) := by omega
          have hAi : (A : Int) < (n : Int) := by omega
          have hBi : (B : Int) < (n : Int) := by omega
          obtain ⟨v1, hv1⟩ : ∃ v : Int, qa + hh = v := ⟨_, rfl⟩
          obtain ⟨v2, hv2⟩ : ∃ v : Int, qb + (2 - hh) = v := ⟨_, rfl⟩
          obtain ⟨wj, hwj⟩ : ∃ wj, wj = (wi.setCell ⟨g, A * 3 + 1, none⟩ (.int .i64 v1)).drew := ⟨_, rfl⟩
          have hbj : isRb wj wr.heap.size A B hh := by rw [hwj]; exact hbx.set (by omega) _ _
          have hrj : RaI g g n (fun i => if i = A then ⟨A, v1, 0⟩ else ⟨i, pts (l.take k) i, 0⟩) w wj := by rw [hwj]; exact hri.put hgw hAn 1 (by omega) _ _ rfl
          have HF : Hid (RaI g g n (fun i => ⟨i, pts (l.take (k + 1)) i, 0⟩) w (wj.setCell ⟨g, B * 3 + 1, none⟩ (.int .i64 v2)).drew) := hide (by
            have h1 := hrj.put hgw hBn 1 (by omega) (.int .i64 v2) ⟨B, v2, 0⟩ (by simp [encR, Ne.symm hAB])
            refine h1.congr fun i hi => ?_
            rw [← pts_step hz hA hB hAB i, ← hv1, ← hv2, hqa, hqb, hhe])
          have hcb : Hid (wj.cell? ⟨g, B * 3 + 1, none⟩ = some (.int .i64 qb)) := hide ((hrj.row.cell hBn 1 (by omega)).1.trans (by rw [hqb]; simp [encR, Ne.symm hAB]))
          have hfb := hide (hrj.row.cell hBn 1 (by omega)).2
          have hyj := hide hbj.cell
          have HWI := hide hwi
          have HWJ := hide hwj
          clear hwi hwj hinv hbx hbj hrj hbd hqa hqb hhe hz a1 a2 a3 a4 a5 hA hB hri
          go_upto_region 10 with fail
          rw [← unhide HWI]
          clear HWI c0 c1 c2
          go_region
          go_upto_region 11 with fail
          rw [← unhide HWJ]
          clear ca fa y0 y1 y2 HWJ
          have cb := unhide hcb
          have fb := unhide hfb
          obtain ⟨y0, y1, y2⟩ := unhide hyj
          go_region
          go_wp2
          go_roundw
          case rel => exact ⟨k + 1, by omega, by go_num, unhide HF⟩
          case measure => simp only [intOf]; omega
        · have hlti : ¬ (k : Int) < (N : Int) := by omega
          have hkl : l.take k = l := List.take_of_length_le (by have := unhide HN; omega)
          have hI3 : RaI g g n (fun i => ⟨i, pts l i, oth (pts l) (l.take 0) i⟩) w wr := hinv.congr fun i hi => by rw [hkl]; simp [oth, sl]
          have HI3 := hide hI3
          clear hinv hI3 hkl
          go_wp2
          go_loopw [56] (fun iv wr => ∃ k : Nat, k ≤ N ∧ iv = .int .i64 (k : Int) ∧ RaI g g n (fun i => ⟨i, pts l i, oth (pts l) (l.take k) i⟩) w wr) (fun iv _ => N - (intOf iv).toNat)
          case atStart => exact ⟨0, Nat.zero_le _, rfl, unhide HI3⟩
          case round =>
            obtain ⟨k, hk, rfl, hinv⟩ := hrel
            rename World => wr
            clear HI3
            by_cases hlt : k < N
            · have hlti : (k : Int) < (N : Int) := by omega
              have hk0 : (0 : Int) ≤ (k : Int) := by omega
              obtain ⟨z, hz⟩ : ∃ z, l[k]? = some z := ⟨_, List.getElem?_eq_getElem (by rw [← unhide HN]; exact hlt)⟩
              obtain ⟨gr, off, rfl, hgr, c0, c1, c2⟩ := ((unhide HR).below hinv.bw (Nat.le_refl _)).at_ hz
              have hok := (unhide HL).2 z (List.mem_of_getElem? hz)
              obtain ⟨a1, a2, a3, a4, a5, a6, a7⟩ := hok
              obtain ⟨A, hA⟩ : ∃ A : Nat, z.a = (A : Int) := ⟨z.a.toNat, by omega⟩
              obtain ⟨B, hB⟩ : ∃ B : Nat, z.b = (B : Int) := ⟨z.b.toNat, by omega⟩
              have hAn : A < n := by omega
              have hBn : B < n := by omega
              have hAB : A ≠ B := by omega
              have hbd : ∀ p, 0 ≤ pts l p ∧ pts l p ≤ 20000 := fun p => by
                have := pts_bound (n := n) (l := l) (unhide HL).2 p
                have h2 : (l.length : Int) ≤ 10000 := by have := unhide HN; omega
                omega
              have hbo : ∀ p, 0 ≤ oth (pts l) (l.take k) p ∧ oth (pts l) (l.take k) p ≤ 200000000 := fun p => by
                have := oth_bound (n := n) (l := l.take k) (c := 20000) (fun r hr => (unhide HL).2 r (List.mem_of_mem_take hr)) hbd p
                have h2 : ((l.take k).length : Int) ≤ 10000 := by rw [List.length_take]; omega
                omega
              obtain ⟨qa, hqa⟩ : ∃ q, q = pts l (A : Int) := ⟨_, rfl⟩
              obtain ⟨qb, hqb⟩ : ∃ q, q = pts l (B : Int) := ⟨_, rfl⟩
              obtain ⟨oa, hoa⟩ : ∃ q, q = oth (pts l) (l.take k) (A : Int) := ⟨_, rfl⟩
              obtain ⟨ob, hob⟩ : ∃ q, q = oth (pts l) (l.take k) (B : Int) := ⟨_, rfl⟩
              have hqa1 := hbd A
              have hqb1 := hbd B
              have hoa1 := hbo A
              have hob1 := hbo B
              rw [← hqa] at hqa1
              rw [← hqb] at hqb1
              rw [← hoa] at hoa1
              rw [← hob] at hob1
              obtain ⟨hh, hhe⟩ : ∃ hh, hh = z.h := ⟨_, rfl⟩
              rw [hA] at c0
              rw [hB] at c1
              rw [← hhe] at c2 a6 a7
              obtain ⟨wi, hwi⟩ : ∃ wi, wi = wr.alloc (.cells #[.int .i64 (A : Int), .int .i64 (B : Int), .int .i64 hh] 49 (0, 0)) := ⟨_, rfl⟩
              have hbx : isRb wi wr.heap.size A B hh := by rw [hwi]; exact heap_alloc_new wr _
              have hri : RaI g g n (fun i => ⟨i, pts l i, oth (pts l) (l.take k) i⟩) w wi := by rw [hwi]; exact hinv.alloc _
              have hgl := hinv.row.lt
              have hgw : w.heap.size ≤ g := by rw [unhide HG]; omega
              have ca : wi.cell? ⟨g, A * 3 + 2, none⟩ = some (.int .i64 oa) := (hri.row.cell hAn 2 (by omega)).1.trans (by rw [hoa]; rfl)
              have ca2 : wi.cell? ⟨g, B * 3 + 1, none⟩ = some (.int .i64 qb) := (hri.row.cell hBn 1 (by omega)).1.trans (by rw [hqb]; rfl)
              have fa := (hri.row.cell hAn 2 (by omega)).2
              obtain ⟨y0, y1, y2⟩ := hbx.cell
              have hA0 : (0 : Int) ≤ (A : Int) := by omega
              have hB0 : (0 : Int) ≤ (B : Int) := by omega
              have hAi : (A : Int) < (n : Int) := by omega
              have hBi : (B : Int) < (n : Int) := by omega
              obtain ⟨v1, hv1⟩ : ∃ v : Int, oa + qb = v := ⟨_, rfl⟩
              obtain ⟨v2, hv2⟩ : ∃ v : Int, ob + qa = v := ⟨_, rfl⟩
              obtain ⟨wj, hwj⟩ : ∃ wj, wj = (wi.setCell ⟨g, A * 3 + 2, none⟩ (.int .i64 v1)).drew := ⟨_, rfl⟩
              have hbj : isRb wj wr.heap.size A B hh := by rw [hwj]; exact hbx.set (by omega) _ _
              have hrj : RaI g g n (fun i => if i = A then ⟨A, qa, v1⟩ else ⟨i, pts l i, oth (pts l) (l.take k) i⟩) w wj := by rw [hwj]; exact hri.put hgw hAn 2 (by omega) _ _ (by rw [hqa]; rfl)
              have HF : Hid (RaI g g n (fun i => ⟨i, pts l i, oth (pts l) (l.take (k + 1)) i⟩) w (wj.setCell ⟨g, B * 3 + 2, none⟩ (.int .i64 v2)).drew) := hide (by
                have h1 := hrj.put hgw hBn 2 (by omega) (.int .i64 v2) ⟨B, qb, v2⟩ (by simp [encR, Ne.symm hAB, hqb])
                refine h1.congr fun i hi => ?_
                rw [← oth_step (pts l) hz hA hB hAB i, ← hv1, ← hv2, hqa, hqb, hoa, hob])
              have hcb : Hid (wj.cell? ⟨g, B * 3 + 2, none⟩ = some (.int .i64 ob)) := hide ((hrj.row.cell hBn 2 (by omega)).1.trans (by rw [hob]; simp [encR, Ne.symm hAB]))
              have hcb2 : Hid (wj.cell? ⟨g, A * 3 + 1, none⟩ = some (.int .i64 qa)) := hide ((hrj.row.cell hAn 1 (by omega)).1.trans (by simp [encR]))
              have hfb := hide (hrj.row.cell hBn 2 (by omega)).2
              have hyj := hide hbj.cell
              have HWI := hide hwi
              have HWJ := hide hwj
              clear hwi hwj hinv hbx hbj hrj hbd hbo hqa hqb hoa hob hhe hz a1 a2 a3 a4 a5 hA hB hri
              go_upto_region 16 with fail
              rw [← unhide HWI]
              clear HWI c0 c1 c2
              go_region
              go_upto_region 17 with fail
              rw [← unhide HWJ]
              clear ca ca2 fa y0 y1 y2 HWJ
              have cb := unhide hcb
              have cb2 := unhide hcb2
              have fb := unhide hfb
              obtain ⟨y0, y1, y2⟩ := unhide hyj
              go_region
              go_wp2
              go_roundw
              case rel => exact ⟨k + 1, by omega, by go_num, unhide HF⟩
              case measure => simp only [intOf]; omega
            · have hlti : ¬ (k : Int) < (N : Int) := by omega
              have hkl : l.take k = l := List.take_of_length_le (by have := unhide HN; omega)
              rw [hkl] at hinv
              have hrow : wr.ownsRow g 34 3 (.slice (some ⟨g, 0, none⟩) (rks n l).length n) (rks n l).length (rvs (rks n l)) := by
                have := hinv.row.row
                simpa [rks, rkOf] using this
              have hln : (rks n l).length = n := by simp [rks]
              have HSO := hide (sortR g 0 n (rks n l).toArray wr (holdsR hrow) (row_block hrow rfl).2 (by rw [List.size_toArray, hln]; omega))
              rw [List.size_toArray, hln] at HSO
              rw [hln] at hrow
              have HROW := hide hrow
              have HBW := hide hinv.bw
              clear hinv hrow hkl hln
              go_wp2_with fail
              refine (unhide HSO).mono ?_
              rintro e w8 ⟨rfl, d', nn, os, hpm, hsd, hw8⟩
              obtain ⟨ts, rfl⟩ : ∃ ts : List Rk, d' = ts.toArray := ⟨d'.toList, by simp⟩
              have hln : (rks n l).toArray.size = n := by simp [rks]
              have hts : ts.length = n := by have h1 := hpm.1; rw [hln, List.size_toArray] at h1; exact h1
              have HFIN : Hid (RaE n l w (.returned (.slice (some ⟨g, 0, none⟩) n n)) w8) := hide (by
                rw [hw8]
                have hrs := row_sortR (n := nn) (os := os) hts (unhide HROW)
                have hso := sortedR (l := rks n l) (d' := ts.toArray) (by rw [hln]; exact hpm) (by rw [hln]; exact hsd) (by
                  exact keys_nodup n l)
                refine ⟨below_grown (unhide HBW) (grown_sortR _) (by rw [unhide HG]; omega), g, ts, rfl, hts, by rw [← unhide HG]; exact hrs, hso.1, hso.2⟩)
              clear hpm hsd hw8 hln hts HROW HBW
              go_wp2
              go_ret
              exact unhide HFIN
end Go.Proofs.Ytdpjkfmhmjgokaa
