/-
  package tourney, walked: ratingsBehind, Rate.
-/
import Derived.Test.YtdpjkfmhmjgokaaY14
import Derived.Test.YtdpjkfmhmjgokaaY4
import Derived.Laws.CopyOwn
namespace Go.Proofs.Ytdpjkfmhmjgokaa
open Go.RowKit Ieee
attribute [local go_sem ↓] Go.wp_at_zero Go.wp_at_succ

theorem run_store_float {P : Program} {w : World} {a : Addr} {m : Mode} (k : FloatKind) (b : Nat) : (store a (.float k b) m).run P w = stored P w a (.float k b) m := run_store P w a _ m rfl
attribute [local go_sem] run_store_float
theorem infoF : (Try.prog.info? 24).map (fun i => (i.zero, i.size, i.bytes)) = some (some (.float .f64 0), 1, 8) := by kernel_rfl
theorem sizeF : (Try.prog.info? 24).map (·.size) = some 1 := by kernel_rfl
theorem made_floats (n : Nat) (hn : n ≤ 100000) (W : World) : (Instr.makeSlice 23 (.int .i64 (n : Int)) (.int .i64 (n : Int))).run Try.prog W = .ok (.slice (some ⟨W.heap.size, 0, none⟩) n n) (W.alloc (.cells (fvs (List.replicate n 0)).toArray 24 (0, 0))) := by
  obtain ⟨i0, hi, hz0, hz1, hz2⟩ := info_parts infoF
  have h := run_make (P := Try.prog) W 23 24 i0 (.float .f64 0) Try.underlying23 hi hz0 .i64 .i64 (n : Int) (n : Int) (by omega) (by omega) (by rw [hz2]; omega) (by omega)
  rw [h, hz1]
  simp only [Int.toNat_natCast]
  have e : madeCells (Value.float .f64 0).cells (n * 1) = (fvs (List.replicate n 0)).toArray := by
    apply Array.toList_inj.1
    rw [show (Value.float .f64 0).cells = #[Value.float .f64 0] from rfl, toList_madeCells_one]
    simp [fvs]
  rw [e]
theorem FlR.of_block {u : World} {base g : Nat} {xs : List Nat} (hb : base ≤ g) (hl : xs.length ≤ 100000) (h : u.heap[g]? = some (.cells (fvs xs).toArray 24 (0, 0))) : FlR u base g xs.length xs := by
  refine ⟨by rw [fvs_len]; omega, .inr ⟨g, xs.length, (fvs xs).toArray, rfl, hb, h, Nat.le_refl _, by unfold maxLen; omega, by simp [fvs_len], ?_⟩⟩
  rw [List.take_of_length_le (by simp [fvs_len])]
/-- While results are gone through. -/
structure RbI (base g cap : Nat) (xs : List Nat) (w u : World) : Prop where
  bw : Below w.heap.size w u
  row : FlR u base g cap xs
theorem RbI.alloc {base g cap : Nat} {xs : List Nat} {w u : World} (h : RbI base g cap xs w u) (o : Obj) : RbI base g cap xs w (u.alloc o) := ⟨h.bw.alloc h.bw.size o, h.row.below ((Below.refl _ _).alloc (Nat.le_refl _) o)⟩
theorem RbI.put {base g cap : Nat} {xs : List Nat} {w u : World} (h : RbI base g cap xs w u) (hb : w.heap.size ≤ base) (i v : Nat) : RbI base g cap (xs.set i v) w (u.setCell ⟨g, i, none⟩ (.float .f64 v)) := by
  obtain ⟨h1, h2⟩ := h.row.put i v
  exact ⟨below_grown h.bw h2 (Nat.le_trans hb h.row.lt.1), h1⟩
theorem RbI.drew {base g cap : Nat} {xs : List Nat} {w u : World} (h : RbI base g cap xs w u) : RbI base g cap xs w u.drew := ⟨h.bw.drew, h.row.keep rfl⟩
/-- The first i have no sign at 0. -/
def unsL (ys : List Nat) (i : Nat) : List Nat := (ys.take i).map unsF ++ ys.drop i
theorem unsL_len (ys : List Nat) (i : Nat) : (unsL ys i).length = ys.length := by simp [unsL]; omega
theorem unsL_at (ys : List Nat) (i : Nat) (h : i < ys.length) : (unsL ys i)[i]! = ys[i]! := by
  rw [getElem!_pos _ i (by rw [unsL_len]; exact h), getElem!_pos _ i h]
  have e : (unsL ys i)[i]? = ys[i]? := by
    unfold unsL
    have hl : ((ys.take i).map unsF).length = i := by simp; omega
    rw [List.getElem?_append_right (by omega), hl, List.getElem?_drop]
    congr 1; omega
  rw [List.getElem?_eq_getElem h, List.getElem?_eq_getElem (by rw [unsL_len]; exact h)] at e
  simpa using e
theorem unsL_set (ys : List Nat) (i : Nat) (h : i < ys.length) : (unsL ys i).set i (unsF ys[i]!) = unsL ys (i + 1) := by
  unfold unsL
  have hl : ((ys.take i).map unsF).length = i := by simp; omega
  have e : ys.drop i = ys[i] :: ys.drop (i + 1) := List.drop_eq_getElem_cons h
  rw [List.set_append_right _ _ (by omega), hl, Nat.sub_self, e, List.set_cons_zero, List.take_add_one, List.getElem?_eq_getElem h, getElem!_pos _ i h, Option.toList_some, List.map_append, List.map_singleton, List.append_assoc]
  rfl
theorem unsL_end (ys : List Nat) : unsL ys ys.length = ys.map unsF := by simp [unsL]
/-- What ratingsBehind leaves. -/
structure RbE (ys : List Nat) (w : World) (e : Ending) (w' : World) : Prop where
  bw : Below w.heap.size w w'
  out : ∃ g, e = .returned (.slice (some ⟨g, 0, none⟩) ys.length ys.length) ∧ FlR w' w.heap.size g ys.length ys

set_option maxHeartbeats 4000000 in
set_option maxRecDepth 100000 in
theorem ratingsBehind_walk (k : Nat) (hk : Fl k 1000000) (xs : List Nat) (hx : ∀ x ∈ xs, Fl x 1000000) (hxl : xs.length ≤ 200) (l : List Re) (hl : okL xs.length l) (so ao : Option Addr) (sc cap : Nat) (w : World) (hs : isFs w w.heap.size so sc xs) (h : isRs w w.heap.size ao cap l) :
    Calls Try.prog 23 #[.slice so xs.length sc, .slice ao l.length cap, .float .f64 k] w (RbE ((rat k xs l).map unsF) w) := by
  obtain ⟨n, hn⟩ : ∃ n, n = xs.length := ⟨_, rfl⟩
  obtain ⟨N, hN⟩ : ∃ N, N = l.length := ⟨_, rfl⟩
  have hN2 : N ≤ 10000 := by rw [hN]; exact hl.1
  have hn2 : n ≤ 200 := by rw [hn]; exact hxl
  have hmk := made_floats n (by omega) w
  obtain ⟨w1, hw1⟩ : ∃ w1, w1 = w.alloc (.cells (fvs (List.replicate n 0)).toArray 24 (0, 0)) := ⟨_, rfl⟩
  have hblk : w1.heap[w.heap.size]? = some (.cells (fvs (List.replicate n 0)).toArray 24 (0, 0)) := by rw [hw1]; exact heap_alloc_new w _
  have hb1 : Below w.heap.size w w1 := by rw [hw1]; exact (Below.refl _ _).alloc (Nat.le_refl _) _
  rw [← hw1] at hmk
  obtain ⟨g, hg⟩ : ∃ g, g = w.heap.size := ⟨_, rfl⟩
  rw [← hg] at hmk hblk
  have HFS : Hid (0 < (fvs xs).length → ∃ ad, so = some ad ∧ ∀ (j : Nat) (v : Value), (fvs xs)[j]? = some v → w1.cell? (ad.add j) = some v) := hide (fun hp => by
    obtain ⟨b, off, e, hb, hc⟩ := (hs.below hb1 (Nat.le_refl _)).cells (by rintro rfl; simp [fvs] at hp)
    refine ⟨_, e, fun j v hv => ?_⟩
    have hj : j < xs.length := by have := (List.getElem?_eq_some_iff.1 hv).1; rwa [fvs_len] at this
    rw [show (⟨b, off, none⟩ : Addr).add j = ⟨b, off + j, none⟩ by simp [Addr.add], hc j _ (List.getElem?_eq_getElem hj)]
    simp only [fvs, List.getElem?_map, List.getElem?_eq_getElem hj, Option.map_some] at hv
    exact hv)
  have hscap := hs.mx
  have hsle := hs.le
  have hcap := h.mx
  have hle := h.le
  have HR := hide h
  have HN := hide hN
  have HG := hide hg
  have HL := hide hl
  have HX := hide hx
  have HK := hide hk
  have HNN := hide hn
  rw [← hN] at hle ⊢
  rw [← hn] at hsle ⊢
  unfold maxLen at hcap hscap
  have HB1 := hide hb1
  have hfl : ((fvs xs).length : Int) = (n : Int) := by rw [fvs_len, hn]
  obtain ⟨FX, hFX⟩ : ∃ F, F = fvs xs := ⟨_, rfl⟩
  have HFX := hide hFX
  rw [← hFX] at HFS
  clear hN hg hl hx hk hb1 h hs hw1 hfl hFX hn
  go_enter Try.func23, Try.ntmps23
  go_upto_region 2 with fail
  go_wp2_with (refine wpList_copy_splice rfl _ _ 23 23 rfl 24 Try.underlying23 sizeF _ _ _ _ _ _ rfl rfl g 0 _ 24 hblk FX ?c1 ?c2 ?c3 ?c4 w.heap.size w (unhide HB1) (by rw [unhide HG]; exact Nat.le_refl _) ?_)
  case c1 => first | (rw [unhide HFX, fvs_len, ← unhide HNN]; exact (Nat.min_self _).symm) | (rw [unhide HFX, fvs_len, ← unhide HNN]; omega) | (rw [unhide HFX, fvs_len, ← unhide HNN])
  case c2 => intro hp; first | exact unhide HFS hp | exact ⟨rfl, unhide HFS hp⟩
  case c3 => rw [unhide HFX, fvs_len, fvs_len, List.length_replicate, ← unhide HNN]; omega
  case c4 => intro v hv; rw [unhide HFX] at hv; obtain ⟨x, -, rfl⟩ := List.mem_map.1 hv; rfl
  intro w2 HR2 hb2
  have hI0 : RbI g g n (rat k xs (l.take 0)) w w2 := by
    refine ⟨hb2, ?_⟩
    have e : splice (fvs (List.replicate n 0)) 0 FX = fvs xs := by
      unfold splice
      rw [List.take_zero, List.nil_append, List.drop_eq_nil_of_le (by rw [unhide HFX, fvs_len, fvs_len, List.length_replicate, unhide HNN]; omega), List.append_nil, unhide HFX]
    have h2 := unhide HR2
    rw [e] at h2
    have := FlR.of_block (base := g) (Nat.le_refl _) (by omega) h2
    rw [← unhide HNN] at this
    simpa [rat] using this
  have HI0 := hide hI0
  clear hI0 HR2 hb2 hblk hmk HFS HFX
  go_wp2
  go_loopw [23] (fun iv wr => ∃ i : Nat, i ≤ N ∧ iv = .int .i64 (i : Int) ∧ RbI g g n (rat k xs (l.take i)) w wr) (fun iv _ => N - (intOf iv).toNat)
  case atStart => exact ⟨0, Nat.zero_le _, rfl, unhide HI0⟩
  case round =>
    obtain ⟨i, hi, rfl, hinv⟩ := hrel
    rename World => wr
    clear HI0
    by_cases hlt : i < N
    · have hlti : (i : Int) < (N : Int) := by omega
      have hi0 : (0 : Int) ≤ (i : Int) := by omega
      obtain ⟨z, hz⟩ : ∃ z, l[i]? = some z := ⟨_, List.getElem?_eq_getElem (by rw [← unhide HN]; exact hlt)⟩
      obtain ⟨gr, off, rfl, hgr, c0, c1, c2⟩ := ((unhide HR).below hinv.bw (Nat.le_refl _)).at_ hz
      have hok := (unhide HL).2 z (List.mem_of_getElem? hz)
      obtain ⟨a1, a2, a3, a4, a5, a6, a7⟩ := hok
      rw [← unhide HNN] at a2 a4
      obtain ⟨A, hA⟩ : ∃ A : Nat, z.a = (A : Int) := ⟨z.a.toNat, by omega⟩
      obtain ⟨B, hB⟩ : ∃ B : Nat, z.b = (B : Int) := ⟨z.b.toNat, by omega⟩
      have hAn : A < n := by omega
      have hBn : B < n := by omega
      have hAB : A ≠ B := by omega
      have hfl := rat_fl (unhide HK) (unhide HX) (unhide HL) i (by rw [← unhide HN]; exact hi)
      have hstep := rat_snoc k xs l i z hz
      have hlen : (rat k xs (l.take i)).length = n := by rw [rat_len, unhide HNN]
      obtain ⟨ys, hys⟩ : ∃ ys, ys = rat k xs (l.take i) := ⟨_, rfl⟩
      rw [← hys] at hfl hstep hlen hinv
      obtain ⟨a, ha⟩ : ∃ a, a = ys[A]! := ⟨_, rfl⟩
      obtain ⟨b, hb⟩ : ∃ b, b = ys[B]! := ⟨_, rfl⟩
      have fa : Fl a (1000000 * (i + 1)) := by rw [ha]; exact hfl _ (get_mem (by omega))
      have fb : Fl b (1000000 * (i + 1)) := by rw [hb]; exact hfl _ (get_mem (by omega))
      obtain ⟨hh, hhe⟩ : ∃ hh, hh = z.h := ⟨_, rfl⟩
      obtain ⟨c, hc⟩ : ∃ c, c = chg a b hh k := ⟨_, rfl⟩
      have fc : Fl c 1000000 := by
        rw [hc]
        obtain ⟨-, -, -, -, -, -, -, -, -, -, -, -, q⟩ := chg_ok fa fb hh (unhide HK) (by omega) (by omega)
        exact q
      obtain ⟨za, ea, -⟩ := Fl.add fa fc (by omega) (by omega)
      obtain ⟨zb, eb, -⟩ := Fl.sub fb fc (by omega) (by omega)
      have HCH : Hid (∀ u, Calls Try.prog 35 #[.float .f64 a, .float .f64 b, .int .i64 hh, .float .f64 k] u fun e w' => e = .returned (.float .f64 c) ∧ w' = u) := hide (fun u => by rw [hc]; exact change_any fa fb hh (by omega) (by omega) (unhide HK) (by omega) (by omega) u)
      rw [hA] at c0
      rw [hB] at c1
      rw [← hhe] at c2
      obtain ⟨wi, hwi⟩ : ∃ wi, wi = wr.alloc (.cells #[.int .i64 (A : Int), .int .i64 (B : Int), .int .i64 hh] 49 (0, 0)) := ⟨_, rfl⟩
      have hbx : isRb wi wr.heap.size A B hh := by rw [hwi]; exact heap_alloc_new wr _
      have hri : RbI g g n ys w wi := by rw [hwi]; exact hinv.alloc _
      have hgl := hinv.row.lt
      have hgw : w.heap.size ≤ g := by rw [unhide HG]; omega
      have ca : wi.cell? ⟨g, A, none⟩ = some (.float .f64 a) := by rw [(hri.row.cell (i := A) (by omega)).1, ha]
      have cb : wi.cell? ⟨g, B, none⟩ = some (.float .f64 b) := by rw [(hri.row.cell (i := B) (by omega)).1, hb]
      obtain ⟨y0, y1, y2⟩ := hbx.cell
      have hA0 : (0 : Int) ≤ (A : Int) := by omega
      have hB0 : (0 : Int) ≤ (B : Int) := by omega
      have hAi : (A : Int) < (n : Int) := by omega
      have hBi : (B : Int) < (n : Int) := by omega
      have o1 : ∀ ty u, (binOp .add ty (.float .f64 a) (.float .f64 c)).run Try.prog u = .ok (.float .f64 za) u := fun ty u => run_float_arith u .add ty .f64 _ _ _ ea
      have o2 : ∀ ty u, (binOp .sub ty (.float .f64 b) (.float .f64 c)).run Try.prog u = .ok (.float .f64 zb) u := fun ty u => run_float_arith u .sub ty .f64 _ _ _ eb
      have hset : stp k ys z = (ys.set A za).set B zb := by
        unfold stp addF subF
        rw [show z.a.toNat = A by omega, show z.b.toNat = B by omega, ← ha, ← hb, ← hhe, ← hc, ea, eb]
        rfl
      rw [hset] at hstep
      have HFIN : Hid (∀ u, RbI g g n ys w u → RbI g g n (rat k xs (l.take (i + 1))) w ((u.setCell ⟨g, A, none⟩ (.float .f64 za)).setCell ⟨g, B, none⟩ (.float .f64 zb))) := hide (fun u hu => by
        rw [hstep]
        exact (hu.put hgw A za).put hgw B zb)
      have HRI := hide hri
      have HBX := hide hbx
      have HWI := hide hwi
      have fA := fun (u : World) (hu : RbI g g n ys w u) => (hu.row.cell (i := A) (by omega)).2
      have fB := fun (u : World) (hu : RbI g g n ys w u) => (hu.row.cell (i := B) (by omega)).2
      have HFA := hide fA
      have HFB := hide fB
      clear hwi hbx hri hinv hz a1 a2 a3 a4 a5 hfl hstep hlen hys ha hb fa fb hhe hc fc ea eb hA hB hset fA fB hgr
      go_upto_region 6 with fail
      rw [← unhide HWI]
      clear HWI c0 c1 c2
      go_region
      obtain ⟨wj, hwj⟩ : ∃ wj, wj = wi.drew := ⟨_, rfl⟩
      have hrj : RbI g g n ys w wj := by rw [hwj]; exact (unhide HRI).drew
      have hbj : isRb wj wr.heap.size A B hh := by rw [hwj]; exact unhide HBX
      have cj : wj.cell? ⟨g, A, none⟩ = some (.float .f64 a) := by rw [hwj]; exact ca
      have dj : wj.cell? ⟨g, B, none⟩ = some (.float .f64 b) := by rw [hwj]; exact cb
      rw [← hwj]
      clear hwj ca cb y0 y1 y2 HRI HBX
      obtain ⟨y0, y1, y2⟩ := hbj.cell
      have f1 := unhide HFA wj hrj
      have f2 := unhide HFB wj hrj
      have HRJ := hide (unhide HFIN wj hrj)
      have HCJ := hide (unhide HCH wj)
      clear hrj hbj HFIN HCH HFA HFB
      go_wp2_with fail
      refine (unhide HCJ).mono ?_
      rintro e w5 ⟨rfl, rfl⟩
      go_upto_region 8 with fail
      go_region
      have HFI := hide ((unhide HRJ).drew)
      clear HRJ HCJ cj dj y0 y1 y2 f1 f2 o1 o2
      go_wp2
      go_roundw
      case rel => exact ⟨i + 1, by omega, by go_num, unhide HFI⟩
      case measure => simp only [intOf]; omega
    · have hlti : ¬ (i : Int) < (N : Int) := by omega
      have hil : l.take i = l := List.take_of_length_le (by have := unhide HN; omega)
      rw [hil] at hinv
      obtain ⟨ys, hys⟩ : ∃ ys, ys = rat k xs l := ⟨_, rfl⟩
      have hlen : ys.length = n := by rw [hys, rat_len, unhide HNN]
      rw [← hys] at hinv
      have HI2 : Hid (RbI g g n (unsL ys 0) w wr) := hide (by simpa [unsL] using hinv)
      have HLEN := hide hlen
      have HYS := hide hys
      clear hinv hil hys hlen
      go_wp2
      go_loopw [60] (fun iv wr => ∃ j : Nat, j ≤ n ∧ iv = .int .i64 (j : Int) ∧ RbI g g n (unsL ys j) w wr) (fun iv _ => n - (intOf iv).toNat)
      case atStart => exact ⟨0, Nat.zero_le _, rfl, unhide HI2⟩
      case round =>
        obtain ⟨j, hj, rfl, hinv⟩ := hrel
        rename World => wr
        clear HI2
        by_cases hlt : j < n
        · have hlti : (j : Int) < (n : Int) := by omega
          have hj0 : (0 : Int) ≤ (j : Int) := by omega
          have hjy : j < ys.length := by rw [unhide HLEN]; exact hlt
          obtain ⟨c0, f0⟩ := hinv.row.cell (i := j) (by rw [unsL_len]; exact hjy)
          rw [unsL_at ys j hjy] at c0
          obtain ⟨x, hx⟩ : ∃ x, x = ys[j]! := ⟨_, rfl⟩
          have HCU : Hid (Calls Try.prog 36 #[.float .f64 x] wr fun e w' => e = .returned (.float .f64 (unsF x)) ∧ w' = wr) := hide (unsigned_any x wr)
          have HE : Hid (RbI g g n (unsL ys (j + 1)) w (wr.setCell ⟨g, j, none⟩ (.float .f64 (unsF x)))) := hide (by
            rw [← unsL_set ys j hjy, hx]
            exact hinv.put (by rw [unhide HG]; omega) j _)
          rw [← hx] at c0
          generalize unsF x = X at *
          clear hinv hx hjy
          go_wp2_with fail
          refine (unhide HCU).mono ?_
          rintro e w5 ⟨rfl, rfl⟩
          clear HCU
          go_wp2
          go_roundw
          case rel => exact ⟨j + 1, by omega, by go_num, unhide HE⟩
          case measure => simp only [intOf]; omega
        · have hlti : ¬ (j : Int) < (n : Int) := by omega
          have hjn : j = n := by omega
          have HE : Hid (RbE ((rat k xs l).map unsF) w (.returned (.slice (some ⟨g, 0, none⟩) n n)) wr) := hide (by
            rw [← unhide HYS]
            rw [hjn, show n = ys.length from (unhide HLEN).symm, unsL_end] at hinv
            refine ⟨hinv.bw, g, ?_, ?_⟩
            · rw [List.length_map, unhide HLEN]
            · rw [← unhide HG, List.length_map]; exact hinv.row)
          clear hinv hjn
          go_wp2
          go_ret
          exact unhide HE
end Go.Proofs.Ytdpjkfmhmjgokaa
