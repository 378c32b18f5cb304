/-
  The document's answer, walked: gameref.Rated.
-/
import Derived.Test.YtdpjkfmhmjgokaaY15
import Derived.Laws.AppendOwnNone
namespace Go.Proofs.Ytdpjkfmhmjgokaa
open Go.RowKit Ieee
attribute [local go_sem ↓] Go.wp_at_zero Go.wp_at_succ
attribute [local go_sem] run_store_float

/-- What Rated leaves. -/
structure RdE (ys : List Nat) (w : World) (e : Ending) (w' : World) : Prop where
  bw : Below w.heap.size w w'
  out : ∃ v, e = .returned v ∧ w'.ownsRow w.heap.size 24 1 v ys.length (fvs ys)
theorem ret_v {a b : Value} (h : a = b) : Ending.returned a = .returned b := by rw [h]
theorem below_none {w w' : World} (h : w.grownBy w' none) : Below w.heap.size w w' := ⟨h.os, h.tape, h.output, h.size, fun k hk => h.block k hk (by simp)⟩
theorem own_nil (w : World) (base : Nat) : w.ownsRow base 24 1 (.slice none 0 0) 0 (fvs []) := ⟨by simp [fvs], .inl ⟨rfl, rfl⟩⟩
theorem fvs_one (l : List Nat) : ∀ u ∈ fvs l, u.oneCell' = true := fun u hu => by
  obtain ⟨x, -, rfl⟩ := List.mem_map.1 hu
  rfl
theorem d2_lt {d : Nat} (h : double.order d 0 = some .lt) : d2F d = 0 := by
  have g2 : d1F d = 0 := by unfold d1F; rw [h]; simp
  unfold d2F; rw [g2, ord01]; simp
theorem d2_ge {d : Nat} (h : double.order d 0 ≠ some .lt) : d1F d = d := by
  unfold d1F
  rw [if_neg]
  simpa using h
theorem d2_gt {d : Nat} (h : double.order d 0 ≠ some .lt) (h1 : double.order d oneW = some .gt) : d2F d = oneW := by unfold d2F; rw [d2_ge h, h1]; simp
theorem d2_le {d : Nat} (h : double.order d 0 ≠ some .lt) (h1 : double.order d oneW ≠ some .gt) : d2F d = d := by
  unfold d2F
  rw [d2_ge h, if_neg]
  simpa using h1


theorem index0 (u : World) : (Instr.index 54 (.agg #[.float .f64 0, .float .f64 4602678819172646912, .float .f64 4607182418800017408]) (.int .i64 0)).run Try.prog u = .ok (.float .f64 0) u := by kernel_rfl
theorem index1 (u : World) : (Instr.index 54 (.agg #[.float .f64 0, .float .f64 4602678819172646912, .float .f64 4607182418800017408]) (.int .i64 1)).run Try.prog u = .ok (.float .f64 4602678819172646912) u := by kernel_rfl
theorem index2 (u : World) : (Instr.index 54 (.agg #[.float .f64 0, .float .f64 4602678819172646912, .float .f64 4607182418800017408]) (.int .i64 2)).run Try.prog u = .ok (.float .f64 4607182418800017408) u := by kernel_rfl
theorem index_s {h : Int} (h0 : 0 ≤ h) (h2 : h ≤ 2) (u : World) : (Instr.index 54 (.agg #[.float .f64 0, .float .f64 4602678819172646912, .float .f64 4607182418800017408]) (.int .i64 h)).run Try.prog u = .ok (.float .f64 (sW h)) u := by
  have : h = 0 ∨ h = 1 ∨ h = 2 := by omega
  rcases this with rfl | rfl | rfl
  · exact index0 u
  · exact index1 u
  · exact index2 u

set_option maxHeartbeats 8000000 in
set_option maxRecDepth 100000 in
theorem Rated_walk (k : Nat) (hk : Fl k 1000000) (xs : List Nat) (hx : ∀ x ∈ xs, Fl x 1000000) (hxl : xs.length ≤ 200) (l : List Re) (hl : okL xs.length l) (so ao : Option Addr) (sc cap : Nat) (w : World) (hs : isFs w w.heap.size so sc xs) (h : isRs w w.heap.size ao cap l) :
    Calls Try.prog 13 #[.slice so xs.length sc, .slice ao l.length cap, .float .f64 k] w (RdE (rat k xs l) w) := by
  obtain ⟨n, hn⟩ : ∃ n, n = xs.length := ⟨_, rfl⟩
  obtain ⟨N, hN⟩ : ∃ N, N = l.length := ⟨_, rfl⟩
  obtain ⟨i0, hinfo, hz0, hz1, hz2⟩ := info_parts infoF
  have hN2 : N ≤ 10000 := by rw [hN]; exact hl.1
  have hn2 : n ≤ 200 := by rw [hn]; exact hxl
  have hscap := hs.mx
  have hsle := hs.le
  have hcap := h.mx
  have hle := h.le
  rw [← hN] at hle
  rw [← hn] at hsle
  unfold maxLen at hcap hscap
  rcases Nat.eq_zero_or_pos n with hn0 | hnp
  · have hxs : xs = [] := List.eq_nil_of_length_eq_zero (by omega)
    have hls : l = [] := by
      cases l with
      | nil => rfl
      | cons r l' =>
        have := hl.2 r (by simp)
        rw [hxs] at this
        have h1 := this.1
        have h2 := this.2.1
        simp at h2
        omega
    subst hxs
    subst hls
    have HE : Hid (RdE (rat k [] []) w (.returned (.slice none 0 0)) w) := hide ⟨Below.refl _ _, _, rfl, own_nil w _⟩
    have HE2 : Hid (∀ u, w.grownBy u none → RdE (rat k [] []) w (.returned (.slice none 0 0)) u) := hide (fun u hu => ⟨below_none hu, _, rfl, own_nil u _⟩)
    have HI := hide hinfo
    have HZ0 := hide hz0
    have HZ1 := hide hz1
    have HZ2 := hide hz2
    cases so with
    | none =>
      have hc0 := hs.nil rfl
      subst hc0
      simp only [List.length_nil] at *
      clear hs h hx hl hinfo hz0 hz1 hz2 hn hN HE2
      go_enter Try.func13, Try.ntmps13
      go_wp2_with (at_builtin; refine wpList_append_own_none rfl (.const (.slice none 0 0)) (.tmp 14) 23 rfl w.heap.size 24 i0 1 Try.underlying23 (unhide HI) (.slice none 0 0) 0 _ rfl (own_nil w _) rfl ?_)
      go_wp2
      go_loopw [8] (fun iv wr => iv = .int .i64 0 ∧ wr = w) (fun _ _ => 0)
      case atStart => exact ⟨rfl, rfl⟩
      case round =>
        obtain ⟨rfl, rfl⟩ := hrel
        go_wp2
        go_ret
        exact unhide HE
    | some ad =>
      simp only [List.length_nil] at *
      clear hs h hx hl hinfo hz0 hz1 hz2 hn hN HE
      go_enter Try.func13, Try.ntmps13
      go_wp2_with (at_builtin; refine wpList_append_own _ rfl (.const (.slice none 0 0)) (.tmp 14) 23 rfl w.heap.size 24 i0 _ 1 8 Try.underlying23 (unhide HI) (unhide HZ0) (unhide HZ1) (unhide HZ2) rfl (by decide) (.slice none 0 0) 0 _ rfl (own_nil w _) ad 0 sc [] rfl rfl (fun j u hj => by simp at hj) (fun u hu => by cases hu) (by decide) (by decide) (Nat.le_refl _) ?_)
      intro v' w' hrow hgr hiff
      obtain rfl : v' = .slice none 0 0 := by first | exact hiff | exact hiff.2 ⟨rfl, rfl⟩
      have HE3 := hide (unhide HE2 w' hgr)
      clear hrow hgr hiff HE2
      go_wp2
      go_loopw [8] (fun iv wr => iv = .int .i64 0 ∧ wr = w') (fun _ _ => 0)
      case atStart => exact ⟨rfl, rfl⟩
      case round =>
        obtain ⟨rfl, rfl⟩ := hrel
        go_wp2
        go_ret
        exact unhide HE3
  · obtain ⟨sb, soff, rfl, hsb, hsc⟩ := hs.cells (by rintro rfl; simp at hn; omega)
    have HNEWS : Hid (∀ (j : Nat) (u : Value), (fvs xs)[j]? = some u → w.cell? ((⟨sb, soff, none⟩ : Addr).add j) = some u) := hide (fun j u hj => by
      have hjl : j < xs.length := by have := (List.getElem?_eq_some_iff.1 hj).1; rwa [fvs_len] at this
      rw [show (⟨sb, soff, none⟩ : Addr).add j = ⟨sb, soff + j, none⟩ by simp [Addr.add], hsc j _ (List.getElem?_eq_getElem hjl)]
      simp only [fvs, List.getElem?_map, List.getElem?_eq_getElem hjl, Option.map_some] at hj
      exact hj)
    have HFL : Hid ((fvs xs).length = n * 1) := hide (by rw [fvs_len, hn]; omega)
    have HR := hide h
    have HN := hide hN
    have HL := hide hl
    have HX := hide hx
    have HK := hide hk
    have HNN := hide hn
    have HI := hide hinfo
    have HZ0 := hide hz0
    have HZ1 := hide hz1
    have HZ2 := hide hz2
    rw [← hN, ← hn]
    clear hsc hs h hx hl hk hinfo hz0 hz1 hz2 hn hN hsb
    go_enter Try.func13, Try.ntmps13
    go_wp2_with (at_builtin; refine wpList_append_own _ rfl (.const (.slice none 0 0)) (.tmp 14) 23 rfl w.heap.size 24 i0 _ 1 8 Try.underlying23 (unhide HI) (unhide HZ0) (unhide HZ1) (unhide HZ2) rfl (by decide) (.slice none 0 0) 0 _ rfl (own_nil w _) ⟨sb, soff, none⟩ n sc (fvs xs) rfl (unhide HFL) (unhide HNEWS) (fvs_one xs) (by unfold maxLen; omega) (by omega) (Nat.le_refl _) ?_)
    intro v' w2 hrow hgr hiff
    obtain ⟨g, cp, hv, hcp, hcm, hI0⟩ : ∃ g cp, v' = .slice (some ⟨g, 0, none⟩) n cp ∧ n ≤ cp ∧ cp ≤ maxLen ∧ RbI w.heap.size g cp (rat k xs (l.take 0)) w w2 := by
      rcases hrow.2 with ⟨e1, e2⟩ | ⟨g, cp, cur, e1, hb, hgb, h1, h2, r⟩
      · omega
      · refine ⟨g, cp, e1, h1, h2, below_none hgr, ⟨?_⟩⟩
        rw [e1] at hrow
        have e3 : rat k xs (l.take 0) = xs := by simp [rat]
        rw [e3, ← unhide HNN]
        simpa [fvs] using hrow
    subst hv
    have HI0 := hide hI0
    unfold maxLen at hcm
    clear hrow hgr hiff hI0 HNEWS HFL HI HZ0 HZ1 HZ2
    go_wp2
    go_loopw [8] (fun iv wr => ∃ i : Nat, i ≤ N ∧ iv = .int .i64 (i : Int) ∧ RbI w.heap.size g cp (rat k xs (l.take i)) w wr) (fun iv _ => N - (intOf iv).toNat)
    case atStart => exact ⟨0, Nat.zero_le _, rfl, unhide HI0⟩
    case round =>
      obtain ⟨i, hi, rfl, hinv⟩ := hrel
      rename World => wr
      clear HI0
      by_cases hlt : i < N
      · have hlti : (i : Int) < (N : Int) := by omega
        have hi0 : (0 : Int) ≤ (i : Int) := by omega
        obtain ⟨z, hz⟩ : ∃ z, l[i]? = some z := ⟨_, List.getElem?_eq_getElem (by rw [← unhide HN]; exact hlt)⟩
        have HRJ := ((unhide HR).below hinv.bw (Nat.le_refl _)).at_ hz
        have hok := (unhide HL).2 z (List.mem_of_getElem? hz)
        obtain ⟨a1, a2, a3, a4, a5, a6, a7⟩ := hok
        rw [← unhide HNN] at a2 a4
        obtain ⟨A, hA⟩ : ∃ A : Nat, z.a = (A : Int) := ⟨z.a.toNat, by omega⟩
        obtain ⟨B, hB⟩ : ∃ B : Nat, z.b = (B : Int) := ⟨z.b.toNat, by omega⟩
        have hAn : A < n := by omega
        have hBn : B < n := by omega
        have hAB : A ≠ B := by omega
        have hfl := rat_fl (unhide HK) (unhide HX) (unhide HL) i (by rw [← unhide HN]; exact hi)
        have hstep := rat_snoc k xs l i z hz
        have hlen : (rat k xs (l.take i)).length = n := by rw [rat_len, unhide HNN]
        obtain ⟨ys, hys⟩ : ∃ ys, ys = rat k xs (l.take i) := ⟨_, rfl⟩
        rw [← hys] at hfl hstep hlen hinv
        obtain ⟨a, ha⟩ : ∃ a, a = ys[A]! := ⟨_, rfl⟩
        obtain ⟨b, hb⟩ : ∃ b, b = ys[B]! := ⟨_, rfl⟩
        have fa : Fl a (1000000 * (i + 1)) := by rw [ha]; exact hfl _ (get_mem (by omega))
        have fb : Fl b (1000000 * (i + 1)) := by rw [hb]; exact hfl _ (get_mem (by omega))
        obtain ⟨hh, hhe⟩ : ∃ hh, hh = z.h := ⟨_, rfl⟩
        obtain ⟨d1, d2, d3, t, e1, e2, e3, n3, -, -, e4, e5, fc⟩ := chg_ok fa fb hh (unhide HK) (by omega) (by omega)
        obtain ⟨c, hc⟩ : ∃ c, c = chg a b hh k := ⟨_, rfl⟩
        rw [← hc] at e5 fc
        obtain ⟨za, ea, -⟩ := Fl.add fa fc (by omega) (by omega)
        obtain ⟨zb, eb, -⟩ := Fl.sub fb fc (by omega) (by omega)
        have hset : stp k ys z = (ys.set A za).set B zb := by
          unfold stp addF subF
          rw [show z.a.toNat = A by omega, show z.b.toNat = B by omega, ← ha, ← hb, ← hhe, ← hc, ea, eb]
          rfl
        rw [hset] at hstep
        obtain ⟨gr, off, rfl, hgr, c0, c1, c2⟩ := HRJ
        rw [hA] at c0
        rw [hB] at c1
        rw [← hhe] at c2 a6 a7
        obtain ⟨S, hS⟩ : ∃ S, sW hh = S := ⟨_, rfl⟩
        have oi : ∀ u, (Instr.index 54 (.agg #[.float .f64 0, .float .f64 4602678819172646912, .float .f64 4607182418800017408]) (.int .i64 hh)).run Try.prog u = .ok (.float .f64 S) u := fun u => by rw [← hS]; exact index_s a6 a7 u
        have hgl := hinv.row.lt
        have hgg : gr ≠ g := by omega
        have ca : wr.cell? ⟨g, A, none⟩ = some (.float .f64 a) := by rw [(hinv.row.cell (i := A) (by omega)).1, ha]
        have cb : wr.cell? ⟨g, B, none⟩ = some (.float .f64 b) := by rw [(hinv.row.cell (i := B) (by omega)).1, hb]
        have hA0 : (0 : Int) ≤ (A : Int) := by omega
        have hB0 : (0 : Int) ≤ (B : Int) := by omega
        have hAi : (A : Int) < (n : Int) := by omega
        have hBi : (B : Int) < (n : Int) := by omega
        obtain ⟨wj, hwj⟩ : ∃ wj, wj = wr.drew := ⟨_, rfl⟩
        have hrj : RbI w.heap.size g cp ys w wj := by rw [hwj]; exact hinv.drew
        have hput := hrj.put (Nat.le_refl _) A za
        have HFIN : Hid (RbI w.heap.size g cp (rat k xs (l.take (i + 1))) w ((wj.setCell ⟨g, A, none⟩ (.float .f64 za)).setCell ⟨g, B, none⟩ (.float .f64 zb))) := hide (by
          rw [hstep]
          exact hput.put (Nat.le_refl _) B zb)
        have d0 : wj.cell? ⟨gr, off + i * 3, none⟩ = some (.int .i64 (A : Int)) := by rw [hwj]; exact c0
        have d1' : wj.cell? ⟨gr, off + i * 3 + 1, none⟩ = some (.int .i64 (B : Int)) := by rw [hwj]; exact c1
        have d2' : wj.cell? ⟨gr, off + i * 3 + 2, none⟩ = some (.int .i64 hh) := by rw [hwj]; exact c2
        have g1 : wj.frozen? ⟨g, A, none⟩ = false := (hrj.row.cell (i := A) (by omega)).2
        have HCK : Hid ((wj.setCell ⟨g, A, none⟩ (.float .f64 za)).cell? ⟨gr, off + i * 3 + 1, none⟩ = some (.int .i64 (B : Int))) := hide (by
          rw [← d1']
          have hgrow := (hrj.row.put A za).2
          exact World.cell?_of_block (a := ⟨gr, off + i * 3 + 1, none⟩) (hgrow.block gr (by have := hrj.bw.size; omega) (by simp only [Option.some.injEq, ne_eq]; omega)))
        have v0 : wj.cell? ⟨g, A, none⟩ = some (.float .f64 a) := by rw [hwj]; exact ca
        have HVK : Hid ((wj.setCell ⟨g, A, none⟩ (.float .f64 za)).cell? ⟨g, B, none⟩ = some (.float .f64 b)) := hide (by
          rw [(hput.row.cell (i := B) (by rw [List.length_set]; omega)).1, hb, getElem!_pos _ B (by rw [List.length_set]; omega), getElem!_pos _ B (by omega), List.getElem_set_ne hAB])
        have HFK : Hid ((wj.setCell ⟨g, A, none⟩ (.float .f64 za)).frozen? ⟨g, B, none⟩ = false) := hide ((hput.row.cell (i := B) (by rw [List.length_set]; omega)).2)
        have HO8 : Hid (∀ X, d2F d3 = X → ∀ ty u, (binOp .sub ty (.float .f64 S) (.float .f64 X)).run Try.prog u = .ok (.float .f64 t) u) := hide (fun X hX ty u => run_float_arith u .sub ty .f64 _ _ _ (by rw [← hX, ← hS]; exact e4))
        have HD0 := hide (fun (q : double.order d3 0 = some .lt) => d2_lt q)
        have HDG := hide (fun (q : double.order d3 0 ≠ some .lt) (q1 : double.order d3 oneW = some .gt) => d2_gt q q1)
        have HDL := hide (fun (q : double.order d3 0 ≠ some .lt) (q1 : double.order d3 oneW ≠ some .gt) => d2_le q q1)
        have o1 : ∀ ty u, (binOp .sub ty (.float .f64 a) (.float .f64 b)).run Try.prog u = .ok (.float .f64 d1) u := fun ty u => run_float_arith u .sub ty .f64 _ _ _ e1
        have o2 : ∀ ty u, (binOp .quo ty (.float .f64 d1) (.float .f64 4650248090236747776)).run Try.prog u = .ok (.float .f64 d2) u := fun ty u => run_float_arith u .quo ty .f64 _ _ _ e2
        have o3 : ∀ ty u, (binOp .add ty (.float .f64 d2) (.float .f64 4602678819172646912)).run Try.prog u = .ok (.float .f64 d3) u := fun ty u => run_float_arith u .add ty .f64 _ _ _ e3
        have o4 : ∀ ty u, (binOp .mul ty (.float .f64 k) (.float .f64 t)).run Try.prog u = .ok (.float .f64 c) u := fun ty u => run_float_arith u .mul ty .f64 _ _ _ e5
        have o5 : ∀ ty u, (binOp .add ty (.float .f64 a) (.float .f64 c)).run Try.prog u = .ok (.float .f64 za) u := fun ty u => run_float_arith u .add ty .f64 _ _ _ ea
        have o6 : ∀ ty u, (binOp .sub ty (.float .f64 b) (.float .f64 c)).run Try.prog u = .ok (.float .f64 zb) u := fun ty u => run_float_arith u .sub ty .f64 _ _ _ eb
        obtain ⟨O1, b1⟩ : ∃ O : Option Ordering, FloatKind.f64.format.order d3 0 = O := ⟨_, rfl⟩
        obtain ⟨O2, b2⟩ : ∃ O : Option Ordering, FloatKind.f64.format.order d3 4607182418800017408 = O := ⟨_, rfl⟩
        have b3 : FloatKind.f64.format.order 0 4607182418800017408 = some .lt := ord01
        have HB1 : Hid (double.order d3 0 = O1) := hide b1
        have HB2 : Hid (double.order d3 oneW = O2) := hide b2
        have HWJ := hide hwj
        clear hwj hinv hz a1 a2 a3 a4 a5 hfl hstep hlen hys ha hb fa fb hhe hc fc ea eb e1 e2 e3 e4 e5 n3 hA hB hset hrj hput hgr hS a6 a7
        go_upto_region 5 with fail
        go_region
        rw [← unhide HWJ]
        clear HWJ ca cb c0 c1 c2
        have c0 := d0
        have c1 := d1'
        have c2 := d2'
        have f1 := g1
        have v1 := v0
        clear d0 d1' d2' g1 v0
        rcases O1 with _ | (_ | _ | _)
        · rcases O2 with _ | (_ | _ | _)
          · have o8 := unhide HO8 d3 (unhide HDL (by rw [unhide HB1]; simp) (by rw [unhide HB2]; simp))
            clear HO8
            go_upto_region 16 with fail
            go_upto_region 17 with fail
            obtain ⟨wk, hwk⟩ : ∃ wk, wk = wj.setCell ⟨g, A, none⟩ (.float .f64 za) := ⟨_, rfl⟩
            rw [← hwk]
            have ck : wk.cell? ⟨gr, off + i * 3 + 1, none⟩ = some (.int .i64 (B : Int)) := by rw [hwk]; exact unhide HCK
            have fk : wk.frozen? ⟨g, B, none⟩ = false := by rw [hwk]; exact unhide HFK
            have vk : wk.cell? ⟨g, B, none⟩ = some (.float .f64 b) := by rw [hwk]; exact unhide HVK
            have HFI : Hid (RbI w.heap.size g cp (rat k xs (l.take (i + 1))) w (wk.setCell ⟨g, B, none⟩ (.float .f64 zb))) := hide (by rw [hwk]; exact unhide HFIN)
            clear hwk HFIN HCK HFK HVK f1 v1 c0 c1 c2
            go_wp2
            go_roundw
            case rel => exact ⟨i + 1, by omega, by go_num, unhide HFI⟩
            case measure => simp only [intOf]; omega
          · have o8 := unhide HO8 d3 (unhide HDL (by rw [unhide HB1]; simp) (by rw [unhide HB2]; simp))
            clear HO8
            go_upto_region 16 with fail
            go_upto_region 17 with fail
            obtain ⟨wk, hwk⟩ : ∃ wk, wk = wj.setCell ⟨g, A, none⟩ (.float .f64 za) := ⟨_, rfl⟩
            rw [← hwk]
            have ck : wk.cell? ⟨gr, off + i * 3 + 1, none⟩ = some (.int .i64 (B : Int)) := by rw [hwk]; exact unhide HCK
            have fk : wk.frozen? ⟨g, B, none⟩ = false := by rw [hwk]; exact unhide HFK
            have vk : wk.cell? ⟨g, B, none⟩ = some (.float .f64 b) := by rw [hwk]; exact unhide HVK
            have HFI : Hid (RbI w.heap.size g cp (rat k xs (l.take (i + 1))) w (wk.setCell ⟨g, B, none⟩ (.float .f64 zb))) := hide (by rw [hwk]; exact unhide HFIN)
            clear hwk HFIN HCK HFK HVK f1 v1 c0 c1 c2
            go_wp2
            go_roundw
            case rel => exact ⟨i + 1, by omega, by go_num, unhide HFI⟩
            case measure => simp only [intOf]; omega
          · have o8 := unhide HO8 d3 (unhide HDL (by rw [unhide HB1]; simp) (by rw [unhide HB2]; simp))
            clear HO8
            go_upto_region 16 with fail
            go_upto_region 17 with fail
            obtain ⟨wk, hwk⟩ : ∃ wk, wk = wj.setCell ⟨g, A, none⟩ (.float .f64 za) := ⟨_, rfl⟩
            rw [← hwk]
            have ck : wk.cell? ⟨gr, off + i * 3 + 1, none⟩ = some (.int .i64 (B : Int)) := by rw [hwk]; exact unhide HCK
            have fk : wk.frozen? ⟨g, B, none⟩ = false := by rw [hwk]; exact unhide HFK
            have vk : wk.cell? ⟨g, B, none⟩ = some (.float .f64 b) := by rw [hwk]; exact unhide HVK
            have HFI : Hid (RbI w.heap.size g cp (rat k xs (l.take (i + 1))) w (wk.setCell ⟨g, B, none⟩ (.float .f64 zb))) := hide (by rw [hwk]; exact unhide HFIN)
            clear hwk HFIN HCK HFK HVK f1 v1 c0 c1 c2
            go_wp2
            go_roundw
            case rel => exact ⟨i + 1, by omega, by go_num, unhide HFI⟩
            case measure => simp only [intOf]; omega
          · have o8 := unhide HO8 4607182418800017408 (unhide HDG (by rw [unhide HB1]; simp) (unhide HB2))
            clear HO8
            go_upto_region 16 with fail
            go_upto_region 17 with fail
            obtain ⟨wk, hwk⟩ : ∃ wk, wk = wj.setCell ⟨g, A, none⟩ (.float .f64 za) := ⟨_, rfl⟩
            rw [← hwk]
            have ck : wk.cell? ⟨gr, off + i * 3 + 1, none⟩ = some (.int .i64 (B : Int)) := by rw [hwk]; exact unhide HCK
            have fk : wk.frozen? ⟨g, B, none⟩ = false := by rw [hwk]; exact unhide HFK
            have vk : wk.cell? ⟨g, B, none⟩ = some (.float .f64 b) := by rw [hwk]; exact unhide HVK
            have HFI : Hid (RbI w.heap.size g cp (rat k xs (l.take (i + 1))) w (wk.setCell ⟨g, B, none⟩ (.float .f64 zb))) := hide (by rw [hwk]; exact unhide HFIN)
            clear hwk HFIN HCK HFK HVK f1 v1 c0 c1 c2
            go_wp2
            go_roundw
            case rel => exact ⟨i + 1, by omega, by go_num, unhide HFI⟩
            case measure => simp only [intOf]; omega
        · have o8 := unhide HO8 0 (unhide HD0 (unhide HB1))
          clear HO8
          go_upto_region 16 with fail
          go_upto_region 17 with fail
          obtain ⟨wk, hwk⟩ : ∃ wk, wk = wj.setCell ⟨g, A, none⟩ (.float .f64 za) := ⟨_, rfl⟩
          rw [← hwk]
          have ck : wk.cell? ⟨gr, off + i * 3 + 1, none⟩ = some (.int .i64 (B : Int)) := by rw [hwk]; exact unhide HCK
          have fk : wk.frozen? ⟨g, B, none⟩ = false := by rw [hwk]; exact unhide HFK
          have vk : wk.cell? ⟨g, B, none⟩ = some (.float .f64 b) := by rw [hwk]; exact unhide HVK
          have HFI : Hid (RbI w.heap.size g cp (rat k xs (l.take (i + 1))) w (wk.setCell ⟨g, B, none⟩ (.float .f64 zb))) := hide (by rw [hwk]; exact unhide HFIN)
          clear hwk HFIN HCK HFK HVK f1 v1 c0 c1 c2
          go_wp2
          go_roundw
          case rel => exact ⟨i + 1, by omega, by go_num, unhide HFI⟩
          case measure => simp only [intOf]; omega
        · rcases O2 with _ | (_ | _ | _)
          · have o8 := unhide HO8 d3 (unhide HDL (by rw [unhide HB1]; simp) (by rw [unhide HB2]; simp))
            clear HO8
            go_upto_region 16 with fail
            go_upto_region 17 with fail
            obtain ⟨wk, hwk⟩ : ∃ wk, wk = wj.setCell ⟨g, A, none⟩ (.float .f64 za) := ⟨_, rfl⟩
            rw [← hwk]
            have ck : wk.cell? ⟨gr, off + i * 3 + 1, none⟩ = some (.int .i64 (B : Int)) := by rw [hwk]; exact unhide HCK
            have fk : wk.frozen? ⟨g, B, none⟩ = false := by rw [hwk]; exact unhide HFK
            have vk : wk.cell? ⟨g, B, none⟩ = some (.float .f64 b) := by rw [hwk]; exact unhide HVK
            have HFI : Hid (RbI w.heap.size g cp (rat k xs (l.take (i + 1))) w (wk.setCell ⟨g, B, none⟩ (.float .f64 zb))) := hide (by rw [hwk]; exact unhide HFIN)
            clear hwk HFIN HCK HFK HVK f1 v1 c0 c1 c2
            go_wp2
            go_roundw
            case rel => exact ⟨i + 1, by omega, by go_num, unhide HFI⟩
            case measure => simp only [intOf]; omega
          · have o8 := unhide HO8 d3 (unhide HDL (by rw [unhide HB1]; simp) (by rw [unhide HB2]; simp))
            clear HO8
            go_upto_region 16 with fail
            go_upto_region 17 with fail
            obtain ⟨wk, hwk⟩ : ∃ wk, wk = wj.setCell ⟨g, A, none⟩ (.float .f64 za) := ⟨_, rfl⟩
            rw [← hwk]
            have ck : wk.cell? ⟨gr, off + i * 3 + 1, none⟩ = some (.int .i64 (B : Int)) := by rw [hwk]; exact unhide HCK
            have fk : wk.frozen? ⟨g, B, none⟩ = false := by rw [hwk]; exact unhide HFK
            have vk : wk.cell? ⟨g, B, none⟩ = some (.float .f64 b) := by rw [hwk]; exact unhide HVK
            have HFI : Hid (RbI w.heap.size g cp (rat k xs (l.take (i + 1))) w (wk.setCell ⟨g, B, none⟩ (.float .f64 zb))) := hide (by rw [hwk]; exact unhide HFIN)
            clear hwk HFIN HCK HFK HVK f1 v1 c0 c1 c2
            go_wp2
            go_roundw
            case rel => exact ⟨i + 1, by omega, by go_num, unhide HFI⟩
            case measure => simp only [intOf]; omega
          · have o8 := unhide HO8 d3 (unhide HDL (by rw [unhide HB1]; simp) (by rw [unhide HB2]; simp))
            clear HO8
            go_upto_region 16 with fail
            go_upto_region 17 with fail
            obtain ⟨wk, hwk⟩ : ∃ wk, wk = wj.setCell ⟨g, A, none⟩ (.float .f64 za) := ⟨_, rfl⟩
            rw [← hwk]
            have ck : wk.cell? ⟨gr, off + i * 3 + 1, none⟩ = some (.int .i64 (B : Int)) := by rw [hwk]; exact unhide HCK
            have fk : wk.frozen? ⟨g, B, none⟩ = false := by rw [hwk]; exact unhide HFK
            have vk : wk.cell? ⟨g, B, none⟩ = some (.float .f64 b) := by rw [hwk]; exact unhide HVK
            have HFI : Hid (RbI w.heap.size g cp (rat k xs (l.take (i + 1))) w (wk.setCell ⟨g, B, none⟩ (.float .f64 zb))) := hide (by rw [hwk]; exact unhide HFIN)
            clear hwk HFIN HCK HFK HVK f1 v1 c0 c1 c2
            go_wp2
            go_roundw
            case rel => exact ⟨i + 1, by omega, by go_num, unhide HFI⟩
            case measure => simp only [intOf]; omega
          · have o8 := unhide HO8 4607182418800017408 (unhide HDG (by rw [unhide HB1]; simp) (unhide HB2))
            clear HO8
            go_upto_region 16 with fail
            go_upto_region 17 with fail
            obtain ⟨wk, hwk⟩ : ∃ wk, wk = wj.setCell ⟨g, A, none⟩ (.float .f64 za) := ⟨_, rfl⟩
            rw [← hwk]
            have ck : wk.cell? ⟨gr, off + i * 3 + 1, none⟩ = some (.int .i64 (B : Int)) := by rw [hwk]; exact unhide HCK
            have fk : wk.frozen? ⟨g, B, none⟩ = false := by rw [hwk]; exact unhide HFK
            have vk : wk.cell? ⟨g, B, none⟩ = some (.float .f64 b) := by rw [hwk]; exact unhide HVK
            have HFI : Hid (RbI w.heap.size g cp (rat k xs (l.take (i + 1))) w (wk.setCell ⟨g, B, none⟩ (.float .f64 zb))) := hide (by rw [hwk]; exact unhide HFIN)
            clear hwk HFIN HCK HFK HVK f1 v1 c0 c1 c2
            go_wp2
            go_roundw
            case rel => exact ⟨i + 1, by omega, by go_num, unhide HFI⟩
            case measure => simp only [intOf]; omega
        · rcases O2 with _ | (_ | _ | _)
          · have o8 := unhide HO8 d3 (unhide HDL (by rw [unhide HB1]; simp) (by rw [unhide HB2]; simp))
            clear HO8
            go_upto_region 16 with fail
            go_upto_region 17 with fail
            obtain ⟨wk, hwk⟩ : ∃ wk, wk = wj.setCell ⟨g, A, none⟩ (.float .f64 za) := ⟨_, rfl⟩
            rw [← hwk]
            have ck : wk.cell? ⟨gr, off + i * 3 + 1, none⟩ = some (.int .i64 (B : Int)) := by rw [hwk]; exact unhide HCK
            have fk : wk.frozen? ⟨g, B, none⟩ = false := by rw [hwk]; exact unhide HFK
            have vk : wk.cell? ⟨g, B, none⟩ = some (.float .f64 b) := by rw [hwk]; exact unhide HVK
            have HFI : Hid (RbI w.heap.size g cp (rat k xs (l.take (i + 1))) w (wk.setCell ⟨g, B, none⟩ (.float .f64 zb))) := hide (by rw [hwk]; exact unhide HFIN)
            clear hwk HFIN HCK HFK HVK f1 v1 c0 c1 c2
            go_wp2
            go_roundw
            case rel => exact ⟨i + 1, by omega, by go_num, unhide HFI⟩
            case measure => simp only [intOf]; omega
          · have o8 := unhide HO8 d3 (unhide HDL (by rw [unhide HB1]; simp) (by rw [unhide HB2]; simp))
            clear HO8
            go_upto_region 16 with fail
            go_upto_region 17 with fail
            obtain ⟨wk, hwk⟩ : ∃ wk, wk = wj.setCell ⟨g, A, none⟩ (.float .f64 za) := ⟨_, rfl⟩
            rw [← hwk]
            have ck : wk.cell? ⟨gr, off + i * 3 + 1, none⟩ = some (.int .i64 (B : Int)) := by rw [hwk]; exact unhide HCK
            have fk : wk.frozen? ⟨g, B, none⟩ = false := by rw [hwk]; exact unhide HFK
            have vk : wk.cell? ⟨g, B, none⟩ = some (.float .f64 b) := by rw [hwk]; exact unhide HVK
            have HFI : Hid (RbI w.heap.size g cp (rat k xs (l.take (i + 1))) w (wk.setCell ⟨g, B, none⟩ (.float .f64 zb))) := hide (by rw [hwk]; exact unhide HFIN)
            clear hwk HFIN HCK HFK HVK f1 v1 c0 c1 c2
            go_wp2
            go_roundw
            case rel => exact ⟨i + 1, by omega, by go_num, unhide HFI⟩
            case measure => simp only [intOf]; omega
          · have o8 := unhide HO8 d3 (unhide HDL (by rw [unhide HB1]; simp) (by rw [unhide HB2]; simp))
            clear HO8
            go_upto_region 16 with fail
            go_upto_region 17 with fail
            obtain ⟨wk, hwk⟩ : ∃ wk, wk = wj.setCell ⟨g, A, none⟩ (.float .f64 za) := ⟨_, rfl⟩
            rw [← hwk]
            have ck : wk.cell? ⟨gr, off + i * 3 + 1, none⟩ = some (.int .i64 (B : Int)) := by rw [hwk]; exact unhide HCK
            have fk : wk.frozen? ⟨g, B, none⟩ = false := by rw [hwk]; exact unhide HFK
            have vk : wk.cell? ⟨g, B, none⟩ = some (.float .f64 b) := by rw [hwk]; exact unhide HVK
            have HFI : Hid (RbI w.heap.size g cp (rat k xs (l.take (i + 1))) w (wk.setCell ⟨g, B, none⟩ (.float .f64 zb))) := hide (by rw [hwk]; exact unhide HFIN)
            clear hwk HFIN HCK HFK HVK f1 v1 c0 c1 c2
            go_wp2
            go_roundw
            case rel => exact ⟨i + 1, by omega, by go_num, unhide HFI⟩
            case measure => simp only [intOf]; omega
          · have o8 := unhide HO8 4607182418800017408 (unhide HDG (by rw [unhide HB1]; simp) (unhide HB2))
            clear HO8
            go_upto_region 16 with fail
            go_upto_region 17 with fail
            obtain ⟨wk, hwk⟩ : ∃ wk, wk = wj.setCell ⟨g, A, none⟩ (.float .f64 za) := ⟨_, rfl⟩
            rw [← hwk]
            have ck : wk.cell? ⟨gr, off + i * 3 + 1, none⟩ = some (.int .i64 (B : Int)) := by rw [hwk]; exact unhide HCK
            have fk : wk.frozen? ⟨g, B, none⟩ = false := by rw [hwk]; exact unhide HFK
            have vk : wk.cell? ⟨g, B, none⟩ = some (.float .f64 b) := by rw [hwk]; exact unhide HVK
            have HFI : Hid (RbI w.heap.size g cp (rat k xs (l.take (i + 1))) w (wk.setCell ⟨g, B, none⟩ (.float .f64 zb))) := hide (by rw [hwk]; exact unhide HFIN)
            clear hwk HFIN HCK HFK HVK f1 v1 c0 c1 c2
            go_wp2
            go_roundw
            case rel => exact ⟨i + 1, by omega, by go_num, unhide HFI⟩
            case measure => simp only [intOf]; omega
      · have hlti : ¬ (i : Int) < (N : Int) := by omega
        have HE : Hid (RdE (rat k xs l) w (.returned (.slice (some ⟨g, 0, none⟩) n cp)) wr) := hide (by
          rw [List.take_of_length_le (by have := unhide HN; omega)] at hinv
          refine ⟨hinv.bw, _, rfl, ?_⟩
          have := hinv.row.row
          rw [rat_len, ← unhide HNN] at this ⊢
          exact this)
        clear hinv
        go_wp2
        go_ret
        exact unhide HE
end Go.Proofs.Ytdpjkfmhmjgokaa
