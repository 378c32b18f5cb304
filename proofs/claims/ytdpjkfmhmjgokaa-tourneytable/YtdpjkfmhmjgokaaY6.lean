/-
  gamekeep.TourneySums, walked.
-/
import Derived.Test.YtdpjkfmhmjgokaaY5
namespace Go.Proofs.Ytdpjkfmhmjgokaa
open Go.RowKit Go.Sort
attribute [local go_sem ↓] Go.wp_at_zero Go.wp_at_succ

theorem wpList_append_run {P : Program} {ops : Array Oper} {rest : List Oper} {o : Oper} {a : Act} {w : World} {Q : Exit → Act → World → Prop} (hgd : o.guard = none) (s x : Operand) (t : TypeId)
    (ho : o.op = .call { callee := .builtin .append, args := #[s, x], argTypes := #[t, t] }) (v y v' : Value) (w' : World) (hs : a.eval s = v) (hx : a.eval x = y) (hr : (Builtin.append_ #[t, t] o.type #[v, y]).run P w = .ok v' w') (h : wpList P ops Q rest (a.put o.dst v') w') : wpList P ops Q (o :: rest) a w := by
  refine wpList_plain hgd fun K hK => ?_
  unfold Oper.wp execOp
  simp only [ho, resolve, invoke, builtin, Sem.run_bind, Sem.run_pure, Result.andThen_ok, List.map_toArray, List.map_cons, List.map_nil, hs, hx, hr]
  exact hK _ _ h
theorem row_lenT {w : World} {base : Nat} {e : TypeId} {size n : Nat} {v : Value} {xs : List Value} (h : w.ownsRow base e size v n xs) : ∃ uo uc, v = .slice uo n uc := by
  rcases h.2 with ⟨h1, h2⟩ | ⟨g, cap, cur, h1, -⟩
  · exact ⟨none, 0, by rw [h1, h2]⟩
  · exact ⟨_, _, h1⟩
/-- append of what stands in a box of its own. -/
theorem app_box {u : World} {base : Nat} {t e : TypeId} {i : TypeInfo} {z : Value} {size bytes : Nat} (ht : Try.prog.underlying t = some (.slice e)) (hi : Try.prog.info? e = some i) (hz : i.zero = some z) (hsize : i.size = size) (hby : i.bytes = bytes) (hzs : z.cells.size = size) (hsz : 0 < size)
    {v : Value} {n : Nat} {xs : List Value} (h : u.ownsRow base e size v n xs) (news : List Value) (hl : news.length = size) (h1 : ∀ x ∈ news, x.oneCell' = true) (h63 : n + 1 ≤ maxLen) (hbytes : (n + 1) * bytes ≤ 140737488355328) (hbase : base ≤ u.heap.size) :
    ∃ v' u', (Builtin.append_ #[t, t] t #[v, .slice (some ⟨u.heap.size, 0, none⟩) 1 1]).run Try.prog (u.alloc (.cells news.toArray e (0, 0))) = .ok v' u' ∧ u'.ownsRow base e size v' (n + 1) (xs ++ news) ∧ (∀ k, k < u.heap.size → v.ownBlock ≠ some k → u'.heap[k]? = u.heap[k]?) ∧ u.heap.size ≤ u'.heap.size ∧ u'.os = u.os ∧ u'.tape = u.tape ∧ u'.output = u.output ∧
      (v'.ownBlock = v.ownBlock ∨ ∃ g, v'.ownBlock = some g ∧ u.heap.size ≤ g) := by
  have hba : Below u.heap.size u (u.alloc (.cells news.toArray e (0, 0))) := (Below.refl _ _).alloc (Nat.le_refl _) _
  have hr : (u.alloc (.cells news.toArray e (0, 0))).ownsRow base e size v n xs := row_keep h (fun g hg => hba.block g (row_block h hg).2)
  obtain ⟨v', u', hrun, hrow, hg, -, hob⟩ := run_append_own_at (P := Try.prog) (u.alloc (.cells news.toArray e (0, 0))) base t t e i z size bytes ht hi hz hsize hby hzs hsz v n xs hr ⟨u.heap.size, 0, none⟩ 1 1 news (by omega)
    (fun a x hx => by
      have hh := heap_alloc_new u (.cells news.toArray e (0, 0))
      rw [show (⟨u.heap.size, 0, none⟩ : Addr).add a = ⟨u.heap.size, a, none⟩ by (simp [Addr.add]; try omega)]
      unfold World.cell?
      rw [hh]
      simpa using hx)
    h1 h63 hbytes (Nat.le_trans hbase hba.size)
  refine ⟨v', u', hrun, hrow, fun k hk hne => (hg.block k (Nat.lt_of_lt_of_le hk hba.size) (fun e => hne e.symm)).trans (hba.block k hk), Nat.le_trans hba.size hg.size, hg.os.trans hba.os, hg.tape.trans hba.tape, hg.output.trans hba.output, ?_⟩
  rcases hob with hob | hob
  · exact .inl hob
  · exact .inr ⟨_, hob, hba.size⟩


theorem infoRe : (Try.prog.info? 49).map (fun i => (i.zero, i.size, i.bytes)) = some (some (.agg #[.int .i64 0, .int .i64 0, .int .i64 0]), 3, 24) := by kernel_rfl
/-- A result's three cells. -/
def encRe (x : Re) : List Value := [.int .i64 x.a, .int .i64 x.b, .int .i64 x.h]
def revs (l : List Re) : List Value := l.flatMap encRe
theorem revs_len (l : List Re) : (revs l).length = l.length * 3 := fm_len (f := encRe) (c := 3) (fun _ => rfl) l
/-- A row of results of the call's own, while it is made. -/
structure SuI (w1 : World) (ml : List Re) (v : Value) (u : World) : Prop where
  row : u.ownsRow w1.heap.size 49 3 v ml.length (revs ml)
  bw : Below w1.heap.size w1 u
theorem SuI.keep {w1 u u' : World} {ml : List Re} {v : Value} (h : SuI w1 ml v u) (hb : Below u.heap.size u u') : SuI w1 ml v u' := ⟨row_keep h.row fun g hg => hb.block g (row_block h.row hg).2, h.bw.trans (hb.mono h.bw.size)⟩
theorem SuI.more {w1 u : World} {ml : List Re} {v : Value} (h : SuI w1 ml v u) (x : Re) (hl : ml.length ≤ 100000) :
    ∃ v' u', (Builtin.append_ #[22, 22] 22 #[v, .slice (some ⟨u.heap.size, 0, none⟩) 1 1]).run Try.prog (u.alloc (.cells #[.int .i64 x.a, .int .i64 x.b, .int .i64 x.h] 49 (0, 0))) = .ok v' u' ∧ SuI w1 (ml ++ [x]) v' u' := by
  obtain ⟨i0, hinfo, hz0, hz1, hz2⟩ := info_parts infoRe
  obtain ⟨v', u', hrun, hrow, hk, hs, h1, h2, h3, -⟩ := app_box (base := w1.heap.size) Try.underlying22 hinfo hz0 hz1 hz2 rfl (by omega) h.row (encRe x) rfl (by intro y hy; simp only [encRe, List.mem_cons, List.not_mem_nil, or_false] at hy; rcases hy with rfl | rfl | rfl <;> rfl) (by unfold maxLen; omega) (by omega) h.bw.size
  refine ⟨v', u', hrun, ?_, ?_⟩
  · rw [List.length_append, show revs (ml ++ [x]) = revs ml ++ encRe x by simp [revs]]
    exact hrow
  · refine ⟨h1.trans h.bw.os, h2.trans h.bw.tape, h3.trans h.bw.output, Nat.le_trans h.bw.size hs, fun k hk2 => (hk k (by have := h.bw.size; omega) ?_).trans (h.bw.block k hk2)⟩
    intro e
    have := (row_block h.row e).1
    omega
theorem SuI.is {w1 u : World} {ml : List Re} {v : Value} (h : SuI w1 ml v u) : ∃ ao cap, v = .slice ao ml.length cap ∧ isRs u u.heap.size ao cap ml := by
  have hr := h.row
  rcases hr.2 with ⟨e, h0⟩ | ⟨g, cap, cur, e, hb, hg, h1, h2, h3, h4⟩
  · have : ml = [] := List.length_eq_zero_iff.1 h0
    subst this
    exact ⟨none, 0, e, Nat.le_refl _, by unfold maxLen; omega, fun h => absurd rfl h⟩
  · subst e
    refine ⟨_, cap, rfl, h1, h2, fun _ => ⟨g, 0, rfl, (Array.getElem?_eq_some_iff.1 hg).1, fun i z hz => ?_⟩⟩
    have hi := (List.getElem?_eq_some_iff.1 hz).1
    have key : ∀ j, j < 3 → u.cell? ⟨g, 0 + i * 3 + j, none⟩ = (encRe z)[j]? := fun j hj => by
      rw [show 0 + i * 3 + j = i * 3 + j by omega, hr.cellAt (i * 3 + j) (by omega)]
      exact fm_at (f := encRe) (c := 3) (fun _ => rfl) ml i j z hz hj
    exact ⟨key 0 (by omega), key 1 (by omega), key 2 (by omega)⟩

/-- Turned round, and maybe the players exchanged. -/
def turnR (par : Int) (r : Re) : Re := if par = 0 then flp r else r
def turned (l : List Re) (S : Nat) (par : Int) : List Re := (rot l S).map (turnR par)
theorem turned_len (l : List Re) (S : Nat) (par : Int) : (turned l S par).length = l.length := by rw [turned, List.length_map, rot_len]
theorem turned_at (l : List Re) (S : Nat) (par : Int) {k j : Nat} {z : Re} (hk : k < l.length) (hj : (k + S) % l.length = j) (hz : l[j]? = some z) : (turned l S par)[k]? = some (turnR par z) := by
  rw [turned, List.getElem?_map, rot_at l S k hk, hj]
  have := (List.getElem?_eq_some_iff.1 hz)
  rw [getElem!_pos l j this.1, this.2]
  rfl
theorem turned_ok {n : Int} {l : List Re} (h : okL n l) (S : Nat) (par : Int) : okL n (turned l S par) := by
  refine ⟨by rw [turned_len]; exact h.1, fun r hr => ?_⟩
  obtain ⟨q, hq, rfl⟩ := List.mem_map.1 hr
  have hq2 := h.2 q ((rot_perm l S).mem_iff.1 hq)
  unfold turnR
  split
  · exact okRe_flp hq2
  · exact hq2
theorem turned_rks (n : Nat) (l : List Re) (S : Nat) (par : Int) : rks n (turned l S par) = rks n l := by
  rw [← rks_perm n (rot_perm l S)]
  unfold turned
  by_cases h : par = 0
  · have : turnR par = flp := by funext r; simp [turnR, h]
    rw [this, rks_flp]
  · have : turnR par = id := by funext r; simp [turnR, h]
    rw [this, List.map_id]
theorem ord_one {n : Nat} {l : List Re} {a b : List Rk} (ha : a.Perm (rks n l)) (hb : b.Perm (rks n l)) (sa : a.Pairwise fun x y => ordR x y < 0) (sb : b.Pairwise fun x y => ordR x y < 0) : a = b := by
  refine sorted_one (lt := fun x y => ordR x y < 0) (fun x h => ?_) (fun x y z h k => ?_) (ha.trans hb.symm) sa sb
  · rw [ordR_K, cmpK_TO.same] at h; omega
  · rw [ordR_K] at h k ⊢; exact cmpK_TO.trans _ _ _ h k

set_option maxHeartbeats 4000000 in
set_option maxRecDepth 100000 in
theorem tourneySums_any (n turn : Int) (l : List Re) (ao : Option Addr) (cap : Nat) (w : World) (h : isRs w w.heap.size ao cap l) :
    Calls Try.prog 5 #[.int .i64 n, .slice ao l.length cap, .int .i64 turn] w fun e w' => e = .returned (.bool true) ∧ Below w.heap.size w w' := by
  have HT1 := hide (Table_any n l ao cap w h)
  have HRS := hide h
  obtain ⟨N, hN⟩ : ∃ N, N = l.length := ⟨_, rfl⟩
  have HN := hide hN
  have hcap := h.mx
  have hle := h.le
  rw [← hN] at HT1 hle ⊢
  unfold maxLen at hcap
  clear h hN
  go_enter Try.func5, Try.ntmps5
  go_wp2_with fail
  refine (unhide HT1).mono ?_
  rintro e w1 ⟨hb1, hout⟩
  have HB1 := hide hb1
  clear hb1 HT1
  rcases hout with ⟨-, rfl⟩ | ⟨m, g, ts, rfl, hm, hok, rfl, hts, hrow, hpm, hsd⟩
  · go_wp2
    go_ret
    exact ⟨rfl, unhide HB1⟩
  have hN1 : N ≤ 10000 := by rw [unhide HN]; exact hok.1
  obtain ⟨par, hpar⟩ : ∃ p : Int, turn.tmod 2 = p := ⟨_, rfl⟩
  obtain ⟨tz, htz⟩ : ∃ p : Int, turn.tmod (N : Int) = p := ⟨_, rfl⟩
  obtain ⟨S, hS⟩ : ∃ S : Nat, S = (tz + N).toNat := ⟨_, rfl⟩
  have hI0 : SuI w1 ((turned l S par).take 0) (.slice none 0 0) w1 := ⟨⟨by simp [revs], .inl ⟨rfl, rfl⟩⟩, Below.refl _ _⟩
  have HI0 := hide hI0
  have HROW := hide hrow
  have HPM := hide hpm
  have HSD := hide hsd
  have HOK := hide hok
  have HTS := hide hts
  have HS := hide hS
  clear hrow hpm hsd hok hts hI0 hS
  go_wp2
  go_loopw [9, 28] (fun v iv wr => ∃ k : Nat, k ≤ N ∧ iv = .int .i64 (k : Int) ∧ SuI w1 ((turned l S par).take k) v wr) (fun _ iv _ => N - (intOf iv).toNat)
  case atStart => exact ⟨0, Nat.zero_le _, rfl, unhide HI0⟩
  case round =>
    obtain ⟨k, hk, rfl, hinv⟩ := hrel
    rename World => wr
    clear HI0
    by_cases hlt : k < N
    · have hlti : (k : Int) < (N : Int) := by omega
      have hk0 : (0 : Int) ≤ (k : Int) := by omega
      have hkl : k < l.length := by rw [← unhide HN]; exact hlt
      have hNp : (0 : Int) < (N : Int) := by omega
      have hN0 : ¬ (N : Int) = 0 := by omega
      have htz1 : tz < N := by rw [← htz]; exact Int.tmod_lt_of_pos _ hNp
      have htz2 : -(N : Int) < tz := by
        rw [← htz]
        have := Int.tmod_lt_of_pos (-turn) hNp
        rw [Int.neg_tmod] at this
        omega
      have hSN : (S : Int) = tz + N := by rw [unhide HS]; omega
      obtain ⟨j, hj⟩ : ∃ j, (k + S) % l.length = j := ⟨_, rfl⟩
      have hjN : j < N := by rw [unhide HN, ← hj]; exact Nat.mod_lt _ (by omega)
      obtain ⟨s1, hs1⟩ : ∃ s : Int, (k : Int) + tz = s := ⟨_, rfl⟩
      obtain ⟨s2, hs2⟩ : ∃ s : Int, s1 + (N : Int) = s := ⟨_, rfl⟩
      have hs3 : s2 = ((k + S : Nat) : Int) := by rw [← hs2, ← hs1, Int.natCast_add, hSN]; omega
      have hjm : s2.tmod (N : Int) = (j : Int) := by rw [hs3, ← hj, ← unhide HN]; rfl
      have hs2a : 0 ≤ s2 := by omega
      have hs2b : s2 ≤ 30000 := by omega
      have hs1a : -10000 ≤ s1 ∧ s1 ≤ 20000 := by omega
      have htzb : -10000 ≤ tz ∧ tz ≤ 10000 := by omega
      obtain ⟨z, hz⟩ : ∃ z, l[j]? = some z := ⟨_, List.getElem?_eq_getElem (by rw [← unhide HN]; exact hjN)⟩
      obtain ⟨gr, off, rfl, hgr, c0, c1, c2⟩ := ((unhide HRS).below ((unhide HB1).trans (hinv.bw.mono (unhide HB1).size)) (Nat.le_refl _)).at_ hz
      have hzok := (unhide HOK).2 z (List.mem_of_getElem? hz)
      have hh1 := hzok.2.2.2.2.2.1
      have hh2 := hzok.2.2.2.2.2.2
      have hat := turned_at l S par hkl hj hz
      have hj0 : (0 : Int) ≤ (j : Int) := by omega
      have hji : (j : Int) < (N : Int) := by omega
      obtain ⟨wi, hwi⟩ : ∃ wi, wi = wr.alloc (.cells #[.int .i64 z.a, .int .i64 z.b, .int .i64 z.h] 49 (0, 0)) := ⟨_, rfl⟩
      have hbx : isRb wi wr.heap.size z.a z.b z.h := by rw [hwi]; exact heap_alloc_new wr _
      have hbi : Below wr.heap.size wr wi := by rw [hwi]; exact (Below.refl _ _).alloc (Nat.le_refl _) _
      obtain ⟨y0, y1, y2⟩ := hbx.cell
      have fz : ∀ j, wi.frozen? ⟨wr.heap.size, j, none⟩ = false := fun j => by unfold isRb at hbx; simp [World.frozen?, hbx]
      have f0 := fz 0
      have f1 := fz 1
      have f2 := fz 2
      have hlen : ((turned l S par).take k).length ≤ 100000 := by rw [List.length_take]; omega
      have htk : ∀ x, (turned l S par)[k]? = some x → (turned l S par).take (k + 1) = (turned l S par).take k ++ [x] := fun x hx => by rw [List.take_add_one, hx, Option.toList_some]
      by_cases hp0 : par = 0
      · have hp1 : (par == 0) = true := by simp [hp0]
        have hx : turnR par z = ⟨z.b, z.a, 2 - z.h⟩ := by simp [turnR, hp0, flp]
        rw [hx] at hat
        obtain ⟨wj, hwj⟩ : ∃ wj, wj = ((wi.setCell ⟨wr.heap.size, 0, none⟩ (.int .i64 z.b)).setCell ⟨wr.heap.size, 1, none⟩ (.int .i64 z.a)).setCell ⟨wr.heap.size, 2, none⟩ (.int .i64 (2 - z.h)) := ⟨_, rfl⟩
        have hbj : isRb wj wr.heap.size z.b z.a (2 - z.h) := by
          rw [hwj]
          unfold isRb at hbx ⊢
          have h1 := heap_setCell_same wi wr.heap.size 0 _ _ (.int .i64 z.b) hbx
          have h2 := heap_setCell_same _ wr.heap.size 1 _ _ (.int .i64 z.a) h1
          have h3 := heap_setCell_same _ wr.heap.size 2 _ _ (.int .i64 (2 - z.h)) h2
          rw [h3]
          rfl
        have hbwj : Below wr.heap.size wr wj := by
          rw [hwj]
          refine ⟨hbi.os, hbi.tape, hbi.output, by simpa using hbi.size, fun k hk => ?_⟩
          rw [RowKit.Below.heap_setCell _ _ _ _ (by dsimp only; omega), RowKit.Below.heap_setCell _ _ _ _ (by dsimp only; omega), RowKit.Below.heap_setCell _ _ _ _ (by dsimp only; omega)]
          exact hbi.block k hk
        obtain ⟨v', u', hrun, hfin⟩ := (hinv.keep hbwj).more ⟨z.b, z.a, 2 - z.h⟩ hlen
        rw [← htk _ hat] at hfin
        have HFIN := hide hfin
        have HYJ := hide hbj.cell
        have HWI := hide hwi
        have HWJ := hide hwj
        clear hwi hwj hbx hbi hbj hbwj hfin hinv hat htk hx hz hzok hj hs3 hSN hgr hp0 fz hlen
        go_upto_region 9 with fail
        rw [← unhide HWI]
        clear HWI c0 c1 c2
        go_upto_region 11 with fail
        rw [← unhide HWJ]
        clear y0 y1 y2 f0 f1 f2 HWJ
        obtain ⟨y0, y1, y2⟩ := unhide HYJ
        go_wp2_with (first | (at_builtin; refine wpList_append_run rfl _ _ 22 rfl _ _ _ _ rfl rfl hrun ?_) | go_in)
        go_wp2
        go_roundw
        case rel => exact ⟨k + 1, by omega, by go_num, unhide HFIN⟩
        case measure => simp only [intOf]; omega
      · have hp1 : (par == 0) = false := by simp [hp0]
        have hx : turnR par z = ⟨z.a, z.b, z.h⟩ := by simp [turnR, hp0]
        rw [hx] at hat
        obtain ⟨v', u', hrun, hfin⟩ := (hinv.keep hbi).more ⟨z.a, z.b, z.h⟩ hlen
        rw [← htk _ hat] at hfin
        have HFIN := hide hfin
        have HWI := hide hwi
        clear hwi hbx hbi hfin hinv hat htk hx hz hzok hj hs3 hSN hgr hp0 fz hlen
        go_upto_region 9 with fail
        rw [← unhide HWI]
        clear HWI c0 c1 c2
        go_wp2_with (first | (at_builtin; refine wpList_append_run rfl _ _ 22 rfl _ _ _ _ rfl rfl hrun ?_) | go_in)
        go_wp2
        go_roundw
        case rel => exact ⟨k + 1, by omega, by go_num, unhide HFIN⟩
        case measure => simp only [intOf]; omega
    · have hlti : ¬ (k : Int) < (N : Int) := by omega
      have hkt : (turned l S par).take k = turned l S par := List.take_of_length_le (by rw [turned_len, ← unhide HN]; omega)
      rw [hkt] at hinv
      obtain ⟨mo, mc, rfl, hrs⟩ := hinv.is
      have HT2 := hide (Table_any (m : Int) (turned l S par) mo mc wr hrs)
      have hbw : Below w.heap.size w wr := (unhide HB1).trans (hinv.bw.mono (unhide HB1).size)
      have HROW2 := hide (row_keep (w' := wr) (unhide HROW) fun g hg => hinv.bw.block g (row_block (unhide HROW) hg).2)
      have HBW := hide hbw
      obtain ⟨M, hM⟩ : ∃ M, M = (turned l S par).length := ⟨_, rfl⟩
      rw [← hM] at HT2 ⊢
      clear hinv hrs hbw hkt hM HROW HB1
      go_wp2_with fail
      refine (unhide HT2).mono ?_
      rintro e w2 ⟨hb2, hout⟩
      obtain ⟨m', g', ts', hmm, hm', hok', rfl, hts', hrow', hpm', hsd'⟩ := hout.resolve_left (fun h => h.1 ⟨by omega, by omega, turned_ok (unhide HOK) S par⟩)
      obtain rfl : m = m' := by omega
      rw [turned_rks] at hpm'
      have hte : ts' = ts := ord_one hpm' (unhide HPM) hsd' (unhide HSD)
      subst hte
      have hrowA := row_keep (w' := w2) (unhide HROW2) fun g hg => hb2.block g (row_block (unhide HROW2) hg).2
      have hsum := sum_rks m (unhide HOK).2 hpm'
      rw [← unhide HN] at hsum
      have HSUM := hide hsum
      have HCA := hide (fun (i : Nat) (hi : i < m) => (show ∃ x, ts'[i]? = some x from ⟨_, List.getElem?_eq_getElem (by rw [hts']; exact hi)⟩))
      have HBW2 := hide ((unhide HBW).trans (hb2.mono (unhide HBW).size))
      rw [← hts'] at hrowA hrow'
      have HRA := hide hrowA
      have HRB := hide hrow'
      have HTL := hide hts'
      have HPS : Hid (∀ x ∈ ts', 0 ≤ x.q ∧ x.q ≤ 20000) := hide (fun x hx => by
        have hx2 := hpm'.mem_iff.1 hx
        obtain ⟨i, -, rfl⟩ := List.mem_map.1 hx2
        have := pts_bound (unhide HOK).2 (i : Int)
        have h2 := (unhide HOK).1
        simp only [rkOf]
        omega)
      clear hb2 hout hmm hm' hok' hts' hrow' hpm' hsd' hrowA hsum HROW2 HBW
      go_wp2
      go_loopw [13, 70] (fun sv iv wr => ∃ k : Nat, k ≤ m ∧ iv = .int .i64 (k : Int) ∧ sv = .int .i64 (sl Rk.q (ts'.take k)) ∧ wr = w2) (fun _ iv _ => m - (intOf iv).toNat)
      case atStart => exact ⟨0, Nat.zero_le _, rfl, by simp [sl], rfl⟩
      case round =>
        obtain ⟨i, hi, rfl, rfl, rfl⟩ := hrel
        by_cases hlt2 : i < m
        · have hlti2 : (i : Int) < (m : Int) := by omega
          have hi0 : (0 : Int) ≤ (i : Int) := by omega
          obtain ⟨x, hx⟩ := unhide HCA i hlt2
          have hcx := (unhide HRA).cellAt (i * 3 + 1) (by rw [unhide HTL]; omega)
          have cx : wr.cell? ⟨g, i * 3 + 1, none⟩ = some (.int .i64 x.q) := hcx.trans (fm_at (f := encR) (c := 3) (fun _ => rfl) ts' i 1 x hx (by omega))
          have hxq := unhide HPS x (List.mem_of_getElem? hx)
          have hsq : 0 ≤ sl Rk.q (ts'.take i) ∧ sl Rk.q (ts'.take i) ≤ 20000 * 200 := by
            have := sl_bound (f := Rk.q) (c := 20000) (l := ts'.take i) (fun y hy => unhide HPS y (List.mem_of_mem_take hy))
            have h2 : ((ts'.take i).length : Int) ≤ 200 := by rw [List.length_take]; omega
            omega
          have hstep := sl_snoc Rk.q ts' i x hx
          obtain ⟨sq, hsqe⟩ : ∃ s, s = sl Rk.q (ts'.take i) := ⟨_, rfl⟩
          rw [← hsqe] at hsq hstep ⊢
          have HST := hide hstep
          clear hcx hx hstep hsqe
          go_wp2
          go_roundw
          case rel => exact ⟨i + 1, by omega, by go_num, by rw [unhide HST], by first | rfl | trivial⟩
          case measure => simp only [intOf]; omega
        · have hlti2 : ¬ (i : Int) < (m : Int) := by omega
          have hit : ts'.take i = ts' := List.take_of_length_le (by rw [unhide HTL]; omega)
          rw [hit, unhide HSUM]
          have HSA := hide (SameR_same _ _ _ _ ts' wr (unhide HRA) (unhide HRB))
          rw [unhide HTL] at HSA
          have heq : ((2 * (N : Int)) == 2 * (N : Int)) = true := by simp
          clear hit
          go_wp2_with fail
          refine (unhide HSA).mono ?_
          rintro e w3 ⟨rfl, hb3⟩
          have HB3 := hide ((unhide HBW2).trans (hb3.mono (unhide HBW2).size))
          clear hb3
          go_wp2
          go_ret
          exact ⟨rfl, unhide HB3⟩
end Go.Proofs.Ytdpjkfmhmjgokaa
