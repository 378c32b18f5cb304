/-
  package tourney, walked: Table; the law's Same at ranks.
-/
import Derived.Test.YtdpjkfmhmjgokaaY4
namespace Go.Proofs.Ytdpjkfmhmjgokaa
open Go.RowKit Go.Sort
attribute [local go_sem ↓] Go.wp_at_zero Go.wp_at_succ

/-- What Table leaves. -/
structure TaE (n : Int) (l : List Re) (w : World) (e : Ending) (w' : World) : Prop where
  bw : Below w.heap.size w w'
  out : (¬ (0 ≤ n ∧ n ≤ 200 ∧ okL n l) ∧ e = .returned (.tuple #[.slice none 0 0, .int .i64 1])) ∨
    ∃ (m : Nat) (g : Nat) (ts : List Rk), n = (m : Int) ∧ m ≤ 200 ∧ okL m l ∧ e = .returned (.tuple #[.slice (some ⟨g, 0, none⟩) m m, .int .i64 0]) ∧ ts.length = m ∧ w'.ownsRow w.heap.size 34 3 (.slice (some ⟨g, 0, none⟩) m m) m (rvs ts) ∧ ts.Perm (rks m l) ∧ ts.Pairwise fun x y => ordR x y < 0

set_option maxHeartbeats 1000000 in
theorem Table_any (n : Int) (l : List Re) (ao : Option Addr) (cap : Nat) (w : World) (h : isRs w w.heap.size ao cap l) :
    Calls Try.prog 6 #[.int .i64 n, .slice ao l.length cap] w (TaE n l w) := by
  have HF := tisFrom_any 0 n 200 w
  by_cases hn : 0 ≤ n ∧ n ≤ 200
  · obtain ⟨m, rfl⟩ : ∃ m : Nat, n = (m : Int) := ⟨n.toNat, by omega⟩
    have hm : m ≤ 200 := by omega
    rw [show decide ((0 : Int) ≤ (m : Int) ∧ (m : Int) ≤ 200) = true from decide_eq_true hn] at HF
    have HA := hide (areResults_any (m : Int) (by omega) (by omega) l ao cap w h)
    have HH := hide h
    obtain ⟨N, hN⟩ : ∃ N, N = l.length := ⟨_, rfl⟩
    have HN := hide hN
    rw [← hN] at HA ⊢
    clear h hN
    by_cases hl : okL (m : Int) l
    · rw [okLB_t hl] at HA
      have HR : Hid (∀ u, Below w.heap.size w u → Calls Try.prog 20 #[.int .i64 (m : Int), .slice ao l.length cap] u (RaE m l u)) := hide (fun u hu => ranksOf_walk m hm l hl ao cap u ((unhide HH).keep (fun k hk => hu.block k hk) hu.size))
      rw [← unhide HN] at HR
      have HL := hide hl
      clear hl hn
      go_enter Try.func6, Try.ntmps6
      go_wp2_with fail
      refine HF.mono ?_
      rintro e w1 ⟨rfl, rfl⟩
      go_wp2_with fail
      refine (unhide HA).mono ?_
      rintro e w2 ⟨rfl, hb2⟩
      have HB2 := hide hb2
      have HC := hide (unhide HR w2 hb2)
      clear hb2 HR HA HF
      go_wp2_with fail
      refine (unhide HC).mono ?_
      rintro e w3 ⟨hb3, g, ts, rfl, hts, hrow, hpm, hsd⟩
      have HE : Hid (TaE (m : Int) l w1 (.returned (.tuple #[.slice (some ⟨g, 0, none⟩) m m, .int .i64 0])) w3) := hide (by
        have hs2 := (unhide HB2).size
        refine ⟨(unhide HB2).trans (hb3.mono hs2), .inr ⟨m, g, ts, rfl, hm, unhide HL, rfl, hts, ?_, hpm, hsd⟩⟩
        obtain ⟨r1, r2⟩ := hrow
        refine ⟨r1, ?_⟩
        rcases r2 with r2 | ⟨g', cp, cur, e1, hb, rr⟩
        · exact .inl r2
        · exact .inr ⟨g', cp, cur, e1, by omega, rr⟩)
      clear hb3 hts hrow hpm hsd
      go_wp2
      refine bodyPost_ret (v := .tuple #[.slice (some ⟨g, 0, none⟩) m m, .int .i64 0]) (by simp [results, Try.results6, go_sem]) rfl ?_
      exact unhide HE
    · rw [okLB_f hl] at HA
      have HE : Hid (∀ u, Below w.heap.size w u → TaE (m : Int) l w (.returned (.tuple #[.slice none 0 0, .int .i64 1])) u) := hide (fun u hu => ⟨hu, .inl ⟨fun h => hl h.2.2, rfl⟩⟩)
      clear hl hn
      go_enter Try.func6, Try.ntmps6
      go_wp2_with fail
      refine HF.mono ?_
      rintro e w1 ⟨rfl, rfl⟩
      go_wp2_with fail
      refine (unhide HA).mono ?_
      rintro e w2 ⟨rfl, hb2⟩
      have HC := hide (unhide HE w2 hb2)
      clear hb2 HE HA HF
      go_wp2
      refine bodyPost_ret (v := .tuple #[.slice none 0 0, .int .i64 1]) (by simp [results, Try.results6, go_sem]) rfl ?_
      exact unhide HC
  · rw [show decide ((0 : Int) ≤ n ∧ n ≤ 200) = false from decide_eq_false hn] at HF
    have HE : Hid (TaE n l w (.returned (.tuple #[.slice none 0 0, .int .i64 1])) w) := hide ⟨Below.refl _ _, .inl ⟨fun h => hn ⟨h.1, h.2.1⟩, rfl⟩⟩
    clear hn h
    go_enter Try.func6, Try.ntmps6
    go_wp2_with fail
    refine HF.mono ?_
    rintro e w1 ⟨rfl, rfl⟩
    go_wp2
    refine bodyPost_ret (v := .tuple #[.slice none 0 0, .int .i64 1]) (by simp [results, Try.results6, go_sem]) rfl ?_
    exact unhide HE

set_option maxHeartbeats 1000000 in
theorem eqRank (w : World) (a b c : Int) :
    (Op.equalIn 10000 34 (.agg #[.int .i64 a, .int .i64 b, .int .i64 c]) (.agg #[.int .i64 a, .int .i64 b, .int .i64 c])).run Try.prog w = .ok true w := by
  rw [run_equalIn_agg w 9999 34 _ _ (by kernel_rfl) (by kernel_rfl)]
  unfold Program.fieldsOf
  rw [Try.underlying34]
  simp [go_sem]

/-- A row read: where it lies. -/
theorem row_read {w : World} {base : Nat} {ts : List Rk} {v : Value} (h : w.ownsRow base 34 3 v ts.length (rvs ts)) : ∃ o c, v = .slice o ts.length c ∧ ts.length ≤ c ∧ c ≤ maxLen ∧ ∀ (k : Nat) (e : Rk), ts[k]? = some e → ∃ g, o = some ⟨g, 0, none⟩ ∧ ∀ u, Below w.heap.size w u → ∀ j, j < 3 → u.cell? ⟨g, k * 3 + j, none⟩ = (encR e)[j]? := by
  rcases h.2 with ⟨e1, h0⟩ | ⟨g, cap, cur, e1, hb1, hg, h1, h2, -⟩
  · refine ⟨none, 0, by rw [e1, h0], by omega, by unfold maxLen; omega, fun k e hk => ?_⟩
    have := (List.getElem?_eq_some_iff.1 hk).1
    omega
  · subst e1
    refine ⟨_, cap, rfl, h1, h2, fun k e hk => ⟨g, rfl, fun u hu j hj => ?_⟩⟩
    have hkl := (List.getElem?_eq_some_iff.1 hk).1
    have hgl : g < w.heap.size := (Array.getElem?_eq_some_iff.1 hg).1
    rw [World.cell?_of_block (a := ⟨g, k * 3 + j, none⟩) (hu.block g hgl), h.cellAt (k * 3 + j) (by omega)]
    exact fm_at (f := encR) (c := 3) (fun _ => rfl) ts k j e hk hj

set_option maxHeartbeats 4000000 in
set_option maxRecDepth 100000 in
theorem SameR_same (va vb : Value) (base base' : Nat) (ts : List Rk) (w : World) (ha : w.ownsRow base 34 3 va ts.length (rvs ts)) (hb : w.ownsRow base' 34 3 vb ts.length (rvs ts)) :
    Calls Try.prog 9 #[va, vb] w fun e w' => e = .returned (.bool true) ∧ Below w.heap.size w w' := by
  obtain ⟨ao, cap, rfl, hle, hmx, hcs⟩ := row_read ha
  obtain ⟨bo, cap', rfl, hle', hmx', hcs'⟩ := row_read hb
  obtain ⟨n, hn⟩ : ∃ n, n = ts.length := ⟨_, rfl⟩
  rw [← hn] at hle hle' ⊢
  unfold maxLen at hmx hmx'
  have hnx : n ≤ 9223372036854775807 := by omega
  have HN := hide hn
  have HCS := hide hcs
  have HCS' := hide hcs'
  clear hn hcs hcs' ha hb
  go_enter Try.func9, Try.ntmps9
  go_wp2
  go_loopw [13] (fun iv wr => ∃ k : Nat, iv = .int .i64 (k : Int) ∧ k ≤ n ∧ Below w.heap.size w wr) (fun iv _ => n - (intOf iv).toNat)
  case atStart => exact ⟨0, rfl, Nat.zero_le _, Below.refl _ _⟩
  case round =>
    obtain ⟨k, rfl, hk, hbw⟩ := hrel
    by_cases hlt : k < n
    · have hlti : (k : Int) < (n : Int) := by omega
      have hk0 : (0 : Int) ≤ (k : Int) := by omega
      have hkl : k < ts.length := by rw [← unhide HN]; exact hlt
      obtain ⟨m, hm⟩ : ∃ m, m = ts[k] := ⟨_, rfl⟩
      have hmk : ts[k]? = some m := by rw [hm]; exact List.getElem?_eq_getElem hkl
      obtain ⟨g, eg, cg⟩ := unhide HCS k m hmk
      obtain ⟨g', eg', cg'⟩ := unhide HCS' k m hmk
      subst eg
      subst eg'
      have d0 := cg _ hbw 0 (by omega)
      have d1 := cg _ hbw 1 (by omega)
      have d2 := cg _ hbw 2 (by omega)
      have f0 := cg' _ hbw 0 (by omega)
      have f1 := cg' _ hbw 1 (by omega)
      have f2 := cg' _ hbw 2 (by omega)
      rw [Nat.add_zero] at d0 f0
      simp only [encR, List.getElem?_cons_zero, List.getElem?_cons_succ] at d0 d1 d2 f0 f1 f2
      have he := fun u => eqRank u m.p m.q m.o
      have HBW := hide hbw
      clear hm hmk cg cg' hbw
      go_wp2_with fail
      go_quiet (fail)
      go_wp2
      go_roundw
      case rel => exact ⟨k + 1, by go_num, by omega, ⟨(unhide HBW).os, (unhide HBW).tape, (unhide HBW).output, (unhide HBW).size, (unhide HBW).block⟩⟩
      case measure => simp only [intOf]; omega
    · have hlti : ¬ (k : Int) < (n : Int) := by omega
      have HBW := hide hbw
      clear hbw
      go_wp2
      go_ret
      exact ⟨rfl, unhide HBW⟩
end Go.Proofs.Ytdpjkfmhmjgokaa
