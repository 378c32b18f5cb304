/-
  package tourney, walked: Pair.
-/
import Derived.Test.YtppkejblhkbkjaaZ21
namespace Go.Proofs.Ytppkejblhkbkjaa
open Go.RowKit Tu
attribute [local go_sem ↓] Go.wp_at_zero Go.wp_at_succ

/-- Who can be paired. -/
def okP (l : List (Int × Int)) (x y : Nat) : Bool := decide (x ≠ y) && !barM l x y
theorem okP_sym (l : List (Int × Int)) (x y : Nat) : okP l x y = okP l y x := by
  have h1 : barM l x y = barM l y x := by unfold barM; simp only [or_comm]
  have h2 : decide (x ≠ y) = decide (y ≠ x) := by simp only [ne_eq, eq_comm]
  unfold okP
  rw [h1, h2]
theorem okP_irr (l : List (Int × Int)) (x : Nat) : okP l x x = false := by simp [okP]
theorem okP_bar (l : List (Int × Int)) (x y : Nat) (h : x ≠ y) : okP l x y = !barM l x y := by simp [okP, h]
/-- Pairs of all players. -/
structure Prs (n : Nat) (l : List (Int × Int)) (M : Nat → Option Nat) : Prop where
  mt : Mt n (okP l) M
  all : ∀ x, x < n → M x ≠ none
/-- A barrier. -/
structure Brr (n : Nat) (l : List (Int × Int)) (r : Nat) (M : Nat → Option Nat) (S : Nat → Bool) (tn : Nat → Tn) (B ρ : Nat → Nat) : Prop where
  ti : TI n (okP l) M r S tn B ρ
  ed : ∀ p q, S p = true → q < n → okP l p q = true → isBar M S q = false → S q = true ∧ B p = B q
/-- What Pair answers. -/
def PrE (n : Nat) (l : List (Int × Int)) (W : World) (e : Ending) (W' : World) : Prop :=
  Below W.heap.size W W' ∧
  ((∃ M v, Prs n l M ∧ e = .returned (.tuple #[v, .slice none 0 0, .int .i64 0]) ∧ W'.ownsRow W.heap.size 45 2 v (prK M n).length (pvals (prK M n))) ∨
   (∃ r M S tn B ρ v, Brr n l r M S tn B ρ ∧ e = .returned (.tuple #[.slice none 0 0, v, .int .i64 0]) ∧ W'.ownsRow W.heap.size 3 1 v (barK M S 60).length (qvals (barK M S 60))))
theorem row_low {W : World} {b b' size n : Nat} {e : TypeId} {v : Value} {xs : List Value} (h : W.ownsRow b e size v n xs) (hb : b' ≤ b) : W.ownsRow b' e size v n xs := by
  refine ⟨h.1, ?_⟩
  rcases h.2 with h2 | ⟨q, cap, cur, e1, hq, r⟩
  · exact .inl h2
  · exact .inr ⟨q, cap, cur, e1, by omega, r⟩

theorem mt_none (n : Nat) (ok : Nat → Nat → Bool) : Mt n ok (fun _ => none) := ⟨(fun _ _ e => by cases e), (fun _ _ e => by cases e), (fun _ e => by cases e), (fun _ _ e => by cases e)⟩
theorem res3 {fn : Func} {t u v : Tmp} (h : fn.results = #[.tmp t, .tmp u, .tmp v]) (tmps : Array Value) (P : Program) (w : World) :
    (results fn tmps).run P w = .ok (.tuple #[tmps.getD t undef, tmps.getD u undef, tmps.getD v undef]) w := by simp [results, h]
set_option maxHeartbeats 4000000 in
set_option maxRecDepth 100000 in
theorem Pair_no (n : Int) (l : List (Int × Int)) (ao : Option Addr) (cap : Nat) (w : World) (h : isTw w w.heap.size ao cap l) (hb : (fldB n && l.all (okTw n)) = false) :
    Calls Try.prog 14 #[.int .i64 n, .slice ao l.length cap] w fun e w' => e = .returned (.tuple #[.slice none 0 0, .slice none 0 0, .int .i64 1]) ∧ Below w.heap.size w w' := by
  have HF := hide (isField_any n w)
  cases hf : fldB n with
  | false =>
    rw [hf] at HF
    have HB := hide (Below.refl w.heap.size w)
    clear hb hf h
    go_enter Try.func14, Try.ntmps14
    go_wp2_with fail
    refine (unhide HF).mono ?_
    rintro e w' ⟨rfl, hw⟩
    replace hw := hw.symm
    subst hw
    go_wp2
    (try simp only [Exit.inBlock, Exit.then])
    refine bodyPost_ret (res3 rfl _ _ _) rfl ?_
    exact ⟨rfl, unhide HB⟩
  | true =>
    have hn : 0 ≤ n ∧ n ≤ 60 := by unfold fldB at hf; simp at hf; omega
    have HA := hide (areTwos_any n hn.1 hn.2 l ao cap w h)
    have hl : l.all (okTw n) = false := by rw [hf] at hb; simpa using hb
    rw [hf] at HF
    rw [hl] at HA
    clear hb hf h hl hn
    go_enter Try.func14, Try.ntmps14
    go_wp2_with fail
    refine (unhide HF).mono ?_
    rintro e w' ⟨rfl, hw⟩
    replace hw := hw.symm
    subst hw
    go_wp2_with fail
    refine (unhide HA).mono ?_
    rintro e w1 ⟨rfl, hb1⟩
    have HB := hide hb1
    clear hb1 HA
    go_wp2
    (try simp only [Exit.inBlock, Exit.then])
    refine bodyPost_ret (res3 rfl _ _ _) rfl ?_
    exact ⟨rfl, unhide HB⟩

set_option maxHeartbeats 4000000 in
set_option maxRecDepth 100000 in
theorem Pair_yes (n : Nat) (l : List (Int × Int)) (ao : Option Addr) (cap : Nat) (w : World) (h : isTw w w.heap.size ao cap l) (hf : fldB (n : Int) = true) (hl : l.all (okTw (n : Int)) = true) :
    Calls Try.prog 14 #[.int .i64 (n : Int), .slice ao l.length cap] w (PrE n l w) := by
  have hn : n ≤ 60 := by unfold fldB at hf; simp at hf; omega
  have HF := hide (isField_any (n : Int) w)
  have HA := hide (areTwos_any (n : Int) (by omega) (by omega) l ao cap w h)
  rw [hf] at HF
  rw [hl] at HA
  have HH := hide h
  have HL := hide hl
  have hni : (n : Int) ≤ 60 := by omega
  have hn0 : (0 : Int) ≤ (n : Int) := by omega
  clear hf h hl
  go_enter Try.func14, Try.ntmps14
  go_wp2_with fail
  refine (unhide HF).mono ?_
  rintro e w' ⟨rfl, hw⟩
  replace hw := hw.symm
  subst hw
  go_wp2_with fail
  refine (unhide HA).mono ?_
  rintro e w1 ⟨rfl, hb1⟩
  have hs1 := hb1.size
  have h1 : isTw w1 w1.heap.size ao cap l := (unhide HH).keep (fun k hk => hb1.block k hk) hs1
  have HNP := hide (newPairing_any n hn l ao cap w1 h1 (unhide HL))
  have HB1 := hide hb1
  obtain ⟨g, hg⟩ : ∃ g, g = w1.heap.size := ⟨_, rfl⟩
  rw [← hg] at HNP
  have HG := hide hg
  clear hb1 h1 HA HF hg
  go_wp2_with fail
  refine (unhide HNP).mono ?_
  rintro e w2 ⟨rfl, hp2, hb2⟩
  have hgw : w.heap.size ≤ g := by rw [unhide HG]; exact hs1
  have HST : Hid (isPr w2 g n (barM l) (fun _ => none) ∧ Mt n (okP l) (fun _ => none) ∧ Below w.heap.size w w2 ∧ ∀ x, x < 0 → (none : Option Nat) ≠ none) := hide ⟨hp2, mt_none n _, (unhide HB1).trans (hb2.mono hgw), fun x hx => by omega⟩
  clear hp2 hb2 HNP HG HB1
  go_wp2
  go_loopw [23] (fun iv wr => ∃ (i : Nat) (M : Nat → Option Nat), i ≤ n ∧ iv = .int .i64 (i : Int) ∧ Hid (isPr wr g n (barM l) M ∧ Mt n (okP l) M ∧ Below w.heap.size w wr ∧ ∀ x, x < i → M x ≠ none)) (fun iv _ => n - (intOf iv).toNat)
  case atStart => exact ⟨0, fun _ => none, Nat.zero_le _, rfl, HST⟩
  case round =>
    obtain ⟨i, M, hi, rfl, HI⟩ := hrel
    rename World => wr
    clear HST
    by_cases hil : i < n
    · have hii : (i : Int) < (n : Int) := by omega
      have hi0 : (0 : Int) ≤ (i : Int) := by omega
      have hi60 : (i : Int) < 60 := by omega
      have c1 := (unhide HI).1.par i (by omega)
      cases hm : M i with
      | some y =>
        rw [hm] at c1
        have c1' : wr.cell? ⟨g, 3601 + i, none⟩ = some (.int .i64 (y : Int)) := c1
        have hyn : ((y : Int) == -1) = false := by simp
        have HN : Hid (isPr wr g n (barM l) M ∧ Mt n (okP l) M ∧ Below w.heap.size w wr ∧ ∀ x, x < i + 1 → M x ≠ none) := hide ⟨(unhide HI).1, (unhide HI).2.1, (unhide HI).2.2.1, fun x hx => by
          by_cases e : x = i
          · rw [e, hm]; simp
          · exact (unhide HI).2.2.2 x (by omega)⟩
        clear c1 hm
        go_wp2
        go_roundw
        case rel => exact ⟨i + 1, M, by omega, by go_num, HN⟩
        case measure => simp only [intOf]; omega
      | none =>
        rw [hm] at c1
        have c1' : wr.cell? ⟨g, 3601 + i, none⟩ = some (.int .i64 (-1)) := c1
        have HNT := hide (newTree_any wr g i (by omega))
        obtain ⟨t, ht⟩ : ∃ t, t = wr.heap.size := ⟨_, rfl⟩
        rw [← ht] at HNT
        have hgt : g < t := by rw [ht]; exact (unhide HI).1.lt
        have HTE := hide ht
        have HM := hide hm
        clear c1 hm ht
        go_wp2_with fail
        refine (unhide HNT).mono ?_
        rintro e w3 ⟨rfl, hb3, tn, qv, k1, k2⟩
        have hp3 := (unhide HI).1.keep (hb3.block g hgt)
        have HFI := hide (finds_any w3 t g i n (okP l) (barM l) M (fun x => x == i) tn id (fun _ => 0) [i] qv hn (okP_sym l) (okP_irr l) (fun x y _ _ e => okP_bar l x y e) hgt k1 hp3 (FI.start (unhide HI).2.1 (unhide HM) hil) k2)
        have HB3 := hide hb3
        have HOW := hide k1.row.lt
        clear k1 k2 hb3 hp3 HNT
        go_wp2_with fail
        refine (unhide HFI).mono ?_
        rintro e w4 ⟨hfr, hout⟩
        have hb4 : Below w.heap.size w w4 := by
          have hb3 := unhide HB3
          have hbw := (unhide HI).2.2.1
          have hwt : w.heap.size ≤ t := by rw [unhide HTE]; exact hbw.size
          have hbt : Below w.heap.size w w3 := hbw.trans (hb3.mono (by rw [unhide HTE] at hwt; rw [unhide HTE]; exact hwt))
          exact hbt.trans ⟨hfr.os, hfr.tape, hfr.output, hfr.size, fun k hk => hfr.block k (by have := hbt.size; omega) (by omega) (by omega) (fun e => by have := (unhide HOW) k e; omega)⟩
        have HB4 := hide hb4
        rcases hout with ⟨rfl, S, tn', B, ρ, Q, qv', j1, j2, j3⟩ | ⟨rfl, M', j1, j2, j3, j4⟩
        · have HBR := hide (barrier_any w4 t g i n (barM l) M S tn' B qv' j2.te j3 (fun x y e => Nat.lt_of_lt_of_le (j1.ti.mt.lt2 e) hn))
          have HBB : Hid (Brr n l i M S tn' B ρ) := hide ⟨j1.ti, fun p q hp hq ho hb => j1.done hp hq ho hb⟩
          clear j1 j2 j3 hfr hb4 HFI HI HB3 HOW
          go_wp2_with fail
          refine (unhide HBR).mono ?_
          rintro e w5 ⟨hb5, v, rfl, hrow⟩
          have HE : Hid (PrE n l w (.returned (.tuple #[.slice none 0 0, v, .int .i64 0])) w5) := hide ⟨(unhide HB4).trans (hb5.mono (unhide HB4).size), .inr ⟨i, M, S, tn', B, ρ, v, unhide HBB, rfl, row_low hrow (unhide HB4).size⟩⟩
          obtain ⟨bo, bc, rfl⟩ : ∃ o c, v = .slice o (barK M S 60).length c := by
            rcases hrow.2 with ⟨h1, h2⟩ | ⟨k, c, cur, h1, -⟩
            · exact ⟨none, 0, by rw [h1, h2]⟩
            · exact ⟨_, _, h1⟩
          generalize (barK M S 60).length = LB at HE ⊢
          clear hb5 hrow HBR
          go_wp2
          (try simp only [Exit.inBlock, Exit.then])
          refine bodyPost_ret (res3 rfl _ _ _) rfl ?_
          exact unhide HE
        · have HN : Hid (isPr w4 g n (barM l) M' ∧ Mt n (okP l) M' ∧ Below w.heap.size w w4 ∧ ∀ x, x < i + 1 → M' x ≠ none) := hide ⟨j4, j1, hb4, fun x hx => by
            by_cases e : x = i
            · rw [e]; exact j3
            · exact j2 x ((unhide HI).2.2.2 x (by omega))⟩
          clear j1 j2 j3 j4 hfr hb4 HFI HB3 HOW
          go_wp2
          go_roundw
          case rel => exact ⟨i + 1, M', by omega, by go_num, HN⟩
          case measure => simp only [intOf]; omega
    · obtain rfl : i = n := by omega
      have hii : ¬ (i : Int) < (i : Int) := by omega
      have HPA := hide (pairs_any wr g i (barM l) M hn (unhide HI).1)
      go_wp2_with fail
      refine (unhide HPA).mono ?_
      rintro e w5 ⟨hb5, v, rfl, hrow⟩
      have HE : Hid (PrE i l w (.returned (.tuple #[v, .slice none 0 0, .int .i64 0])) w5) := hide ⟨(unhide HI).2.2.1.trans (hb5.mono (unhide HI).2.2.1.size), .inl ⟨M, v, ⟨(unhide HI).2.1, (unhide HI).2.2.2⟩, rfl, row_low hrow (unhide HI).2.2.1.size⟩⟩
      obtain ⟨bo, bc, rfl⟩ : ∃ o c, v = .slice o (prK M i).length c := by
        rcases hrow.2 with ⟨h1, h2⟩ | ⟨k, c, cur, h1, -⟩
        · exact ⟨none, 0, by rw [h1, h2]⟩
        · exact ⟨_, _, h1⟩
      generalize (prK M i).length = LB at HE ⊢
      clear hb5 hrow HPA HI
      go_wp2
      (try simp only [Exit.inBlock, Exit.then])
      refine bodyPost_ret (res3 rfl _ _ _) rfl ?_
      exact unhide HE
end Go.Proofs.Ytppkejblhkbkjaa
