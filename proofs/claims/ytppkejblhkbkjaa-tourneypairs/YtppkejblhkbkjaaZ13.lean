/-
  package tourney, walked: meeting.
-/
import Derived.Test.YtppkejblhkbkjaaZ12
namespace Go.Proofs.Ytppkejblhkbkjaa
open Go.RowKit Tu
attribute [local go_sem ↓] Go.wp_at_zero Go.wp_at_succ

/-- A list of sixty truths in a block. -/
structure isBl (W : World) (b : Nat) (P : Nat → Bool) : Prop where
  lt : b < W.heap.size
  fz : ∀ o, W.frozen? ⟨b, o, none⟩ = false
  at_ : ∀ i, i < 60 → W.cell? ⟨b, i, none⟩ = some (.bool (P i))
theorem isBl.keep {W W' : World} {b : Nat} {P : Nat → Bool} (h : isBl W b P) (hk : W'.heap[b]? = W.heap[b]?) : isBl W' b P := by
  have hlt : b < W'.heap.size := by
    have := h.lt
    rw [Array.getElem?_eq_getElem this] at hk
    exact (Array.getElem?_eq_some_iff.1 hk).1
  exact ⟨hlt, fun o => (blk_fz hk).trans (h.fz o), fun i hi => (blk_cell hk).trans (h.at_ i hi)⟩
theorem isBl.put {W : World} {b : Nat} {P : Nat → Bool} (h : isBl W b P) {v : Nat} (hv : v < 60) : isBl (W.setCell ⟨b, v, none⟩ (.bool true)) b (updT P v true) := by
  refine ⟨by rw [World.size_setCell]; exact h.lt, fun o => by rw [World.frozen?_setCell]; exact h.fz o, fun i hi => ?_⟩
  by_cases e : i = v
  · subst e
    rw [updT_same]
    exact set_eq (h.at_ i hi)
  · rw [set_ne (by omega), updT_other _ _ e]
    exact h.at_ i hi
theorem Up.next {r : Nat} {tn : Nat → Tn} {B : Nat → Nat} {x y c : Nat} (k : Up r tn B x y) (hc : tn x = .vert c) : y = x ∨ Up r tn B (B c) y := by
  cases k with
  | refl => exact .inl rfl
  | @step _ c' _ _ q2 q3 =>
    rw [hc] at q2
    obtain rfl : c = c' := by injection q2
    exact .inr q3
/-- Which bases on the first way have been passed, ahead of x. -/
def Psd (r : Nat) (tn : Nat → Tn) (B : Nat → Nat) (a : Nat) (x : Option Nat) (P : Nat → Bool) : Prop :=
  match x with
  | some x => Up r tn B (B a) x ∧ ∀ y, y < 60 → (P y = true ↔ (Up r tn B (B a) y ∧ Up r tn B y x ∧ y ≠ x))
  | none => ∀ y, y < 60 → (P y = true ↔ Up r tn B (B a) y)
section
variable {n : Nat} {ok : Nat → Nat → Bool} {M : Nat → Option Nat} {r : Nat} {S : Nat → Bool} {tn : Nat → Tn} {B ρ : Nat → Nat} {a : Nat} {P : Nat → Bool}
theorem Psd.start (h : TI n ok M r S tn B ρ) (ha : S a = true) (hP : ∀ i, i < 60 → P i = false) : Psd r tn B a (some (B a)) P := by
  refine ⟨.refl _, fun y hy => ?_⟩
  rw [hP y hy]
  constructor
  · intro e; cases e
  · rintro ⟨e1, e2, e3⟩
    obtain ⟨c1, c2⟩ := h.bs a ha
    exact absurd (h.anti c1 c2 e1 e2).symm e3
theorem Psd.root (h : TI n ok M r S tn B ρ) (ha : S a = true) (k : Psd r tn B a (some r) P) : Psd r tn B a none (updT P r true) := by
  intro y hy
  by_cases e : y = r
  · subst e
    rw [updT_same]
    exact ⟨fun _ => k.1, fun _ => rfl⟩
  · rw [updT_other _ _ e, k.2 y hy]
    refine ⟨fun e' => e'.1, fun e' => ⟨e', ?_, e⟩⟩
    obtain ⟨y1, y2⟩ := h.up2 ha e'
    exact h.rooted _ _ (Nat.le_refl _) y1 y2
theorem Psd.up (h : TI n ok M r S tn B ρ) (ha : S a = true) {x c : Nat} (k : Psd r tn B a (some x) P) (hr : x ≠ r) (hc : tn x = .vert c) : Psd r tn B a (some (B c)) (updT P x true) := by
  have hst : Up r tn B x (B c) := .step hr hc (.refl _)
  obtain ⟨x1, x2⟩ := h.up2 ha k.1
  refine ⟨k.1.trans hst, fun y hy => ?_⟩
  by_cases e : y = x
  · subst e
    rw [updT_same]
    refine ⟨fun _ => ⟨k.1, hst, fun e' => ?_⟩, fun _ => rfl⟩
    obtain ⟨_, a', _, _, e3, e4, _, e6⟩ := h.bas y x1 x2 hr
    rw [hc] at e3
    obtain rfl : c = a' := by injection e3
    rw [← e'] at e6; omega
  · rw [updT_other _ _ e, k.2 y hy]
    constructor
    · rintro ⟨e1, e2, e3⟩
      refine ⟨e1, e2.trans hst, fun e' => ?_⟩
      subst e'
      obtain ⟨y1, y2⟩ := h.up2 ha e1
      exact e (h.anti y1 y2 e2 hst)
    · rintro ⟨e1, e2, e3⟩
      refine ⟨e1, ?_, e⟩
      rcases k.1.line e1 with e' | e'
      · rcases Up.next e' hc with e'' | e''
        · exact absurd e'' e
        · obtain ⟨y1, y2⟩ := h.up2 ha e1
          exact absurd (h.anti y1 y2 e2 e'') e3
      · exact e'
end
/-- How far it is to the root at most. -/
def msr (ρ : Nat → Nat) (v : Value) : Nat := if intOf v < 0 then 0 else ρ (intOf v).toNat + 1
theorem msr_none (ρ : Nat → Nat) : msr ρ (.int .i64 (-1)) = 0 := rfl
theorem msr_some (ρ : Nat → Nat) (x : Nat) : msr ρ (.int .i64 (x : Int)) = ρ x + 1 := by
  unfold msr
  have : ¬ intOf (.int .i64 (x : Int)) < 0 := by simp only [intOf]; omega
  rw [if_neg this]
  simp [intOf]
/-- What meeting tells. -/
def MtE (r : Nat) (tn : Nat → Tn) (B : Nat → Nat) (a b : Nat) (W : World) (e : Ending) (W' : World) : Prop :=
  Below W.heap.size W W' ∧ ∃ m : Nat, m < 60 ∧ e = .returned (.int .i64 (m : Int)) ∧ Up r tn B (B a) m ∧ Up r tn B (B b) m ∧ ∀ y, Up r tn B (B a) y → Up r tn B (B b) y → Up r tn B m y

theorem lit60 : (#[Value.bool false, Value.bool false, Value.bool false, Value.bool false, Value.bool false, Value.bool false, Value.bool false, Value.bool false, Value.bool false, Value.bool false, Value.bool false, Value.bool false, Value.bool false, Value.bool false, Value.bool false, Value.bool false, Value.bool false, Value.bool false, Value.bool false, Value.bool false, Value.bool false, Value.bool false, Value.bool false, Value.bool false, Value.bool false, Value.bool false, Value.bool false, Value.bool false, Value.bool false, Value.bool false, Value.bool false, Value.bool false, Value.bool false, Value.bool false, Value.bool false, Value.bool false, Value.bool false, Value.bool false, Value.bool false, Value.bool false, Value.bool false, Value.bool false, Value.bool false, Value.bool false, Value.bool false, Value.bool false, Value.bool false, Value.bool false, Value.bool false, Value.bool false, Value.bool false, Value.bool false, Value.bool false, Value.bool false, Value.bool false, Value.bool false, Value.bool false, Value.bool false, Value.bool false, Value.bool false] : Array Value) = Array.replicate 60 (Value.bool false) := rfl
set_option maxHeartbeats 4000000 in
set_option maxRecDepth 100000 in
theorem meeting_any {n : Nat} {ok : Nat → Nat → Bool} {M : Nat → Option Nat} {r : Nat} {S : Nat → Bool} {tn : Nat → Tn} {B ρ : Nat → Nat} (hn : n ≤ 60) (h : TI n ok M r S tn B ρ) (W : World) (t g a b : Nat) (qv : Value) (hT : isTe W t g r S tn B qv) (ha : S a = true) (hb : S b = true) :
    Calls Try.prog 56 #[.pointer (some ⟨t, 0, none⟩), .int .i64 (a : Int), .int .i64 (b : Int)] W (MtE r tn B a b W) := by
  have hlt : ∀ x, S x = true → x < 60 := fun x hx => Nat.lt_of_lt_of_le (h.lt x hx) hn
  obtain ⟨a1, a2⟩ := h.bs a ha
  obtain ⟨b1, b2⟩ := h.bs b hb
  have ha60 := hlt a ha
  have hb60 := hlt b hb
  have hAB : ∀ x, S x = true → B x = x → x ≠ r → ∃ c, tn x = .vert c ∧ c < 60 ∧ S c = true ∧ ρ (B c) < ρ x := fun x hx hbx hr => by
    obtain ⟨_, c, _, _, e3, e4, _, e6⟩ := h.bas x hx hbx hr
    exact ⟨c, e3, hlt c e4, e4, e6⟩
  obtain ⟨W1, hW1⟩ : ∃ W1, W1 = W.alloc (Obj.cells #[Value.bool false, Value.bool false, Value.bool false, Value.bool false, Value.bool false, Value.bool false, Value.bool false, Value.bool false, Value.bool false, Value.bool false, Value.bool false, Value.bool false, Value.bool false, Value.bool false, Value.bool false, Value.bool false, Value.bool false, Value.bool false, Value.bool false, Value.bool false, Value.bool false, Value.bool false, Value.bool false, Value.bool false, Value.bool false, Value.bool false, Value.bool false, Value.bool false, Value.bool false, Value.bool false, Value.bool false, Value.bool false, Value.bool false, Value.bool false, Value.bool false, Value.bool false, Value.bool false, Value.bool false, Value.bool false, Value.bool false, Value.bool false, Value.bool false, Value.bool false, Value.bool false, Value.bool false, Value.bool false, Value.bool false, Value.bool false, Value.bool false, Value.bool false, Value.bool false, Value.bool false, Value.bool false, Value.bool false, Value.bool false, Value.bool false, Value.bool false, Value.bool false, Value.bool false, Value.bool false] 58 (0, 0)) := ⟨_, rfl⟩
  have hb1 : Below W.heap.size W W1 := by rw [hW1]; exact (Below.refl _ _).alloc (Nat.le_refl _) _
  have ht1 := hT.keep (hb1.block t hT.lt)
  have hblk : W1.heap[W.heap.size]? = some (Obj.cells (Array.replicate 60 (Value.bool false)) 58 (0, 0)) := by rw [hW1, lit60]; exact heap_alloc_new _ _
  have hbl : isBl W1 W.heap.size (fun _ => false) := by
    refine ⟨(Array.getElem?_eq_some_iff.1 hblk).1, fun o => by simp [World.frozen?, hblk], fun i hi => ?_⟩
    unfold World.cell?
    rw [hblk]
    simp [hi]
  have htl := hT.lt
  have c1 := ht1.ba a ha60
  have hai : (a : Int) < 60 := by omega
  have ha0 : (0 : Int) ≤ (a : Int) := by omega
  have hbi : (b : Int) < 60 := by omega
  have hb0 : (0 : Int) ≤ (b : Int) := by omega
  have HP0 : Hid (Psd r tn B a (some (B a)) (fun _ => false)) := hide (Psd.start h ha (fun _ _ => rfl))
  have HBL := hide hbl
  have HT1 := hide ht1
  have HB1 := hide hb1
  have HW1 := hide hW1
  have HTI := hide h
  have HLT := hide hlt
  have HAB := hide hAB
  have HSA := hide ha
  have HSB := hide hb
  clear hT ht1 hbl hb1 hW1 hblk h hlt hAB ha hb a1 a2 b1 b2
  go_enter Try.func56, Try.ntmps56
  go_upto_region 2 with fail
  rw [← unhide HW1]
  clear HW1
  go_wp2_with fail
  go_loopw [8] (fun iv wr => ∃ (x : Option Nat) (P : Nat → Bool), iv = .int .i64 (pI x) ∧ Hid (Psd r tn B a x P) ∧ Hid (isBl wr W.heap.size P) ∧ Hid (isTe wr t g r S tn B qv) ∧ Hid (Below W.heap.size W wr)) (fun iv _ => msr ρ iv)
  case atStart => exact ⟨some (B a), _, rfl, HP0, HBL, HT1, HB1⟩
  case round =>
    obtain ⟨x, P, rfl, HP, HL, HT, HB⟩ := hrel
    rename World => wr
    clear HP0 HBL HT1 HB1
    cases x with
    | some x =>
      obtain ⟨x1, x2⟩ := (unhide HTI).up2 (unhide HSA) (unhide HP).1
      have hx60 := unhide HLT x x1
      have e0 : pI (some x) = (x : Int) := rfl
      rw [e0]
      have hxi : (x : Int) < 60 := by omega
      have hx0 : (0 : Int) ≤ (x : Int) := by omega
      have hxn : ((x : Int) == -1) = false := by simp
      have c2 := (unhide HL).at_ x hx60
      have c3 := (unhide HL).fz x
      obtain ⟨W3, hW3⟩ : ∃ W3, W3 = wr.setCell ⟨W.heap.size, x, none⟩ (.bool true) := ⟨_, rfl⟩
      have hl3 : isBl W3 W.heap.size (updT P x true) := by rw [hW3]; exact (unhide HL).put hx60
      have hg3 : Gb W.heap.size wr W3 := by rw [hW3]; exact Gb.set _ _
      have ht3 := (unhide HT).keep (hg3.block (unhide HT).lt (by omega))
      have hb3 : Below W.heap.size W W3 := (unhide HB).trans ⟨hg3.os, hg3.tape, hg3.output, hg3.size, fun k hk => hg3.block (by have := (unhide HB).size; omega) (by omega)⟩
      have HAV := hide (above_any W3 t g r x S tn B qv ht3 hx60 (fun hr => by obtain ⟨c, q1, q2, -⟩ := unhide HAB x x1 x2 hr; exact ⟨c, q1, q2⟩))
      have HL3 := hide hl3
      have HT3 := hide ht3
      have HB3 := hide hb3
      have HW3 := hide hW3
      have hP := unhide HP
      clear hl3 hg3 ht3 hb3 hW3 HL HT HB HP e0
      go_wp2_with fail
      rw [← unhide HW3]
      clear HW3 c2 c3
      refine (unhide HAV).mono ?_
      rintro e W4 ⟨rfl, hb4⟩
      have hl4 := (unhide HL3).keep (hb4.block _ (unhide HL3).lt)
      have ht4 := (unhide HT3).keep (hb4.block _ (unhide HT3).lt)
      have hb4' := (unhide HB3).trans (hb4.mono (unhide HB3).size)
      have HL4 := hide hl4
      have HT4 := hide ht4
      have HB4 := hide hb4'
      clear hl4 ht4 hb4' hb4 HAV HL3 HT3 HB3
      by_cases hr : x = r
      · subst hr
        rw [if_pos rfl]
        have HPN := hide (hP.root (unhide HTI) (unhide HSA))
        clear hP
        go_wp2
        go_roundw
        case rel => exact ⟨none, _, rfl, HPN, HL4, HT4, HB4⟩
        case measure =>
          rw [msr_some]
          exact Nat.lt_of_le_of_lt (Nat.le_of_eq (msr_none ρ)) (Nat.succ_pos _)
      · obtain ⟨c, q1, q2, q3, q4⟩ := unhide HAB x x1 x2 hr
        rw [if_neg hr, q1]
        have HPN := hide (hP.up (unhide HTI) (unhide HSA) hr q1)
        have HQ4 := hide q4
        clear hP q1 q4
        go_wp2
        go_roundw
        case rel => exact ⟨some (B c), _, rfl, HPN, HL4, HT4, HB4⟩
        case measure =>
          have := unhide HQ4
          rw [msr_some, msr_some]
          omega
    | none =>
      have e0 : pI none = -1 := rfl
      rw [e0]
      have c4 := (unhide HT).ba b hb60
      have hP : ∀ y, y < 60 → (P y = true ↔ Up r tn B (B a) y) := unhide HP
      have HPA := hide hP
      clear e0 hP HP
      go_wp2
      go_loopw [9] (fun iv wq => ∃ x : Nat, iv = .int .i64 (x : Int) ∧ Hid (Up r tn B (B b) x ∧ ∀ y, Up r tn B (B b) y → Up r tn B y x → y ≠ x → ¬ Up r tn B (B a) y) ∧ Hid (isBl wq W.heap.size P) ∧ Hid (isTe wq t g r S tn B qv) ∧ Hid (Below W.heap.size W wq)) (fun iv _ => msr ρ iv)
      case atStart =>
        refine ⟨B b, rfl, hide ⟨.refl _, fun y e1 e2 e3 => ?_⟩, HL, HT, HB⟩
        obtain ⟨b1, b2⟩ := (unhide HTI).bs b (unhide HSB)
        exact absurd ((unhide HTI).anti b1 b2 e1 e2).symm e3
      case round =>
        obtain ⟨x, rfl, HX, HL2, HT2, HB2⟩ := hrel
        rename World => wq
        clear HL HT HB
        obtain ⟨x1, x2⟩ := (unhide HTI).up2 (unhide HSB) (unhide HX).1
        have hx60 := unhide HLT x x1
        have hxi : (x : Int) < 60 := by omega
        have hx0 : (0 : Int) ≤ (x : Int) := by omega
        have c5 := (unhide HL2).at_ x hx60
        cases hPx : P x with
        | true =>
          rw [hPx] at c5
          have HE : Hid (MtE r tn B a b W (.returned (.int .i64 (x : Int))) wq) := hide ⟨unhide HB2, x, hx60, rfl, (unhide HPA x hx60).1 hPx, (unhide HX).1, low_end (unhide HX).1 (unhide HX).2⟩
          clear hPx
          go_wp2
          go_ret
          exact unhide HE
        | false =>
          rw [hPx] at c5
          have hna : ¬ Up r tn B (B a) x := fun e => by
            have := (unhide HPA x hx60).2 e
            rw [hPx] at this; cases this
          have hr : x ≠ r := fun e => hna (by rw [e]; exact (unhide HTI).toRoot (unhide HSA))
          obtain ⟨c, q1, q2, q3, q4⟩ := unhide HAB x x1 x2 hr
          have HAV := hide (above_any wq t g r x S tn B qv (unhide HT2) hx60 (fun _ => ⟨c, q1, q2⟩))
          rw [if_neg hr, q1] at HAV
          have HXN := hide (low_step (unhide HTI) (unhide HSB) (unhide HX).1 hr q1 (unhide HX).2 hna)
          have HQ4 := hide q4
          clear hPx hna hr q1 q4
          go_wp2_with fail
          refine (unhide HAV).mono ?_
          rintro e W4 ⟨rfl, hb4⟩
          have HL4 := hide ((unhide HL2).keep (hb4.block _ (unhide HL2).lt))
          have HT4 := hide ((unhide HT2).keep (hb4.block _ (unhide HT2).lt))
          have HB4 := hide ((unhide HB2).trans (hb4.mono (unhide HB2).size))
          clear hb4 HAV c5
          go_wp2
          go_roundw
          case rel => exact ⟨B c, rfl, HXN, HL4, HT4, HB4⟩
          case measure =>
            have := unhide HQ4
            rw [msr_some, msr_some]
            omega
end Go.Proofs.Ytppkejblhkbkjaa
