/-
  package tourney, walked: finds.
-/
import Derived.Test.YtppkejblhkbkjaaZ15
namespace Go.Proofs.Ytppkejblhkbkjaa
open Go.RowKit Tu
attribute [local go_sem ↓] Go.wp_at_zero Go.wp_at_succ

/-- All is as it was but the pairing, the tree and its queue. -/
structure F2 (t g : Nat) (qv : Value) (W W' : World) : Prop where
  os : W'.os = W.os
  tape : W'.tape = W.tape
  output : W'.output = W.output
  size : W.heap.size ≤ W'.heap.size
  block : ∀ k, k < W.heap.size → k ≠ t → k ≠ g → qv.ownBlock ≠ some k → W'.heap[k]? = W.heap[k]?
theorem Fr.two {t g : Nat} {qv : Value} {W W' : World} (h : Fr t qv W W') : F2 t g qv W W' := ⟨h.os, h.tape, h.output, h.size, fun k hk h1 _ h2 => h.block k hk h1 h2⟩
theorem Fr.gb {t g : Nat} {qv : Value} {U V W : World} (h : Fr t qv U V) (k : Gb g V W) : F2 t g qv U W :=
  ⟨k.os.trans h.os, k.tape.trans h.tape, k.output.trans h.output, Nat.le_trans h.size k.size, fun i hi h1 h2 h3 => (k.block (Nat.lt_of_lt_of_le hi h.size) h2).trans (h.block i hi h1 h3)⟩
/-- What finds leaves. -/
def FnE (t g r n : Nat) (ok bar : Nat → Nat → Bool) (M : Nat → Option Nat) (q0 : Value) (W : World) (e : Ending) (W' : World) : Prop :=
  F2 t g q0 W W' ∧
  ((e = .returned (.bool false) ∧ ∃ (S : Nat → Bool) (tn : Nat → Tn) (B ρ : Nat → Nat) (Q : List Nat) (qv : Value), FI n ok M r S tn B ρ Q Q.length 0 ∧ isTq W' t g r S tn B Q qv ∧ isPr W' g n bar M) ∨
   (e = .returned (.bool true) ∧ ∃ M' : Nat → Option Nat, Mt n ok M' ∧ (∀ x, M x ≠ none → M' x ≠ none) ∧ M' r ≠ none ∧ isPr W' g n bar M'))
/-- What holds while the queue is gone through. -/
structure Fd (t g r n : Nat) (ok bar : Nat → Nat → Bool) (M : Nat → Option Nat) (q0 : Value) (W : World) (S : Nat → Bool) (tn : Nat → Tn) (B ρ : Nat → Nat) (Q : List Nat) (qv : Value) (i o : Nat) (u : World) : Prop where
  fi : FI n ok M r S tn B ρ Q i o
  tq : isTq u t g r S tn B Q qv
  pr : isPr u g n bar M
  lb : Lb tn
  nx : Nx W q0 qv
  fr : Fr t q0 W u
theorem isTq.at_ {u : World} {t g r : Nat} {S : Nat → Bool} {tn : Nat → Tn} {B : Nat → Nat} {Q : List Nat} {qv : Value} (h : isTq u t g r S tn B Q qv) {i x : Nat} (hi : Q[i]? = some x) : ∃ b cap, qv = .slice (some ⟨b, 0, none⟩) Q.length cap ∧ Q.length ≤ cap ∧ cap ≤ 9223372036854775807 ∧ u.cell? ⟨b, i, none⟩ = some (.int .i64 (x : Int)) := by
  have hl := (List.getElem?_eq_some_iff.1 hi).1
  rcases h.row.2 with ⟨-, h2⟩ | ⟨b, cap, cur, e1, _, _, h1, h2, _⟩
  · omega
  · unfold maxLen at h2
    refine ⟨b, cap, e1, h1, by omega, ?_⟩
    have := h.row.cells (g := b) (by rw [e1]; rfl) i (.int .i64 (x : Int)) (by unfold qvals; rw [List.getElem?_map, hi]; rfl)
    rw [show (⟨b, 0, none⟩ : Addr).add i = ⟨b, i, none⟩ by (simp [Addr.add]; try omega)] at this
    exact this

set_option maxHeartbeats 4000000 in
set_option maxRecDepth 100000 in
theorem finds_any (W : World) (t g r n : Nat) (ok bar : Nat → Nat → Bool) (M : Nat → Option Nat) (S0 : Nat → Bool) (tn0 : Nat → Tn) (B0 ρ0 : Nat → Nat) (Q0 : List Nat) (q0 : Value) (hn : n ≤ 60) (hs : ∀ x y, ok x y = ok y x) (hir : ∀ x, ok x x = false) (hbar : ∀ x y, x < n → y < n → x ≠ y → ok x y = !bar x y) (hgt : g < t) (hT : isTq W t g r S0 tn0 B0 Q0 q0) (hP : isPr W g n bar M) (hF : FI n ok M r S0 tn0 B0 ρ0 Q0 0 0) (hL : Lb tn0) :
    Calls Try.prog 29 #[.pointer (some ⟨t, 0, none⟩)] W (FnE t g r n ok bar M q0 W) := by
  have HST : Hid (Fd t g r n ok bar M q0 W S0 tn0 B0 ρ0 Q0 q0 0 0 W) := hide ⟨hF, hT, hP, hL, .inl rfl, Fr.of_below (Below.refl _ _)⟩
  have HS := hide hs
  have HIR := hide hir
  have HBAR := hide hbar
  have hni : (n : Int) ≤ 60 := by omega
  have hn0 : (0 : Int) ≤ (n : Int) := by omega
  clear hs hir hbar hT hP hF hL
  go_enter Try.func29, Try.ntmps29
  go_wp2
  go_loopw [3] (fun iv wr => ∃ (i : Nat) (S : Nat → Bool) (tn : Nat → Tn) (B ρ : Nat → Nat) (Q : List Nat) (qv : Value), i ≤ 60 ∧ iv = .int .i64 (i : Int) ∧ Hid (Fd t g r n ok bar M q0 W S tn B ρ Q qv i 0 wr) ∧ Hid (i ≤ Q.length)) (fun iv _ => 60 - (intOf iv).toNat)
  case atStart => exact ⟨0, _, _, _, _, _, _, by omega, rfl, HST, hide (Nat.zero_le _)⟩
  case round =>
    obtain ⟨i, S, tn, B, ρ, Q, qv, hi, rfl, HD, HIQ⟩ := hrel
    rename World => wr
    clear HST
    have e1 := (unhide HD).tq.te.q_
    obtain ⟨ao, cap, hqv⟩ := (unhide HD).tq.fm
    rw [hqv] at e1
    have hql : Q.length ≤ 60 := Nat.le_trans (unhide HD).fi.len hn
    obtain ⟨L, hLe⟩ : ∃ L, Q.length = L := ⟨_, rfl⟩
    rw [hLe] at e1 hql
    have HLE := hide hLe
    have HQV := hide hqv
    clear hLe hqv
    by_cases hil : i < L
    · have hii : (i : Int) < (L : Int) := by omega
      have hi0 : (0 : Int) ≤ (i : Int) := by omega
      obtain ⟨x, hx⟩ : ∃ x, Q[i]? = some x := ⟨Q[i]'(by rw [unhide HLE]; exact hil), List.getElem?_eq_getElem _⟩
      have d0 := (unhide HD).tq.te.p_
      have d1 := (unhide HD).pr.n_
      have HX := hide hx
      clear hx
      go_wp2
      clear d0 d1 e1
      go_loopw [21] (fun ov wq => ∃ (o : Nat) (S : Nat → Bool) (tn : Nat → Tn) (B ρ : Nat → Nat) (Q : List Nat) (qv : Value), o ≤ n ∧ ov = .int .i64 (o : Int) ∧ Hid (Fd t g r n ok bar M q0 W S tn B ρ Q qv i o wq) ∧ Hid (Q[i]? = some x)) (fun ov _ => n - (intOf ov).toNat)
      case atStart => exact ⟨0, _, _, _, _, _, _, Nat.zero_le _, rfl, HD, HX⟩
      case round =>
        clear HD HX HIQ HLE HQV
        obtain ⟨o, S, tn, B, ρ, Q, qv, ho, rfl, HD, HX⟩ := hrel
        rename World => wq
        by_cases hon : o < n
        · have hoi : (o : Int) < (n : Int) := by omega
          have ho0 : (0 : Int) ≤ (o : Int) := by omega
          have d2 := (unhide HD).tq.te.q_
          obtain ⟨b, cap, hqv, hc1, hc2, hcell⟩ := (unhide HD).tq.at_ (unhide HX)
          rw [hqv] at d2
          obtain ⟨L2, hL2⟩ : ∃ L2, Q.length = L2 := ⟨_, rfl⟩
          have hil2 : i < L2 := by rw [← hL2]; exact (List.getElem?_eq_some_iff.1 (unhide HX)).1
          rw [hL2] at d2 hc1
          have hii2 : (i : Int) < (L2 : Int) := by omega
          have hl2c : (L2 : Int) ≤ (cap : Int) := by omega
          have HM := hide (meets_any wq t g r n x o i ok bar M S tn B ρ qv Q hn (unhide HS) (unhide HIR) (unhide HBAR) hgt (unhide HD).tq (unhide HD).pr (unhide HD).fi (unhide HD).lb (unhide HX) hon)
          clear hqv hL2
          go_wp2_with fail
          refine (unhide HM).mono ?_
          rintro e W2 hme
          rcases hme with ⟨rfl, hmn⟩ | ⟨rfl, hmy⟩
          · obtain ⟨⟨S', tn', B', ρ', Q', qv', k1, k2, k3, k4⟩, k5, k6⟩ := hmn
            have HD2 : Hid (Fd t g r n ok bar M q0 W S' tn' B' ρ' (Q ++ Q') qv' i (o + 1) W2) := hide ⟨k1, k2, k5, k3, (unhide HD).nx.trans (unhide HD).fr.size k4, (unhide HD).fr.trans (unhide HD).nx k6⟩
            have HX2 : Hid ((Q ++ Q')[i]? = some x) := hide (by rw [List.getElem?_append_left (List.getElem?_eq_some_iff.1 (unhide HX)).1]; exact unhide HX)
            clear k1 k2 k3 k4 k5 k6 HM d2 hcell
            go_wp2
            go_roundw
            case rel => exact ⟨o + 1, S', tn', B', ρ', Q ++ Q', qv', by omega, by go_num, HD2, HX2⟩
            case measure => simp only [intOf]; omega
          · obtain ⟨⟨M', k1, k2, k3, k4⟩, k5⟩ := hmy
            have HE : Hid (FnE t g r n ok bar M q0 W (.returned (.bool true)) W2) := hide ⟨(unhide HD).fr.gb k5, .inr ⟨rfl, M', k1, k2, k3, k4⟩⟩
            clear k1 k2 k3 k4 k5 HM d2 hcell
            go_wp2
            go_ret
            exact unhide HE
        · have hoi : ¬ (o : Int) < (n : Int) := by omega
          obtain rfl : o = n := by omega
          have HD2 : Hid (Fd t g r o ok bar M q0 W S tn B ρ Q qv (i + 1) 0 wq) := hide ⟨(unhide HD).fi.row, (unhide HD).tq, (unhide HD).pr, (unhide HD).lb, (unhide HD).nx, (unhide HD).fr⟩
          have HQ2 : Hid (i + 1 ≤ Q.length) := hide (List.getElem?_eq_some_iff.1 (unhide HX)).1
          go_wp2
          go_roundw
          case rel => exact ⟨i + 1, S, tn, B, ρ, Q, qv, by omega, by go_num, HD2, HQ2⟩
          case measure => simp only [intOf]; omega
    · have hii : ¬ (i : Int) < (L : Int) := by omega
      have hie : i = Q.length := by have := unhide HIQ; rw [unhide HLE] at this ⊢; omega
      have HE : Hid (FnE t g r n ok bar M q0 W (.returned (.bool false)) wr) := hide (by
        refine ⟨(unhide HD).fr.two, .inl ⟨rfl, S, tn, B, ρ, Q, qv, ?_, (unhide HD).tq, (unhide HD).pr⟩⟩
        have := (unhide HD).fi
        rw [hie] at this
        exact this)
      clear hie
      go_wp2
      go_ret
      exact unhide HE
end Go.Proofs.Ytppkejblhkbkjaa
