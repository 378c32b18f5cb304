/-
  package moves, walked: further, over what is known of list and Behind.
-/
import Derived.Test.YtbglppcbgfkhmabGreatDoorJ21
import Derived.Test.YtbglppcbgfkhmabGreatDoorJ19
import Derived.Deep.RegionHeld3
import Derived.Deep.Cut
namespace Go.Proofs.YtbglppcbgfkhmabGreatDoor
open Go.RowKit
attribute [local go_sem ↓] Go.wp_at_zero Go.wp_at_succ

theorem growOf {w w' : World} (h : Below w.heap.size w w') (row : Option Nat) : w.grownBy w' row := ⟨h.os, h.tape, h.output, h.size, fun k hk _ => h.block k hk⟩
theorem isRu.of_block {w w' : World} {g : Nat} {v0 v1 v2 v3 v4 v5 v6 v7 v8 v9 v10 v11 v12 : Value} (h : isRu w g v0 v1 v2 v3 v4 v5 v6 v7 v8 v9 v10 v11 v12) (hb : w'.heap[g]? = w.heap[g]?) : isRu w' g v0 v1 v2 v3 v4 v5 v6 v7 v8 v9 v10 v11 v12 := hb.trans h
theorem isPb.of_block {w w' : World} {g : Nat} {W H T : Int} {C A B : ByteArray} (h : isPb w g W H T C A B) (hb : w'.heap[g]? = w.heap[g]?) : isPb w' g W H T C A B := hb.trans h
theorem isMb.of_block {w w' : World} {g : Nat} {f t c : Int} (h : isMb w g f t c) (hb : w'.heap[g]? = w.heap[g]?) : isMb w' g f t c := hb.trans h
theorem drew_grow (w : World) (row : Option Nat) : w.grownBy w.drew row := ⟨rfl, rfl, rfl, Nat.le_refl _, fun _ _ _ => rfl⟩

theorem wrap_small {n : Int} (h : -9223372036854775808 ≤ n ∧ n ≤ 9223372036854775807) : IntKind.i64.wrap n = n := by unfold IntKind.wrap; simp [IntKind.signed, IntKind.bits]; omega
theorem rep_len {α β : Type} (f : α → β) (N : Nat) : ∀ l : List α, (l.flatMap fun m => List.replicate N (f m)).length = N * l.length
  | [] => by simp
  | a :: t => by rw [List.flatMap_cons, List.length_append, List.length_replicate, rep_len f N t, List.length_cons, Nat.mul_succ, Nat.add_comm]
theorem flat_rep' {α β : Type} (f : α → List β) (a : α) : ∀ n : Nat, ((List.replicate n a).flatMap f).length = n * (f a).length
  | 0 => by simp
  | n + 1 => by rw [List.replicate_succ, List.flatMap_cons, List.length_append, flat_rep' f a n, Nat.succ_mul, Nat.add_comm]
theorem rep_perm' {α β γ : Type} (g : α → β) (c : γ) (n : Nat) : ∀ (l : List α), (l.flatMap fun m => List.replicate n (g m)).Perm ((List.replicate n c).flatMap fun _ => l.map g)
  | [] => by simp
  | m :: t => by
    rw [List.flatMap_cons]
    refine (List.Perm.append_left _ (rep_perm' g c n t)).trans ?_
    simp only [List.map_cons]
    clear rep_perm'
    induction n with
    | zero => simp
    | succ n ih =>
      simp only [List.replicate_succ, List.flatMap_cons, List.cons_append]
      refine List.Perm.cons _ ?_
      refine List.Perm.trans ?_ (List.Perm.append_left _ ih)
      rw [← List.append_assoc, ← List.append_assoc]
      exact List.Perm.append_right _ List.perm_append_comm
theorem rep_const {α β : Type} (f : α → List β) (a : α) : ∀ n : Nat, (List.replicate n a).flatMap f = (List.replicate n a).flatMap fun _ => f a
  | 0 => by simp
  | n + 1 => by rw [List.replicate_succ, List.flatMap_cons, List.flatMap_cons, rep_const f a n]
/-- One position more has been gone through. -/
theorem further_step {L : Po → List Mv} {beh : Po → Mv → Po} {E E' : List Po} {left : Lit → Bool} {p : Po} (hok : ∀ q ∈ E, q.ok) (hp : p.ok) (hl : left (litP p) = true) (h : E'.Perm ((gone left litP E).flatMap fun q => (L q).map (beh q))) :
    (E' ++ (L p).flatMap fun m => List.replicate (E.count p) (beh p m)).Perm ((gone (fun z => left z && !z.sameKey (litP p)) litP E).flatMap fun q => (L q).map (beh q)) := by
  refine List.Perm.trans ?_ ((gone_stepP hl hok hp).flatMap_right _).symm
  rw [List.flatMap_append]
  refine h.append ?_
  rw [rep_const (fun q => (L q).map (beh q)) p]
  exact rep_perm' (beh p) p (E.count p) (L p)
theorem flat_sub {α β : Type} (f : α → List β) (q : α → Bool) : ∀ l : List α, ((l.filter q).flatMap f).length ≤ (l.flatMap f).length
  | [] => by simp
  | a :: t => by
    have := flat_sub f q t
    rw [List.filter_cons]
    split <;> simp only [List.flatMap_cons, List.length_append] <;> omega

set_option maxHeartbeats 4000000 in
set_option maxRecDepth 100000 in
theorem further_walk (L : Po → List Mv) (beh : Po → Mv → Po) (E : List Po) (b : Nat) (v0 v1 v2 v3 v4 v5 v6 v7 v8 v9 v10 v11 v12 : Value) (w : World) (hlen : E.length ≤ 100000) (hc : countsP w b E) (hLn : ∀ p ∈ E, (L p).length ≤ 4608)
    (hL : ∀ p ∈ E, ∀ u, Below w.heap.size w u → Calls Tryz.prog 28 #[.agg #[v0, v1, v2, v3, v4, v5, v6, v7, v8, v9, v10, v11, v12], .agg #[.int .i64 p.W, .int .i64 p.H, .string p.C, .int .i64 p.T, .string p.A, .string p.B]] u fun e w' => ∃ v, e = .returned v ∧ w'.ownsRow u.heap.size 29 3 v (L p).length (mvals (L p)) ∧ Below u.heap.size u w')
    (hB : ∀ p ∈ E, ∀ m ∈ L p, (beh p m).ok ∧ ∀ u, Below w.heap.size w u → Calls Tryz.prog 31 #[.agg #[v0, v1, v2, v3, v4, v5, v6, v7, v8, v9, v10, v11, v12], .agg #[.int .i64 p.W, .int .i64 p.H, .string p.C, .int .i64 p.T, .string p.A, .string p.B], .agg #[.int .i64 m.f, .int .i64 (m.t : Int), .int .u8 (m.c : Int)]] u fun e w' => e = .returned (.agg #[.int .i64 (beh p m).W, .int .i64 (beh p m).H, .string (beh p m).C, .int .i64 (beh p m).T, .string (beh p m).A, .string (beh p m).B]) ∧ Below u.heap.size u w') :
    Calls Tryz.prog 42 #[.agg #[v0, v1, v2, v3, v4, v5, v6, v7, v8, v9, v10, v11, v12], .map (some b)] w fun e w' => Below w.heap.size w w' ∧
      ((∃ (E' : List Po) (b' : Nat), e = .returned (.tuple #[.map (some b'), .int .i64 (E'.length : Nat)]) ∧ E'.Perm (E.flatMap fun q => (L q).map (beh q)) ∧ E'.length ≤ 100000 ∧ countsP w' b' E' ∧ w.heap.size ≤ b') ∨
        ∃ n : Nat, 100000 < n ∧ e = .returned (.tuple #[.map none, .int .i64 (n : Int)]) ∧ 100000 < (E.flatMap fun q => (L q).map (beh q)).length) := by
  have hmm := @run_makeMap Tryz.prog
  obtain ⟨w1, hw1⟩ : ∃ w1, w1 = w.alloc (.cells #[v0, v1, v2, v3, v4, v5, v6, v7, v8, v9, v10, v11, v12] 27 (0, 0)) := ⟨_, rfl⟩
  obtain ⟨w2, hw2⟩ : ∃ w2, w2 = w1.alloc (.map #[] 0) := ⟨_, rfl⟩
  have hb1 : Below w.heap.size w w1 := by rw [hw1]; exact (Below.refl _ _).alloc (Nat.le_refl _) _
  have hb2 : Below w1.heap.size w1 w2 := by rw [hw2]; exact (Below.refl _ _).alloc (Nat.le_refl _) _
  have s1 : w1.heap.size = w.heap.size + 1 := by rw [hw1]; simp
  have s2 : w2.heap.size = w.heap.size + 2 := by rw [hw2]; simp [s1]
  have hru : isRu w2 w.heap.size v0 v1 v2 v3 v4 v5 v6 v7 v8 v9 v10 v11 v12 := isRu.below (show isRu w1 w.heap.size v0 v1 v2 v3 v4 v5 v6 v7 v8 v9 v10 v11 v12 by rw [hw1]; exact heap_alloc_new w _) hb2 (by omega)
  have hn2 : countsP w2 (w.heap.size + 1) [] := by rw [hw2, ← s1]; exact countsP_made w1
  have hbw : Below w.heap.size w w2 := hb1.trans (hb2.mono (by omega))
  have hblt := hc.lt
  have hc2 : countsP w2 b E := hc.below hbw hblt
  have hEok := hc.ok
  have HC2 := hide hc2
  have HN2 := hide hn2
  have HRU := hide hru
  have HBW := hide hbw
  have HW1 := hide hw1
  have HW2 := hide hw2
  have HS2 := hide s2
  have HL := hide hL
  have HB := hide hB
  have HLn := hide hLn
  have HOK := hide hEok
  clear hw1 hw2 hb1 hb2 s1 s2 hru hn2 hbw hc2 hc hL hB hLn hEok
  go_enter Tryz.func42, Tryz.ntmps42
  go_wp2_with (first
    | (at_range; rw [← unhide HW1, ← unhide HW2]; refine wpList_range_P _ rfl _ rfl b E rfl (unhide HC2) ?_; intro w0 left0 hrg0 hl0 hg0 hs0)
    | go_in)
  go_frame
  rw [unhide HS2] at hrg0 hs0 ⊢
  have HRG0 := hide hrg0
  have HL0 := hide hl0
  have HG0 := hide hg0
  clear hrg0 hl0 hg0
  go_loopw [7] (fun av wr => ∃ (left : Lit → Bool) (E' : List Po) (a0 : Nat), av = .int .i64 (a0 : Int) ∧ a0 ≤ 100000 ∧ Hid (E'.length = a0) ∧ Hid (E'.Perm ((gone left litP E).flatMap fun q => (L q).map (beh q))) ∧ Hid (rangesP wr b (w.heap.size + 2) E left) ∧ Hid (countsP wr (w.heap.size + 1) E') ∧ Hid (isRu wr w.heap.size v0 v1 v2 v3 v4 v5 v6 v7 v8 v9 v10 v11 v12) ∧ Hid (Below w.heap.size w wr)) (fun _ wr => wr.rangeLeft b (w.heap.size + 2))
  case atStart =>
    have hs2 := unhide HS2
    have hg := unhide HG0
    refine ⟨left0, [], 0, rfl, by omega, hide rfl, hide ?_, HRG0, hide ((unhide HN2).of_block (hg.block _ (by omega) (by simp))), hide ((unhide HRU).of_block (hg.block _ (by omega) (by simp))), hide ((unhide HBW).grown hg (unhide HBW).size (fun k hk => by cases hk))⟩
    rw [gone_start (unhide HL0)]
    simp
  case round =>
    obtain ⟨left, E', a0, rfl, hE', HA0, HPE, HRG, HCN, HRu, HBr⟩ := hrel
    clear HRG0 HL0 HG0 HN2 HRU HBW HC2 HW1 HW2 HS2 hs0
    go_wp2_with (first
      | (at_next; refine wpList_next_P _ rfl _ rfl b _ E left rfl (unhide HRG) ?_ ?_)
      | go_in)
    · intro hdone
      have HD := hide hdone
      clear hdone
      go_wp2
      go_ret2
      refine ⟨unhide HBr, .inl ⟨E', w.heap.size + 1, by rw [unhide HA0]; rfl, ?_, by rw [unhide HA0]; exact hE', unhide HCN, by omega⟩⟩
      have := unhide HPE
      rwa [gone_end (unhide HD)] at this
    · intro p w3 hpE hlp hrg1 hms hg1 hs1 hen
      have hbw := unhide HBr
      have hbs := hbw.size
      have hlr : w.heap.size + 2 < wr.heap.size := (unhide HRG).lt
      have hbw3 : Below w.heap.size w w3 := hbw.grown hg1 hbs (fun k hk => by cases hk; omega)
      have hcn3 : countsP w3 (w.heap.size + 1) E' := (unhide HCN).of_block (hg1.block _ (by omega) (by simp))
      have hru3 : isRu w3 w.heap.size v0 v1 v2 v3 v4 v5 v6 v7 v8 v9 v10 v11 v12 := (unhide HRu).of_block (hg1.block _ (by omega) (by simp))
      obtain ⟨w5, hw5⟩ : ∃ w5, w5 = w3.alloc (.cells #[.int .i64 p.W, .int .i64 p.H, .string p.C, .int .i64 p.T, .string p.A, .string p.B] 24 (0, 0)) := ⟨_, rfl⟩
      have hb5 : Below w3.heap.size w3 w5 := by rw [hw5]; exact (Below.refl _ _).alloc (Nat.le_refl _) _
      have s5 : w5.heap.size = w3.heap.size + 1 := by rw [hw5]; simp
      have hpb5 : isPb w5 w3.heap.size p.W p.H p.T p.C p.A p.B := by rw [hw5]; exact heap_alloc_new w3 _
      have hru5 : isRu w5 w.heap.size v0 v1 v2 v3 v4 v5 v6 v7 v8 v9 v10 v11 v12 := hru3.of_block (hb5.block _ (by omega))
      have hbw5 : Below w.heap.size w w5 := hbw3.trans (hb5.mono hbw3.size)
      have hcn5 : countsP w5 (w.heap.size + 1) E' := hcn3.of_block (hb5.block _ (by omega))
      have hrg5 : rangesP w5 b (w.heap.size + 2) E (fun z => left z && !z.sameKey (litP p)) := hrg1.of_blocks (hb5.block _ (by omega)) (hb5.block _ (by omega))
      have hml5 : w5.rangeLeft b (w.heap.size + 2) < wr.rangeLeft b (w.heap.size + 2) := by
        have e1 : w5.rangeLeft b (w.heap.size + 2) = w3.rangeLeft b (w.heap.size + 2) := by
          unfold World.rangeLeft
          rw [hb5.block b (by omega), hb5.block (w.heap.size + 2) (by omega)]
        rw [e1]
        exact hms
      have HCall := hide (unhide HL p hpE w5 hbw5)
      obtain ⟨N, hN⟩ : ∃ N, N = E.count p := ⟨_, rfl⟩
      have hN1 : 1 ≤ N := by rw [hN]; exact List.count_pos_iff.2 hpE
      have hN5 : N ≤ 100000 := by rw [hN]; exact Nat.le_trans List.count_le_length hlen
      rw [← hN] at hen ⊢
      have hpl := unhide HLn p hpE
      have HPB := hide hpb5
      have HRu5 := hide hru5
      have HB5 := hide hbw5
      have HCN5 := hide hcn5
      have HRG5 := hide hrg5
      have HML5 := hide hml5
      have HN := hide hN
      have HLP := hide hlp
      have HW5 := hide hw5
      obtain ⟨r0, r1, r2, r3, r4, r5, r6, r7, r8, r9, r10, r11, r12⟩ := hru5.cells
      obtain ⟨q0, q1, q2, q3, q4, q5⟩ := hpb5.all
      have hs35 : w.heap.size + 2 < w3.heap.size := by omega
      clear hbw hbs hbw3 hcn3 hru3 hb5 hpb5 hru5 hbw5 hcn5 hrg5 hml5 hN hlp hrg1 hms hg1 hs1 hlr HRG HCN HRu HBr hw5
      go_upto_region 5 with fail
      rw [← unhide HW5]
      go_wp2_with fail
      refine (unhide HCall).mono ?_
      rintro e w6 ⟨v, rfl, hown, hb6⟩
      obtain ⟨uo, uc, rfl⟩ := row_len hown
      clear r0 r1 r2 r3 r4 r5 r6 r7 r8 r9 r10 r11 r12 q0 q1 q2 q3 q4 q5 HCall HW5
      have hpb6 : isPb w6 w3.heap.size p.W p.H p.T p.C p.A p.B := (unhide HPB).of_block (hb6.block _ (by omega))
      have hru6 : isRu w6 w.heap.size v0 v1 v2 v3 v4 v5 v6 v7 v8 v9 v10 v11 v12 := (unhide HRu5).of_block (hb6.block _ (by omega))
      have hbw6 : Below w.heap.size w w6 := (unhide HB5).trans (hb6.mono (unhide HB5).size)
      have hcn6 : countsP w6 (w.heap.size + 1) E' := (unhide HCN5).of_block (hb6.block _ (by omega))
      have hrg6 : rangesP w6 b (w.heap.size + 2) E (fun z => left z && !z.sameKey (litP p)) := (unhide HRG5).of_blocks (hb6.block _ (by omega)) (hb6.block _ (by omega))
      have hml6 : w6.rangeLeft b (w.heap.size + 2) < wr.rangeLeft b (w.heap.size + 2) := by
        have e1 : w6.rangeLeft b (w.heap.size + 2) = w5.rangeLeft b (w.heap.size + 2) := by
          unfold World.rangeLeft
          rw [hb6.block b (by omega), hb6.block (w.heap.size + 2) (by omega)]
        rw [e1]
        exact unhide HML5
      obtain ⟨Ln, hLe⟩ : ∃ Ln, Ln = (L p).length := ⟨_, rfl⟩
      rw [← hLe] at hown hpl ⊢
      obtain ⟨K, hK⟩ : ∃ K, K = N * Ln := ⟨_, rfl⟩
      have hK9 : K ≤ 460800000 := by rw [hK]; exact Nat.mul_le_mul hN5 hpl
      have hmul : (N : Int) * (Ln : Int) = (K : Int) := by rw [hK, Int.natCast_mul]
      obtain ⟨A, hA⟩ : ∃ A, A = a0 + K := ⟨_, rfl⟩
      have hA9 : A ≤ 460900000 := by omega
      have hadd : (a0 : Int) + (K : Int) = (A : Int) := by omega
      have wmul : IntKind.i64.wrap (K : Int) = (K : Int) := wrap_small (by omega)
      have wadd : IntKind.i64.wrap (A : Int) = (A : Int) := wrap_small (by omega)
      have HLe := hide hLe
      have HK := hide hK
      have HA := hide hA
      have HPB := hide hpb6
      have HRu := hide hru6
      have HBw := hide hbw6
      have HCN := hide hcn6
      have HRG := hide hrg6
      have HML := hide hml6
      have HOWN := hide hown
      have HTOT : Hid ((E' ++ (L p).flatMap fun m => List.replicate N (beh p m)).length = A) := hide (by rw [List.length_append, unhide HA0, rep_len, ← hLe, hA, hK])
      have HST : Hid ((E' ++ (L p).flatMap fun m => List.replicate N (beh p m)).Perm ((gone (fun z => left z && !z.sameKey (litP p)) litP E).flatMap fun q => (L q).map (beh q))) := hide (by rw [unhide HN]; exact further_step (unhide HOK) (unhide HOK p hpE) (unhide HLP) (unhide HPE))
      have hs6 : w5.heap.size ≤ w6.heap.size := hb6.size
      clear hpb6 hru6 hbw6 hcn6 hrg6 hml6 hown hb6 hLe hK hA HRu5 HB5 HCN5 HRG5 HML5 HLP HPE HA0
      by_cases hgt : 100000 < A
      · have hgti : (100000 : Int) < (A : Int) := by omega
        go_wp2
        go_ret2
        refine ⟨unhide HBw, .inr ⟨A, hgt, rfl, ?_⟩⟩
        have h1 := (unhide HST).length_eq
        rw [unhide HTOT] at h1
        have h2 := flat_sub (fun q => (L q).map (beh q)) (fun a => !(fun z => left z && !z.sameKey (litP p)) (litP a)) E
        unfold gone at h1
        omega
      · have hgti : ¬ (100000 : Int) < (A : Int) := by omega
        go_wp2
        go_loopw [35] (fun jv wr => ∃ j : Nat, jv = .int .i64 (j : Int) ∧ j ≤ Ln ∧ Hid (w6.grownBy wr (some (w.heap.size + 1))) ∧ Hid (countsP wr (w.heap.size + 1) (E' ++ ((L p).take j).flatMap fun m => List.replicate N (beh p m)))) (fun jv _ => Ln - (intOf jv).toNat)
        case atStart => exact ⟨0, rfl, Nat.zero_le _, hide (growOf (Below.refl _ _) _), hide (by simpa using unhide HCN)⟩
        case round =>
          obtain ⟨j, rfl, hj, HG, HCJ⟩ := hrel
          clear HCN
          by_cases hlt : j < Ln
          · skip
            have hlti : (j : Int) < (Ln : Int) := by omega
            have hj0 : (0 : Int) ≤ (j : Int) := by omega
            have hjl : j < (L p).length := by rw [← unhide HLe]; exact hlt
            obtain ⟨m, hm⟩ : ∃ m, m = (L p)[j] := ⟨_, rfl⟩
            have hmi : (L p)[j]? = some m := by rw [hm]; exact List.getElem?_eq_getElem hjl
            have hmem : m ∈ L p := List.mem_of_getElem? hmi
            have hg6 := unhide HG
            have hownk : wr.ownsRow w5.heap.size 29 3 (.slice uo Ln uc) Ln (mvals (L p)) := (unhide HOWN).kept hg6 (by
              by_cases h0 : (Value.slice uo Ln uc).ownBlock = some (w.heap.size + 1)
              · have := ((unhide HOWN).lt _ h0).1
                omega
              · exact .inr h0)
            have hownk2 : wr.ownsRow w5.heap.size 29 3 (.slice uo Ln uc) (L p).length (mvals (L p)) := by rw [← unhide HLe]; exact hownk
            obtain ⟨ao, cap, e1, hle, hmx, hcs⟩ := isMvs.of hownk2
            obtain ⟨g, off, eg, hgk, c0, c1, c2⟩ := hcs j m hmi
            simp only [Value.slice.injEq] at e1
            obtain ⟨e1, e2, e3⟩ := e1
            subst eg
            subst e1
            subst e3
            unfold maxLen at hmx
            have hnx : Ln ≤ 9223372036854775807 := by omega
            rw [← unhide HLe] at hle
            have hpbk : isPb wr w3.heap.size p.W p.H p.T p.C p.A p.B := (unhide HPB).of_block (hg6.block _ (by omega) (by simp; omega))
            have hruk : isRu wr w.heap.size v0 v1 v2 v3 v4 v5 v6 v7 v8 v9 v10 v11 v12 := (unhide HRu).of_block (hg6.block _ (by omega) (by simp))
            have hbwk : Below w.heap.size w wr := (unhide HBw).grown hg6 (unhide HBw).size (fun k hk => by cases hk; omega)
            obtain ⟨wi, hwi⟩ : ∃ wi, wi = wr.alloc (.cells #[.int .i64 m.f, .int .i64 (m.t : Int), .int .u8 (m.c : Int)] 29 (0, 0)) := ⟨_, rfl⟩
            have hbi : Below wr.heap.size wr wi := by rw [hwi]; exact (Below.refl _ _).alloc (Nat.le_refl _) _
            have si : wi.heap.size = wr.heap.size + 1 := by rw [hwi]; simp
            have hs6k : w6.heap.size ≤ wr.heap.size := hg6.size
            have hmbi : isMb wi wr.heap.size m.f m.t m.c := by rw [hwi]; exact heap_alloc_new wr _
            have hpbi : isPb wi w3.heap.size p.W p.H p.T p.C p.A p.B := hpbk.of_block (hbi.block _ (by omega))
            have hrui : isRu wi w.heap.size v0 v1 v2 v3 v4 v5 v6 v7 v8 v9 v10 v11 v12 := hruk.of_block (hbi.block _ (by omega))
            have hbwi : Below w.heap.size w wi := hbwk.trans (hbi.mono hbwk.size)
            have hcni : countsP wi (w.heap.size + 1) (E' ++ ((L p).take j).flatMap fun m => List.replicate N (beh p m)) := (unhide HCJ).of_block (hbi.block _ (by omega))
            have hgi : w6.grownBy wi (some (w.heap.size + 1)) := hg6.andThen (growOf hbi none) (fun k hk => by cases hk)
            obtain ⟨hqok, hcall⟩ := unhide HB p hpE m hmem
            have HCall := hide (hcall wi.drew hbwi.drew)
            obtain ⟨q, hq⟩ : ∃ q, q = beh p m := ⟨_, rfl⟩
            rw [← hq] at HCall hqok
            obtain ⟨E2, hE2⟩ : ∃ E2, E2 = E' ++ ((L p).take j).flatMap fun m => List.replicate N (beh p m) := ⟨_, rfl⟩
            rw [← hE2] at hcni
            have hE2l : E2.length ≤ 460900000 := by
              rw [hE2]
              refine Nat.le_trans ?_ hA9
              rw [← unhide HTOT, List.length_append, List.length_append, rep_len, rep_len]
              exact Nat.add_le_add_left (Nat.mul_le_mul_left _ (by rw [List.length_take]; omega)) _
            have hnext : E' ++ ((L p).take (j + 1)).flatMap (fun m => List.replicate N (beh p m)) = E2 ++ List.replicate N q := by
              rw [hE2, List.take_add_one, hmi, hq]
              simp
            obtain ⟨c9, hc9⟩ : ∃ c9, c9 = E2.count q := ⟨_, rfl⟩
            have hc9l : c9 ≤ 460900000 := by rw [hc9]; exact Nat.le_trans List.count_le_length hE2l
            obtain ⟨c8, hc8⟩ : ∃ c8, c8 = c9 + N := ⟨_, rfl⟩
            have hcadd : (c9 : Int) + (N : Int) = (c8 : Int) := by omega
            have wcadd : IntKind.i64.wrap (c8 : Int) = (c8 : Int) := wrap_small (by omega)
            have HNX := hide hnext
            have HQ := hide hqok
            have HCI := hide hcni
            have HC9 := hide hc9
            have HC8 := hide hc8
            have HWI := hide hwi
            have HGI := hide hgi
            have HBWI := hide hbwi
            have HSI := hide si
            have HS6K := hide hs6k
            have hHS : ∀ u, wi.grownBy u (some (w.heap.size + 1)) → (u.cell? ⟨w.heap.size, 0, none⟩ = some v0 ∧ u.cell? ⟨w.heap.size, 1, none⟩ = some v1 ∧ u.cell? ⟨w.heap.size, 2, none⟩ = some v2 ∧ u.cell? ⟨w.heap.size, 3, none⟩ = some v3 ∧ u.cell? ⟨w.heap.size, 4, none⟩ = some v4 ∧ u.cell? ⟨w.heap.size, 5, none⟩ = some v5 ∧ u.cell? ⟨w.heap.size, 6, none⟩ = some v6 ∧ u.cell? ⟨w.heap.size, 7, none⟩ = some v7 ∧ u.cell? ⟨w.heap.size, 8, none⟩ = some v8 ∧ u.cell? ⟨w.heap.size, 9, none⟩ = some v9 ∧ u.cell? ⟨w.heap.size, 10, none⟩ = some v10 ∧ u.cell? ⟨w.heap.size, 11, none⟩ = some v11 ∧ u.cell? ⟨w.heap.size, 12, none⟩ = some v12 ∧ u.cell? ⟨w3.heap.size, 0, none⟩ = some (.int .i64 p.W) ∧ u.cell? ⟨w3.heap.size, 1, none⟩ = some (.int .i64 p.H) ∧ u.cell? ⟨w3.heap.size, 2, none⟩ = some (.string p.C) ∧ u.cell? ⟨w3.heap.size, 3, none⟩ = some (.int .i64 p.T) ∧ u.cell? ⟨w3.heap.size, 4, none⟩ = some (.string p.A) ∧ u.cell? ⟨w3.heap.size, 5, none⟩ = some (.string p.B) ∧ u.cell? ⟨wr.heap.size, 0, none⟩ = some (.int .i64 m.f) ∧ u.cell? ⟨wr.heap.size, 1, none⟩ = some (.int .i64 (m.t : Int)) ∧ u.cell? ⟨wr.heap.size, 2, none⟩ = some (.int .u8 (m.c : Int))) := fun u hu => by
              have hr := hrui.of_block (hu.block _ (by omega) (by simp))
              have hp := hpbi.of_block (hu.block _ (by omega) (by simp; omega))
              have hmm2 := hmbi.of_block (hu.block _ (by omega) (by simp; omega))
              obtain ⟨x0, x1, x2, x3, x4, x5, x6, x7, x8, x9, x10, x11, x12⟩ := hr.cells
              obtain ⟨y0, y1, y2, y3, y4, y5⟩ := hp.all
              obtain ⟨z0, z1, z2⟩ := hmm2.all
              exact ⟨x0, x1, x2, x3, x4, x5, x6, x7, x8, x9, x10, x11, x12, y0, y1, y2, y3, y4, y5, z0, z1, z2⟩
            have HS := hide hHS
            have HGD : Hid (wi.grownBy wi.drew (some (w.heap.size + 1))) := hide (drew_grow wi _)
            clear hHS hm hmi hmem hg6 hownk hownk2 hcs hpbk hruk hbwk hwi hbi si hs6k hmbi hpbi hrui hbwi hcni hgi hqok hcall hq hE2 hnext hc9 hc8 hgk e2
            go_upto_region 12 with fail
            rw [← unhide HWI]
            clear HWI c0 c1 c2
            go_region_held3 (fun u => u.cell? ⟨w.heap.size, 0, none⟩ = some v0 ∧ u.cell? ⟨w.heap.size, 1, none⟩ = some v1 ∧ u.cell? ⟨w.heap.size, 2, none⟩ = some v2 ∧ u.cell? ⟨w.heap.size, 3, none⟩ = some v3 ∧ u.cell? ⟨w.heap.size, 4, none⟩ = some v4 ∧ u.cell? ⟨w.heap.size, 5, none⟩ = some v5 ∧ u.cell? ⟨w.heap.size, 6, none⟩ = some v6 ∧ u.cell? ⟨w.heap.size, 7, none⟩ = some v7 ∧ u.cell? ⟨w.heap.size, 8, none⟩ = some v8 ∧ u.cell? ⟨w.heap.size, 9, none⟩ = some v9 ∧ u.cell? ⟨w.heap.size, 10, none⟩ = some v10 ∧ u.cell? ⟨w.heap.size, 11, none⟩ = some v11 ∧ u.cell? ⟨w.heap.size, 12, none⟩ = some v12 ∧ u.cell? ⟨w3.heap.size, 0, none⟩ = some (.int .i64 p.W) ∧ u.cell? ⟨w3.heap.size, 1, none⟩ = some (.int .i64 p.H) ∧ u.cell? ⟨w3.heap.size, 2, none⟩ = some (.string p.C) ∧ u.cell? ⟨w3.heap.size, 3, none⟩ = some (.int .i64 p.T) ∧ u.cell? ⟨w3.heap.size, 4, none⟩ = some (.string p.A) ∧ u.cell? ⟨w3.heap.size, 5, none⟩ = some (.string p.B) ∧ u.cell? ⟨wr.heap.size, 0, none⟩ = some (.int .i64 m.f) ∧ u.cell? ⟨wr.heap.size, 1, none⟩ = some (.int .i64 (m.t : Int)) ∧ u.cell? ⟨wr.heap.size, 2, none⟩ = some (.int .u8 (m.c : Int)))
                (first
                  | exact unhide HS _ (unhide HGD)
                  | exact unhide HS _ (unhide HGX)
                  | exact unhide HS _ (unhide HGY)
                  | exact unhide HS _ (unhide HGZ))
                (first
                  | (go_at_call 31; (with_reducible refine (unhide HCall).mono ?_); rintro e wx ⟨rfl, hbx⟩
                     have HGX : Hid (wi.grownBy wx (some (w.heap.size + 1))) := hide ((unhide HGD).andThen (growOf hbx none) (fun k hk => by cases hk))
                     have hsx := unhide HSI
                     have hs6x := unhide HS6K
                     have hcx : countsP wx (w.heap.size + 1) E2 := (unhide HCI).of_block ((hbx.block _ (by show _ < wi.heap.size; omega)).trans rfl)
                     have hlx : (Instr.lookup 70 (.map (some (w.heap.size + 1))) (.agg #[.int .i64 q.W, .int .i64 q.H, .string q.C, .int .i64 q.T, .string q.A, .string q.B]) false).run Tryz.prog wx = .ok (.int .i64 (c9 : Int)) wx := by rw [unhide HC9]; exact hcx.look (unhide HQ)
                     obtain ⟨st, wy, hey, hgy, hsy, hen2⟩ := hcx.entry (by omega) (unhide HQ)
                     have hey2 : (Instr.mapEntry 70 (.map (some (w.heap.size + 1))) (.agg #[.int .i64 q.W, .int .i64 q.H, .string q.C, .int .i64 q.T, .string q.A, .string q.B])).run Tryz.prog wx = .ok (.tuple #[.int .i64 (c9 : Int), .int .i64 (st : Int)]) wy := by rw [unhide HC9]; exact hey
                     have hly : (Instr.lookup 70 (.map (some (w.heap.size + 1))) (.agg #[.int .i64 q.W, .int .i64 q.H, .string q.C, .int .i64 q.T, .string q.A, .string q.B]) false).run Tryz.prog wy = .ok (.int .i64 (c9 : Int)) wy := by rw [unhide HC9]; exact hen2.look
                     obtain ⟨wz, hez, hcz, hgz, hsz⟩ := hen2.store N hN1 (by omega)
                     have hez2 : (Instr.entryStore 70 (.map (some (w.heap.size + 1))) (.int .i64 (st : Int)) (.int .i64 (c8 : Int))).run Tryz.prog wy = .ok () wz := by rw [unhide HC8, unhide HC9]; exact hez
                     have HGY : Hid (wi.grownBy wy (some (w.heap.size + 1))) := hide ((unhide HGX).andThen hgy (fun k hk => .inr hk))
                     have HGZ : Hid (wi.grownBy wz (some (w.heap.size + 1))) := hide ((unhide HGY).andThen hgz (fun k hk => .inr hk))
                     have HCZ := hide hcz
                     clear hey hez hcz hgy hgz hsy hsz hen2 hcx hbx hsx hs6x))
            all_goals
              go_wp2
              go_roundw
              case rel => exact ⟨j + 1, by go_num, by omega, hide ((unhide HGI).andThen (unhide HGZ) (fun k hk => .inr hk)), hide (by rw [unhide HNX]; exact unhide HCZ)⟩
              case measure => simp only [intOf]; omega
          · have hlti : ¬ (j : Int) < (Ln : Int) := by omega
            have hjl : j = Ln := by omega
            have hfin : countsP wr (w.heap.size + 1) (E' ++ (L p).flatMap fun m => List.replicate N (beh p m)) := by
              have := unhide HCJ
              rwa [List.take_of_length_le (by rw [← unhide HLe]; omega)] at this
            have HFIN := hide hfin
            clear hfin HCJ
            go_wp2
            go_roundw
            case rel =>
              have hg := unhide HG
              exact ⟨_, _, A, rfl, by omega, HTOT, HST, hide ((unhide HRG).of_blocks (hg.block _ (by omega) (by simp; omega)) (hg.block _ (by omega) (by simp))), HFIN, hide ((unhide HRu).of_block (hg.block _ (by omega) (by simp))), hide ((unhide HBw).grown hg (unhide HBw).size (fun k hk => by cases hk; omega))⟩
            case measure =>
              have hg := unhide HG
              have e1 : wr.rangeLeft b (w.heap.size + 2) = w6.rangeLeft b (w.heap.size + 2) := by
                unfold World.rangeLeft
                rw [hg.block b (by omega) (by simp; omega), hg.block (w.heap.size + 2) (by omega) (by simp)]
              rw [e1]
              exact unhide HML
end Go.Proofs.YtbglppcbgfkhmabGreatDoor
