/-
  gameref.Odd, walked.
-/
import Derived.Test.YtppkejblhkbkjaaZ25
namespace Go.Proofs.Ytppkejblhkbkjaa
open Go.RowKit Tu
attribute [local go_sem ↓] Go.wp_at_zero Go.wp_at_succ

/-- n numbers in a block. -/
structure isGr (W : World) (b n : Nat) (G : Nat → Int) : Prop where
  lt : b < W.heap.size
  fz : ∀ o, W.frozen? ⟨b, o, none⟩ = false
  at_ : ∀ i, i < n → W.cell? ⟨b, i, none⟩ = some (.int .i64 (G i))
theorem isGr.keep {W W' : World} {b n : Nat} {G : Nat → Int} (h : isGr W b n G) (hk : W'.heap[b]? = W.heap[b]?) : isGr W' b n G := by
  have hlt : b < W'.heap.size := by
    have := h.lt
    rw [Array.getElem?_eq_getElem this] at hk
    exact (Array.getElem?_eq_some_iff.1 hk).1
  exact ⟨hlt, fun o => (blk_fz hk).trans (h.fz o), fun i hi => (blk_cell hk).trans (h.at_ i hi)⟩
theorem isGr.put {W : World} {b n : Nat} {G : Nat → Int} (h : isGr W b n G) {v : Nat} (hv : v < n) (z : Int) : isGr (W.setCell ⟨b, v, none⟩ (.int .i64 z)) b n (updT G v z) := by
  refine ⟨by rw [World.size_setCell]; exact h.lt, fun o => by rw [World.frozen?_setCell]; exact h.fz o, fun i hi => ?_⟩
  by_cases e : i = v
  · subst e
    rw [updT_same]
    exact set_eq (h.at_ i hi)
  · rw [set_ne (by omega), updT_other _ _ e]
    exact h.at_ i hi
theorem made_n (n : Nat) (hn : n ≤ 1000) (W : World) : (Instr.makeSlice 41 (.int .i64 (n : Int)) (.int .i64 (n : Int))).run Try.prog W = .ok (.slice (some ⟨W.heap.size, 0, none⟩) n n) (W.alloc (.cells (Array.replicate n (Value.int .i64 0)) 3 (0, 0))) := by
  obtain ⟨i0, hi, hz0, hz1, hz2⟩ := infoI_parts
  have h := run_make (P := Try.prog) W 41 3 i0 (.int .i64 0) Try.underlying41 hi hz0 .i64 .i64 (n : Int) (n : Int) (by omega) (by omega) (by rw [hz2]; omega) (by omega)
  rw [h, hz1]
  simp only [Int.toNat_natCast]
  have e : madeCells (Value.int .i64 0).cells (n * 1) = (Array.replicate n (Value.int .i64 0)) := by
    apply Array.toList_inj.1
    rw [show (Value.int .i64 0).cells = #[Value.int .i64 0] from rfl, toList_madeCells_one]
    simp
  rw [e]
theorem gr_new (W W1 : World) (n : Nat) (h : W1 = W.alloc (.cells (Array.replicate n (Value.int .i64 0)) 3 (0, 0))) : isGr W1 W.heap.size n (fun _ => 0) := by
  have hblk : W1.heap[W.heap.size]? = some (Obj.cells (Array.replicate n (Value.int .i64 0)) 3 (0, 0)) := by rw [h]; exact heap_alloc_new _ _
  refine ⟨(Array.getElem?_eq_some_iff.1 hblk).1, fun o => by simp [World.frozen?, hblk], fun i hi => ?_⟩
  unfold World.cell?
  rw [hblk]
  simp [hi]
/-- The barrier's players marked, as far as i. -/
def gL (L : List Nat) (i : Nat) : Nat → Int := fun x => if x ∈ L.take i then -1 else 0
theorem gL_next {L : List Nat} {i x : Nat} (h : L[i]? = some x) : updT (gL L i) x (-1) = gL L (i + 1) := by
  have ht : L.take (i + 1) = L.take i ++ [x] := by rw [List.take_add_one, h]; rfl
  funext y
  unfold gL
  rw [ht]
  by_cases e : y = x
  · subst e
    rw [updT_same]
    simp
  · rw [updT_other _ _ e]
    simp [e]
theorem gT_next {G0 : Nat → Int} {T : List Nat} {j : Nat} : updT (gT G0 T) j 1 = gT G0 (T ++ [j]) := by
  funext y
  unfold gT
  by_cases e : y = j
  · subst e
    rw [updT_same]
    simp
  · rw [updT_other _ _ e]
    simp [e]
theorem gT_one {G0 : Nat → Int} {i : Nat} : updT G0 i 1 = gT G0 [i] := by
  funext y
  unfold gT
  by_cases e : y = i
  · subst e
    rw [updT_same]
    simp
  · rw [updT_other _ _ e]
    simp [e]
theorem OdI.start {n : Nat} {l : List (Int × Int)} {M : Nat → Option Nat} {S : Nat → Bool} {B : Nat → Nat} (hn : n ≤ 60) : OdI n l M S B 0 (gL (barK M S 60) (barK M S 60).length) 0 := by
  have hm : ∀ x, x ∈ barK M S 60 ↔ (x < 60 ∧ isBar M S x = true) := fun x => by
    unfold barK
    simp only [List.mem_filter, List.mem_range]
  refine ⟨fun x hx => ?_, fun x hx => ?_, fun x hx => by omega, ?_, Nat.le_refl _⟩
  · unfold gL
    rw [List.take_length]
    by_cases e : x ∈ barK M S 60
    · rw [if_pos e]; exact ⟨fun _ => ((hm x).1 e).2, fun _ => rfl⟩
    · rw [if_neg e]
      constructor
      · intro e'; cases e'
      · intro e'; exact absurd ((hm x).2 ⟨by omega, e'⟩) e
  · unfold gL
    split
    · exact .inl rfl
    · exact .inr (.inl rfl)
  · rw [cnt_zero (fun x => ?_)]
    · exact Nat.le_refl _
    · unfold V1 gL
      simp only [decide_eq_false_iff_not]
      rintro ⟨-, e⟩
      split at e <;> cases e

set_option maxHeartbeats 4000000 in
set_option maxRecDepth 100000 in
theorem rOdd_any {n : Nat} {l : List (Int × Int)} {r : Nat} {M : Nat → Option Nat} {S : Nat → Bool} {tn : Nat → Tn} {B ρ : Nat → Nat} (hn : n ≤ 60) (hb : Brr n l r M S tn B ρ) (ao bo : Option Addr) (cap bcap : Nat) (w : World) (base : Nat) (h : isTw w w.heap.size ao cap l) (hL : w.ownsRow base 3 1 (.slice bo (barK M S 60).length bcap) (barK M S 60).length (qvals (barK M S 60))) :
    Calls Try.prog 17 #[.int .i64 (n : Int), .slice ao l.length cap, .slice bo (barK M S 60).length bcap] w fun e w' => Below w.heap.size w w' ∧ ∃ odd : Nat, odd ≤ 60 ∧ e = .returned (.int .i64 (odd : Int)) ∧ (barK M S 60).length < odd := by
  obtain ⟨L, hLe⟩ : ∃ L, L = barK M S 60 := ⟨_, rfl⟩
  rw [← hLe] at hL ⊢
  have hLl : L.length ≤ 60 := by rw [hLe]; exact barK_le M S 60
  have hni : (n : Int) ≤ 60 := by omega
  have hn0 : (0 : Int) ≤ (n : Int) := by omega
  obtain ⟨gb, hgb⟩ : ∃ gb, gb = w.heap.size := ⟨_, rfl⟩
  obtain ⟨W1, hW1⟩ : ∃ W1, W1 = w.alloc (.cells (Array.replicate n (Value.int .i64 0)) 3 (0, 0)) := ⟨_, rfl⟩
  have hb1 : Below w.heap.size w W1 := by rw [hW1]; exact (Below.refl _ _).alloc (Nat.le_refl _) _
  have hgr : isGr W1 gb n (gL L 0) := by
    have := gr_new w W1 n hW1
    rw [hgb]
    have e : gL L 0 = fun _ => 0 := by funext x; simp [gL]
    rw [e]; exact this
  have HST : Hid (isGr W1 gb n (gL L 0) ∧ Below w.heap.size w W1) := hide ⟨hgr, hb1⟩
  have hmk := made_n n (by omega)
  have HLX : Hid (∀ (i x : Nat), L[i]? = some x → x < n) := hide (fun i x hi => by
    have := List.mem_of_getElem? hi
    rw [hLe, barK_all hn hb.ti.mt] at this
    unfold barL at this
    simp only [List.mem_filter, List.mem_range] at this
    exact this.1)
  have HROW : Hid (∀ (i x : Nat), L[i]? = some x → ∃ q, bo = some ⟨q, 0, none⟩ ∧ q < w.heap.size ∧ L.length ≤ bcap ∧ bcap ≤ 9223372036854775807 ∧ w.cell? ⟨q, i, none⟩ = some (.int .i64 (x : Int))) := hide (fun i x hi => by
    have hl := (List.getElem?_eq_some_iff.1 hi).1
    rcases hL.2 with ⟨-, h2⟩ | ⟨q, c, cur, e1, _, hg, h1, h2, _⟩
    · omega
    · unfold maxLen at h2
      injection e1 with e1 e2 e3
      refine ⟨q, e1, (Array.getElem?_eq_some_iff.1 hg).1, by omega, by omega, ?_⟩
      have := hL.cells (g := q) (by rw [e1]; rfl) i (.int .i64 (x : Int)) (by unfold qvals; rw [List.getElem?_map, hi]; rfl)
      rw [show (⟨q, 0, none⟩ : Addr).add i = ⟨q, i, none⟩ by (simp [Addr.add]; try omega)] at this
      exact this)
  have HBR := hide hb
  have HTW := hide h
  have HLE := hide hLe
  have HGB := hide hgb
  have HW1 := hide hW1
  obtain ⟨N1, hN1⟩ : ∃ N1, N1 = L.length := ⟨_, rfl⟩
  rw [← hN1] at hLl ⊢
  have HN1 := hide hN1
  clear hb h hL hLe hgb hW1 hb1 hgr hN1
  go_enter Try.func17, Try.ntmps17
  go_upto_region 2 with fail
  rw [← unhide HW1, ← unhide HGB]
  clear HW1 hmk
  go_wp2
  go_loopw [8] (fun iv wr => ∃ i : Nat, i ≤ N1 ∧ iv = .int .i64 (i : Int) ∧ Hid (isGr wr gb n (gL L i) ∧ Below w.heap.size w wr)) (fun iv _ => N1 - (intOf iv).toNat)
  case atStart => exact ⟨0, Nat.zero_le _, rfl, HST⟩
  case round =>
    obtain ⟨i, hi, rfl, HI⟩ := hrel
    rename World => wr
    clear HST
    by_cases hil : i < N1
    · have hii : (i : Int) < (N1 : Int) := by omega
      have hi0 : (0 : Int) ≤ (i : Int) := by omega
      obtain ⟨x, hx⟩ : ∃ x, L[i]? = some x := ⟨L[i]'(by rw [← unhide HN1]; exact hil), List.getElem?_eq_getElem _⟩
      have hxn := unhide HLX i x hx
      obtain ⟨q, rfl, hq, hb1, hb2, hc⟩ := unhide HROW i x hx
      rw [← unhide HN1] at hb1
      have c1 := ((unhide HI).2.cell (p := ⟨q, i, none⟩) hq).trans hc
      have hxi : (x : Int) < (n : Int) := by omega
      have hx0 : (0 : Int) ≤ (x : Int) := by omega
      have c2 := (unhide HI).1.at_ x hxn
      have c3 := (unhide HI).1.fz x
      generalize gL L i x = z at c2
      have HN : Hid (isGr (wr.setCell ⟨gb, x, none⟩ (.int .i64 (-1))) gb n (gL L (i + 1)) ∧ Below w.heap.size w (wr.setCell ⟨gb, x, none⟩ (.int .i64 (-1)))) := hide (by
        have hg : Gb gb wr (wr.setCell ⟨gb, x, none⟩ (.int .i64 (-1))) := Gb.set _ _
        have hbs := (unhide HI).2.size
        refine ⟨by rw [← gL_next hx]; exact (unhide HI).1.put hxn _, (unhide HI).2.trans ⟨hg.os, hg.tape, hg.output, hg.size, fun k hk => hg.block (by omega) (by have := unhide HGB; omega)⟩⟩)
      clear hx hc
      go_wp2
      go_roundw
      case rel => exact ⟨i + 1, by omega, by go_num, HN⟩
      case measure => simp only [intOf]; omega
    · obtain rfl : N1 = i := by omega
      have hii : ¬ (N1 : Int) < (N1 : Int) := by omega
      have HS2 : Hid (∃ G, OdI n l M S B 0 G 0 ∧ isGr wr gb n G ∧ Below w.heap.size w wr) := hide (by
        refine ⟨gL L N1, ?_, (unhide HI).1, (unhide HI).2⟩
        rw [unhide HN1, unhide HLE]
        exact OdI.start hn)
      clear HI HROW
      go_wp2
      go_loopw [9, 10] (fun ov iv wr => ∃ (i odd : Nat) (G : Nat → Int), i ≤ n ∧ iv = .int .i64 (i : Int) ∧ ov = .int .i64 (odd : Int) ∧ odd ≤ 60 ∧ Hid (OdI n l M S B i G odd ∧ isGr wr gb n G ∧ Below w.heap.size w wr)) (fun _ iv _ => n - (intOf iv).toNat)
      case atStart =>
        obtain ⟨G, g1, g2, g3⟩ := unhide HS2
        exact ⟨0, 0, G, Nat.zero_le _, rfl, rfl, by omega, hide ⟨g1, g2, g3⟩⟩
      case round =>
        obtain ⟨i, odd, G, hi, rfl, rfl, hodd, HI⟩ := hrel
        rename World => wq
        clear HS2
        by_cases hil : i < n
        · have hii : (i : Int) < (n : Int) := by omega
          have hi0 : (0 : Int) ≤ (i : Int) := by omega
          have c1 := (unhide HI).2.1.at_ i hil
          by_cases hG : G i = 0
          · rw [hG] at c1
            have c2 := (unhide HI).2.1.fz i
            obtain ⟨W2, hW2⟩ : ∃ W2, W2 = wq.setCell ⟨gb, i, none⟩ (.int .i64 1) := ⟨_, rfl⟩
            obtain ⟨W3, hW3⟩ : ∃ W3, W3 = W2.alloc (Obj.cells #[Value.int .i64 (i : Int)] 3 (0, 0)) := ⟨_, rfl⟩
            have hg2 : Gb gb wq W2 := by rw [hW2]; exact Gb.set _ _
            have hr2 : isGr W2 gb n (gT G [i]) := by rw [hW2, ← gT_one]; exact (unhide HI).2.1.put hil 1
            have hb3 : Below W2.heap.size W2 W3 := by rw [hW3]; exact (Below.refl _ _).alloc (Nat.le_refl _) _
            have hr3 := hr2.keep (hb3.block gb hr2.lt)
            have hblk : W3.heap[W2.heap.size]? = some (Obj.cells #[Value.int .i64 (i : Int)] 3 (0, 0)) := by rw [hW3]; exact heap_alloc_new _ _
            have hrow : W3.ownsRow (gb + 1) 3 1 (.slice (some ⟨W2.heap.size, 0, none⟩) 1 1) 1 (qvals [i]) := ⟨rfl, .inr ⟨_, 1, _, rfl, hr2.lt, hblk, Nat.le_refl _, by unfold maxLen; omega, rfl, rfl⟩⟩
            have hbw : Below w.heap.size w W3 := by
              have hbs := (unhide HI).2.2.size
              refine (unhide HI).2.2.trans (Below.trans ⟨hg2.os, hg2.tape, hg2.output, hg2.size, fun k hk => hg2.block (by omega) (by have := unhide HGB; omega)⟩ (hb3.mono (by have := hg2.size; omega)))
            have HS3 : Hid (OdT n l M S B i G [i] ∧ i ∈ [i] ∧ isGr W3 gb n (gT G [i]) ∧ W3.ownsRow (gb + 1) 3 1 (.slice (some ⟨W2.heap.size, 0, none⟩) 1 1) 1 (qvals [i]) ∧ Below w.heap.size w W3) := hide ⟨OdT.start hil hG, by simp, hr3, hrow, hbw⟩
            have HW2 := hide hW2
            have HW3 := hide hW3
            have HO := hide (unhide HI).1
            clear hW2 hW3 hg2 hr2 hb3 hr3 hblk hrow hbw hG HI
            go_upto_region 12 with fail
            rw [← unhide HW2]
            clear HW2 c1 c2
            go_wp2_with fail
            rw [← unhide HW3]
            clear HW3
            obtain ⟨i0, hinfo, hz0, hz1, hz2⟩ := infoI_parts
            have HIN := hide hinfo
            have HZ0 := hide hz0
            have HZ1 := hide hz1
            have HZ2 := hide hz2
            clear hinfo hz0 hz1 hz2
            go_loopw [11, 12] (fun tv kv wr => ∃ (k : Nat) (T : List Nat) (ta : Option Addr) (tc : Nat), k ≤ 60 ∧ kv = .int .i64 (k : Int) ∧ tv = .slice ta T.length tc ∧ Hid (k ≤ T.length) ∧ Hid (OdT n l M S B i G T ∧ i ∈ T ∧ isGr wr gb n (gT G T) ∧ wr.ownsRow (gb + 1) 3 1 (.slice ta T.length tc) T.length (qvals T) ∧ Below w.heap.size w wr)) (fun _ kv _ => 60 - (intOf kv).toNat)
            case atStart => exact ⟨0, [i], _, _, by omega, rfl, rfl, hide (Nat.zero_le _), HS3⟩
            case round =>
              obtain ⟨k, T, ta, tc, hk60, rfl, rfl, HKL, HT⟩ := hrel
              rename World => u3
              clear HS3
              have hTl : T.length ≤ 60 := by
                have := nodup_le (k := List.range n) (unhide HT).1.nd (fun x hx => List.mem_range.2 ((unhide HT).1.lt x hx))
                rw [List.length_range] at this
                omega
              obtain ⟨TL, hTL⟩ : ∃ TL, T.length = TL := ⟨_, rfl⟩
              rw [hTL] at hTl ⊢
              have HTL := hide hTL
              by_cases hkl : k < TL
              · have hki : (k : Int) < (TL : Int) := by omega
                have hk0 : (0 : Int) ≤ (k : Int) := by omega
                obtain ⟨x, hx⟩ : ∃ x, T[k]? = some x := ⟨T[k]'(by rw [hTL]; exact hkl), List.getElem?_eq_getElem _⟩
                have HX := hide hx
                clear hx hTL
                go_wp2
                rw [← unhide HTL]
                clear HTL hTl
                go_loopw [11, 13] (fun tv jv wr => ∃ (j : Nat) (T : List Nat) (ta : Option Addr) (tc : Nat), j ≤ n ∧ jv = .int .i64 (j : Int) ∧ tv = .slice ta T.length tc ∧ Hid (T[k]? = some x) ∧ Hid (OdT n l M S B i G T ∧ i ∈ T ∧ isGr wr gb n (gT G T) ∧ wr.ownsRow (gb + 1) 3 1 (.slice ta T.length tc) T.length (qvals T) ∧ Below w.heap.size w wr)) (fun _ jv _ => n - (intOf jv).toNat)
                case atStart => exact ⟨0, T, ta, tc, Nat.zero_le _, rfl, rfl, HX, HT⟩
                case round =>
                  clear HX HT HKL
                  obtain ⟨j, T, ta, tc, hj, rfl, rfl, HX, HT⟩ := hrel
                  rename World => u4
                  have hTl : T.length ≤ 60 := by
                    have := nodup_le (k := List.range n) (unhide HT).1.nd (fun x hx => List.mem_range.2 ((unhide HT).1.lt x hx))
                    rw [List.length_range] at this
                    omega
                  have hkT : k < T.length := (List.getElem?_eq_some_iff.1 (unhide HX)).1
                  by_cases hjl : j < n
                  · have hji : (j : Int) < (n : Int) := by omega
                    have hj0 : (0 : Int) ≤ (j : Int) := by omega
                    have c3 := (unhide HT).2.2.1.at_ j hjl
                    by_cases hg : gT G T j = 0
                    · rw [hg] at c3
                      obtain ⟨q, hq1, hq2, hq3, hq4, hq5⟩ : ∃ q, ta = some ⟨q, 0, none⟩ ∧ T.length ≤ tc ∧ tc ≤ 9223372036854775807 ∧ u4.cell? ⟨q, k, none⟩ = some (.int .i64 (x : Int)) ∧ gb + 1 ≤ q := by
                        rcases (unhide HT).2.2.2.1.2 with ⟨-, h2⟩ | ⟨q, c, cur, e1, h0, hg, h1, h2, _⟩
                        · omega
                        · unfold maxLen at h2
                          injection e1 with e1 e2 e3
                          refine ⟨q, e1, by omega, by omega, ?_, h0⟩
                          have := (unhide HT).2.2.2.1.cells (g := q) (by rw [e1]; rfl) k (.int .i64 (x : Int)) (by unfold qvals; rw [List.getElem?_map, unhide HX]; rfl)
                          rw [show (⟨q, 0, none⟩ : Addr).add k = ⟨q, k, none⟩ by (simp [Addr.add]; try omega)] at this
                          exact this
                      subst hq1
                      have HBA := hide (rBarred_any l ao cap (x : Int) (j : Int) u4 w.heap.size ((unhide HTW).below (unhide HT).2.2.2.2 (Nat.le_refl _)))
                      have hbr : brB l (x : Int) (j : Int) = barM l x j := rfl
                      rw [hbr] at HBA
                      obtain ⟨TL, hTL⟩ : ∃ TL, T.length = TL := ⟨_, rfl⟩
                      have HTL := hide hTL
                      rw [hTL] at hq2 hkT hTl ⊢
                      have hki : (k : Int) < (TL : Int) := by omega
                      have hk0 : (0 : Int) ≤ (k : Int) := by omega
                      cases hbm : barM l x j with
                      | true =>
                        rw [hbm] at HBA
                        clear hbm hbr hg hTL
                        go_wp2_with fail
                        refine (unhide HBA).mono ?_
                        rintro e w' ⟨rfl, hw⟩
                        replace hw := hw.symm
                        subst hw
                        clear HBA
                        go_wp2
                        go_roundw
                        case rel => exact ⟨j + 1, T, _, tc, by omega, by go_num, by rw [unhide HTL], HX, HT⟩
                        case measure => simp only [intOf]; omega
                      | false =>
                        rw [hbm] at HBA
                        have c4 := (unhide HT).2.2.1.fz j
                        obtain ⟨W5, hW5⟩ : ∃ W5, W5 = u4.setCell ⟨gb, j, none⟩ (.int .i64 1) := ⟨_, rfl⟩
                        have hg5 : Gb gb u4 W5 := by rw [hW5]; exact Gb.set _ _
                        have hr5 : isGr W5 gb n (gT G (T ++ [j])) := by rw [hW5, ← gT_next]; exact (unhide HT).2.2.1.put hjl 1
                        have hrw5 : W5.ownsRow (gb + 1) 3 1 (.slice (some ⟨q, 0, none⟩) TL tc) TL (qvals T) := by
                          have := (unhide HT).2.2.2.1
                          rw [hTL] at this
                          rw [hW5]
                          exact ownsRow_setCell_below this (show gb < gb + 1 by omega) _
                        have hot := (unhide HT).1.more (unhide HBR) (unhide HO) (List.mem_of_getElem? (unhide HX)) hjl hg hbm
                        have hbw5 : Below w.heap.size w W5 := by
                          have hbs := (unhide HT).2.2.2.2.size
                          exact (unhide HT).2.2.2.2.trans ⟨hg5.os, hg5.tape, hg5.output, hg5.size, fun k hk => hg5.block (by omega) (by have := unhide HGB; omega)⟩
                        have hwg : w.heap.size ≤ gb := by have := unhide HGB; omega
                        have HR5 := hide hr5
                        have HRW := hide hrw5
                        have HOT := hide hot
                        have HB5 := hide hbw5
                        have HW5 := hide hW5
                        have HIT := hide (unhide HT).2.1
                        have hgl := hr5.lt
                        clear hbm hbr hg hTL hW5 hg5 hr5 hrw5 hot hbw5
                        go_wp2_with fail
                        refine (unhide HBA).mono ?_
                        rintro e w' ⟨rfl, hw⟩
                        replace hw := hw.symm
                        subst hw
                        clear HBA
                        go_upto_region 21 with fail
                        rw [← unhide HW5]
                        clear HW5 c3 c4 hq4
                        go_wp2_with (at_builtin; refine wpList_append_own_at _ rfl _ _ 41 rfl (gb + 1) 3 i0 _ 1 8 Try.underlying41 (unhide HIN) (unhide HZ0) (unhide HZ1) (unhide HZ2) rfl (by decide) (.slice (some ⟨q, 0, none⟩) TL tc) TL (qvals T) rfl ((unhide HRW).alloc _) ⟨W5.heap.size, 0, none⟩ 1 1 [.int .i64 (j : Int)] rfl rfl (cell_one_new _ _ _) ?c2 ?c3 ?c4 ?c5 ?_)
                        case c2 => simp [Value.oneCell']
                        case c3 => unfold maxLen; omega
                        case c4 => omega
                        case c5 => simp; omega
                        intro q' W7 hrow7 hg7 _ _
                        obtain ⟨ta', tc', rfl⟩ : ∃ o c, q' = .slice o (TL + 1) c := by
                          rcases hrow7.2 with ⟨-, h2⟩ | ⟨k, c, cur, h1, -⟩
                          · omega
                          · exact ⟨_, _, h1⟩
                        have HN : Hid ((T ++ [j])[k]? = some x) := hide (by rw [List.getElem?_append_left (List.getElem?_eq_some_iff.1 (unhide HX)).1]; exact unhide HX)
                        have HL7 : Hid ((T ++ [j]).length = TL + 1) := hide (by rw [List.length_append, unhide HTL]; rfl)
                        have HT7 : Hid (OdT n l M S B i G (T ++ [j]) ∧ i ∈ T ++ [j] ∧ isGr W7 gb n (gT G (T ++ [j])) ∧ W7.ownsRow (gb + 1) 3 1 (.slice ta' (T ++ [j]).length tc') (T ++ [j]).length (qvals (T ++ [j])) ∧ Below w.heap.size w W7) := hide (by
                          have ha : Below W5.heap.size W5 (W5.alloc (Obj.cells #[Value.int .i64 (j : Int)] 3 (0, 0))) := (Below.refl _ _).alloc (Nat.le_refl _) _
                          have hne : ∀ k, k < W5.heap.size → k ≤ gb → W7.heap[k]? = W5.heap[k]? := fun k hk hkg => (hg7.block k (by have := ha.size; omega) (fun e => by have := (unhide HRW).lt k e.symm; omega)).trans (ha.block k hk)
                          rw [unhide HL7]
                          refine ⟨unhide HOT, List.mem_append.2 (.inl (unhide HIT)), (unhide HR5).keep (hne gb hgl (Nat.le_refl _)), ?_, (unhide HB5).trans ⟨hg7.os.trans ha.os, hg7.tape.trans ha.tape, hg7.output.trans ha.output, Nat.le_trans ha.size hg7.size, fun k hk => hne k (by omega) (by omega)⟩⟩
                          rw [show qvals (T ++ [j]) = qvals T ++ [.int .i64 (j : Int)] by simp [qvals]]
                          exact hrow7)
                        clear hrow7 hg7 HRW HR5 HOT HB5
                        go_wp2
                        go_roundw
                        case rel => exact ⟨j + 1, T ++ [j], ta', tc', by omega, by go_num, by rw [unhide HL7], HN, HT7⟩
                        case measure => simp only [intOf]; omega
                    · have hgb : (gT G T j == 0) = false := by simpa using hg
                      generalize gT G T j = z at c3 hgb hg
                      go_wp2
                      go_roundw
                      case rel => exact ⟨j + 1, T, ta, tc, by omega, by go_num, rfl, HX, HT⟩
                      case measure => simp only [intOf]; omega
                  · obtain rfl : n = j := by omega
                    have hji : ¬ (n : Int) < (n : Int) := by omega
                    have HK1 : Hid (k + 1 ≤ T.length) := hide hkT
                    go_wp2
                    go_roundw
                    case rel => exact ⟨k + 1, T, ta, tc, by omega, by go_num, rfl, HK1, HT⟩
                    case measure => simp only [intOf]; omega
              · have hki : ¬ (k : Int) < (TL : Int) := by omega
                obtain ⟨q, hq⟩ : ∃ q, q = TL % 2 := ⟨_, rfl⟩
                have hqd : (TL : Int).tmod 2 = (q : Int) := by rw [Int.tmod_eq_emod_of_nonneg (by omega)]; omega
                have hq2 : (q : Int) ≤ 1 := by omega
                have hq0 : (0 : Int) ≤ (q : Int) := by omega
                obtain ⟨od, hod⟩ : ∃ od, odd + q = od := ⟨_, rfl⟩
                have hodi : (odd : Int) + (q : Int) = (od : Int) := by omega
                have hon : OdI n l M S B (i + 1) (gT G T) od := by
                  have := OdT.done (unhide HO) (unhide HT).1 (unhide HT).2.1
                  rw [hTL, ← hq, hod] at this
                  exact this
                have hod60 : od ≤ 60 := by have := hon.le; omega
                have HN : Hid (OdI n l M S B (i + 1) (gT G T) od ∧ isGr u3 gb n (gT G T) ∧ Below w.heap.size w u3) := hide ⟨hon, (unhide HT).2.2.1, (unhide HT).2.2.2.2⟩
                clear hq hod hon hTL
                go_wp2
                go_roundw
                case rel => exact ⟨i + 1, od, _, by omega, by go_num, rfl, hod60, HN⟩
                case measure => simp only [intOf]; omega
          · have hGb : (G i == 0) = false := by simpa using hG
            have HN : Hid (OdI n l M S B (i + 1) G odd ∧ isGr wq gb n G ∧ Below w.heap.size w wq) := hide ⟨(unhide HI).1.skip hG, (unhide HI).2⟩
            generalize G i = z at c1 hGb hG
            go_wp2
            go_roundw
            case rel => exact ⟨i + 1, odd, G, by omega, by go_num, rfl, hodd, HN⟩
            case measure => simp only [intOf]; omega
        · obtain rfl : n = i := by omega
          have hii : ¬ (n : Int) < (n : Int) := by omega
          have HE : Hid (Below w.heap.size w wq ∧ ∃ odd' : Nat, odd' ≤ 60 ∧ Ending.returned (.int .i64 (odd : Int)) = .returned (.int .i64 (odd' : Int)) ∧ N1 < odd') := hide (by
            refine ⟨(unhide HI).2.2, odd, hodd, rfl, ?_⟩
            have := (unhide HI).1.more hn (unhide HBR)
            rw [unhide HN1, unhide HLE]
            exact this)
          go_wp2
          go_ret
          exact unhide HE
end Go.Proofs.Ytppkejblhkbkjaa
