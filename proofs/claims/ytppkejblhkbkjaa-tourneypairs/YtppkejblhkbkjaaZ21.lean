/-
  package tourney, walked: newPairing.
-/
import Derived.Test.YtppkejblhkbkjaaZ20
namespace Go.Proofs.Ytppkejblhkbkjaa
open Go.RowKit Tu
attribute [local go_sem ↓] Go.wp_at_zero Go.wp_at_succ

theorem zero_pairing : Try.zeroCells62 = (Value.int .i64 0 :: (List.replicate 3600 (Value.bool false) ++ List.replicate 60 (Value.int .i64 0))).toArray := by kernel_rfl
/-- Who may not meet, by a list. -/
def barM (l : List (Int × Int)) (i j : Nat) : Bool := decide (((i : Int), (j : Int)) ∈ l ∨ ((j : Int), (i : Int)) ∈ l)
def setB (bar : Nat → Nat → Bool) (x y : Nat) : Nat → Nat → Bool := fun i j => if i = x ∧ j = y then true else bar i j
theorem barM_next {l : List (Int × Int)} {k x y : Nat} (h : l[k]? = some ((x : Int), (y : Int))) : setB (setB (barM (l.take k)) x y) y x = barM (l.take (k + 1)) := by
  have ht : l.take (k + 1) = l.take k ++ [((x : Int), (y : Int))] := by rw [List.take_add_one, h]; rfl
  funext i j
  unfold setB barM
  rw [ht]
  simp only [List.mem_append, List.mem_singleton, Prod.mk.injEq, Int.natCast_inj]
  by_cases h1 : i = y ∧ j = x
  · rw [if_pos h1]
    simp [h1]
  · rw [if_neg h1]
    by_cases h2 : i = x ∧ j = y
    · rw [if_pos h2]
      simp [h2]
    · rw [if_neg h2]
      have h3 : ¬ (j = x ∧ i = y) := fun e => h1 ⟨e.2, e.1⟩
      simp [h2, h3]
theorem isPr.putB {W : World} {g n : Nat} {bar : Nat → Nat → Bool} {M : Nat → Option Nat} (h : isPr W g n bar M) {x y : Nat} (hx : x < 60) (hy : y < 60) : isPr (W.setCell ⟨g, 1 + x * 60 + y, none⟩ (.bool true)) g n (setB bar x y) M := by
  refine ⟨by rw [World.size_setCell]; exact h.lt, fun o => by rw [World.frozen?_setCell]; exact h.fz o, by rw [set_ne (by omega)]; exact h.n_, fun i j hi hj => ?_, fun i hi => by rw [set_ne (by omega)]; exact h.par i hi⟩
  unfold setB
  by_cases e : i = x ∧ j = y
  · rw [if_pos e, e.1, e.2]
    exact set_eq (h.bar x y hx hy)
  · rw [if_neg e, set_ne (by omega)]
    exact h.bar i j hi hj
/-- The partners when i have been laid. -/
def nonK (i : Nat) : Nat → Option Nat := fun y => if y < i then none else some 0
theorem isPr.putN {W : World} {g n : Nat} {bar : Nat → Nat → Bool} {i : Nat} (h : isPr W g n bar (nonK i)) (hi : i < 60) : isPr (W.setCell ⟨g, 3601 + i, none⟩ (.int .i64 (-1))) g n bar (nonK (i + 1)) := by
  refine ⟨by rw [World.size_setCell]; exact h.lt, fun o => by rw [World.frozen?_setCell]; exact h.fz o, by rw [set_ne (by omega)]; exact h.n_, fun a b ha hb => by rw [set_ne (by omega)]; exact h.bar a b ha hb, fun j hj => ?_⟩
  by_cases e : j = i
  · subst e
    have : nonK (j + 1) j = none := by unfold nonK; rw [if_pos (by omega)]
    rw [this]
    exact set_eq (h.par j hj)
  · have : nonK (i + 1) j = nonK i j := by
      unfold nonK
      by_cases h1 : j < i
      · rw [if_pos h1, if_pos (by omega)]
      · rw [if_neg h1, if_neg (by omega)]
    rw [set_ne (by omega), this]
    exact h.par j hj
theorem pairing_new (W : World) (n : Nat) (W1 : World) (h : W1 = W.alloc (Obj.cells (Try.zeroCells62.setIfInBounds 0 (Value.int .i64 (n : Int))) 62 (0, 0))) : isPr W1 W.heap.size n (fun _ _ => false) (nonK 0) := by
  obtain ⟨cs, hcs⟩ : ∃ cs, cs = Try.zeroCells62.setIfInBounds 0 (Value.int .i64 (n : Int)) := ⟨_, rfl⟩
  rw [← hcs] at h
  have hblk : W1.heap[W.heap.size]? = some (Obj.cells cs 62 (0, 0)) := by rw [h]; exact heap_alloc_new _ _
  have hl : cs.toList = Value.int .i64 (n : Int) :: (List.replicate 3600 (Value.bool false) ++ List.replicate 60 (Value.int .i64 0)) := by
    rw [hcs, zero_pairing]
    simp only [List.setIfInBounds_toArray, List.set_cons_zero]
  have hc : ∀ j, cs[j]? = cs.toList[j]? := fun j => Array.getElem?_toList.symm
  have hcell : ∀ j, W1.cell? ⟨W.heap.size, j, none⟩ = cs.toList[j]? := fun j => by
    unfold World.cell?
    rw [hblk]
    exact hc j
  refine ⟨(Array.getElem?_eq_some_iff.1 hblk).1, fun o => by simp [World.frozen?, hblk], by rw [hcell, hl]; rfl, fun i j hi hj => ?_, fun i hi => ?_⟩
  · rw [hcell, hl, show 1 + i * 60 + j = (i * 60 + j) + 1 by omega, List.getElem?_cons_succ, List.getElem?_append_left (by rw [List.length_replicate]; omega), List.getElem?_replicate, if_pos (by omega)]
  · have : pI (nonK 0 i) = 0 := by unfold nonK; rw [if_neg (by omega)]; rfl
    rw [this, hcell, hl, show 3601 + i = (3600 + i) + 1 by omega, List.getElem?_cons_succ, List.getElem?_append_right (by rw [List.length_replicate]; omega), List.length_replicate, Nat.add_sub_cancel_left, List.getElem?_replicate, if_pos hi]

set_option maxHeartbeats 4000000 in
set_option maxRecDepth 100000 in
theorem newPairing_any (n : Nat) (hn : n ≤ 60) (l : List (Int × Int)) (ao : Option Addr) (cap : Nat) (w : World) (h : isTw w w.heap.size ao cap l) (hok : l.all (okTw (n : Int)) = true) :
    Calls Try.prog 27 #[.int .i64 (n : Int), .slice ao l.length cap] w fun e w' => e = .returned (.pointer (some ⟨w.heap.size, 0, none⟩)) ∧ isPr w' w.heap.size n (barM l) (fun _ => none) ∧ Below w.heap.size w w' := by
  have hle := h.le
  have hmx := h.mx
  unfold maxLen at hmx
  obtain ⟨W1, hW1⟩ : ∃ W1, W1 = w.alloc (Obj.cells (Try.zeroCells62.setIfInBounds 0 (Value.int .i64 (n : Int))) 62 (0, 0)) := ⟨_, rfl⟩
  have hp1 := pairing_new w n W1 hW1
  have hb1 : Below w.heap.size w W1 := by rw [hW1]; exact (Below.refl _ _).alloc (Nat.le_refl _) _
  have hb0 : barM (l.take 0) = fun _ _ => false := by funext i j; simp [barM]
  have HST : Hid (isPr W1 w.heap.size n (barM (l.take 0)) (nonK 0) ∧ Below w.heap.size w W1) := hide ⟨by rw [hb0]; exact hp1, hb1⟩
  obtain ⟨L, hL⟩ : ∃ L, L = l.length := ⟨_, rfl⟩
  rw [← hL] at hle ⊢
  have HL := hide hL
  have HH := hide h
  have HOK := hide hok
  have HW1 := hide hW1
  clear hL h hok hW1 hp1 hb1 hb0
  go_enter Try.func27, Try.ntmps27
  go_upto_region 2 with fail
  rw [← unhide HW1]
  clear HW1
  go_wp2
  go_loopw [14] (fun iv wr => ∃ i : Nat, i ≤ L ∧ iv = .int .i64 (i : Int) ∧ Hid (isPr wr w.heap.size n (barM (l.take i)) (nonK 0) ∧ Below w.heap.size w wr)) (fun iv _ => L - (intOf iv).toNat)
  case atStart => exact ⟨0, Nat.zero_le _, rfl, HST⟩
  case round =>
    obtain ⟨i, hi, rfl, HI⟩ := hrel
    rename World => wr
    clear HST
    by_cases hil : i < L
    · have hii : (i : Int) < (L : Int) := by omega
      have hi0 : (0 : Int) ≤ (i : Int) := by omega
      obtain ⟨⟨za, zb⟩, hz⟩ : ∃ z, l[i]? = some z := ⟨l[i]'(by rw [← unhide HL]; exact hil), List.getElem?_eq_getElem _⟩
      have hkz := List.all_eq_true.1 (unhide HOK) _ (List.mem_of_getElem? hz)
      unfold okTw at hkz
      simp only [decide_eq_true_eq] at hkz
      obtain ⟨x, rfl⟩ : ∃ x : Nat, za = (x : Int) := ⟨za.toNat, by omega⟩
      obtain ⟨y, rfl⟩ : ∃ y : Nat, zb = (y : Int) := ⟨zb.toNat, by omega⟩
      have hx60 : x < 60 := by omega
      have hy60 : y < 60 := by omega
      obtain ⟨g, off, rfl, hg, c1, c2⟩ := ((unhide HH).below (unhide HI).2 (Nat.le_refl _)).at_ hz
      have hbs := (unhide HI).2.size
      obtain ⟨W2, hW2⟩ : ∃ W2, W2 = wr.alloc (Obj.cells #[Value.int .i64 (x : Int), Value.int .i64 (y : Int)] 45 (0, 0)) := ⟨_, rfl⟩
      have hb2 : Below wr.heap.size wr W2 := by rw [hW2]; exact (Below.refl _ _).alloc (Nat.le_refl _) _
      have hp2 := (unhide HI).1.keep (hb2.block _ (unhide HI).1.lt)
      have e0 : W2.cell? ⟨wr.heap.size, 0, none⟩ = some (.int .i64 (x : Int)) := by rw [hW2]; simp
      have e1 : W2.cell? ⟨wr.heap.size, 1, none⟩ = some (.int .i64 (y : Int)) := by rw [hW2]; simp
      have hs2 : wr.heap.size < W2.heap.size := World.block_lt_of_cell? _ _ e0
      have hlw := (unhide HI).1.lt
      have hne : wr.heap.size ≠ w.heap.size := by omega
      have hxi : (x : Int) < 60 := by omega
      have hx0 : (0 : Int) ≤ (x : Int) := by omega
      have hyi : (y : Int) < 60 := by omega
      have hy0 : (0 : Int) ≤ (y : Int) := by omega
      have e2 := hp2.bar x y hx60 hy60
      have e3 := hp2.fz (1 + x * 60 + y)
      generalize barM (l.take i) x y = v1 at e2
      have HB2 := hide ((unhide HI).2.trans (hb2.mono hbs))
      have HP2 := hide hp2
      have HZ := hide hz
      have HW2 := hide hW2
      clear hkz hz hb2 hp2 hW2 HI
      go_upto_region 5 with fail
      rw [← unhide HW2]
      clear HW2 c1 c2
      go_wp2_with fail
      go_region
      obtain ⟨W3, hW3⟩ : ∃ W3, W3 = (W2.setCell ⟨w.heap.size, 1 + x * 60 + y, none⟩ (.bool true)).drew := ⟨_, rfl⟩
      rw [← hW3]
      have hp3 : isPr W3 w.heap.size n (setB (barM (l.take i)) x y) (nonK 0) := by rw [hW3]; exact ((unhide HP2).putB hx60 hy60).keep rfl
      have hg3 : Gb w.heap.size W2 W3 := by rw [hW3]; exact (Gb.set _ _).trans (Gb.of_below (Below.refl _ _).drew)
      have f0 : W3.cell? ⟨wr.heap.size, 0, none⟩ = some (.int .i64 (x : Int)) := (blk_cell (hg3.block hs2 hne)).trans e0
      have f1 : W3.cell? ⟨wr.heap.size, 1, none⟩ = some (.int .i64 (y : Int)) := (blk_cell (hg3.block hs2 hne)).trans e1
      have f2 := hp3.bar y x hy60 hx60
      have f3 := hp3.fz (1 + y * 60 + x)
      generalize setB (barM (l.take i)) x y y x = v2 at f2
      have HP3 := hide hp3
      have HG3 := hide hg3
      clear e0 e1 e2 e3 hp3 hg3 hW3 HP2
      go_wp2_with fail
      go_region
      obtain ⟨W4, hW4⟩ : ∃ W4, W4 = (W3.setCell ⟨w.heap.size, 1 + y * 60 + x, none⟩ (.bool true)).drew := ⟨_, rfl⟩
      rw [← hW4]
      have hg4 : Gb w.heap.size W3 W4 := by rw [hW4]; exact (Gb.set _ _).trans (Gb.of_below (Below.refl _ _).drew)
      have HN : Hid (isPr W4 w.heap.size n (barM (l.take (i + 1))) (nonK 0) ∧ Below w.heap.size w W4) := hide (by
        refine ⟨by rw [hW4, ← barM_next (unhide HZ)]; exact ((unhide HP3).putB hy60 hx60).keep rfl, (unhide HB2).trans ?_⟩
        have hg := (unhide HG3).trans hg4
        exact ⟨hg.os, hg.tape, hg.output, hg.size, fun k hk => hg.block (by omega) (by omega)⟩)
      clear f0 f1 f2 f3 hg4 hW4 HP3 HG3 HB2
      go_wp2
      go_roundw
      case rel => exact ⟨i + 1, by omega, by go_num, HN⟩
      case measure => simp only [intOf]; omega
    · obtain rfl : i = L := by omega
      have hii : ¬ (i : Int) < (i : Int) := by omega
      have HST2 : Hid (isPr wr w.heap.size n (barM l) (nonK 0) ∧ Below w.heap.size w wr) := hide (by
        have := unhide HI
        rwa [unhide HL, List.take_length] at this)
      clear HI
      go_wp2
      go_loopw [37] (fun iv wq => ∃ k : Nat, k ≤ 60 ∧ iv = .int .i64 (k : Int) ∧ Hid (isPr wq w.heap.size n (barM l) (nonK k) ∧ Below w.heap.size w wq)) (fun iv _ => 60 - (intOf iv).toNat)
      case atStart => exact ⟨0, by omega, rfl, HST2⟩
      case round =>
        obtain ⟨k, hk, rfl, HI⟩ := hrel
        rename World => wq
        clear HST2
        by_cases hkl : k < 60
        · have hki : (k : Int) < 60 := by omega
          have hk0 : (0 : Int) ≤ (k : Int) := by omega
          have c1 := (unhide HI).1.par k hkl
          have c2 := (unhide HI).1.fz (3601 + k)
          generalize pI (nonK k k) = z at c1
          have HN : Hid (isPr (wq.setCell ⟨w.heap.size, 3601 + k, none⟩ (.int .i64 (-1))) w.heap.size n (barM l) (nonK (k + 1)) ∧ Below w.heap.size w (wq.setCell ⟨w.heap.size, 3601 + k, none⟩ (.int .i64 (-1)))) := hide (by
            have hg : Gb w.heap.size wq (wq.setCell ⟨w.heap.size, 3601 + k, none⟩ (.int .i64 (-1))) := Gb.set _ _
            have hb := (unhide HI).2.size
            exact ⟨(unhide HI).1.putN hkl, (unhide HI).2.trans ⟨hg.os, hg.tape, hg.output, hg.size, fun j hj => hg.block (by omega) (by omega)⟩⟩)
          go_wp2
          go_roundw
          case rel => exact ⟨k + 1, by omega, by go_num, HN⟩
          case measure => simp only [intOf]; omega
        · obtain rfl : k = 60 := by omega
          rw [show (((60 : Nat) : Int)) = 60 from rfl]
          have HE : Hid (isPr wq w.heap.size n (barM l) (fun _ => none) ∧ Below w.heap.size w wq) := hide (by
            obtain ⟨k1, k2⟩ := unhide HI
            refine ⟨⟨k1.lt, k1.fz, k1.n_, k1.bar, fun i hi => ?_⟩, k2⟩
            have := k1.par i hi
            unfold nonK at this
            rwa [if_pos hi] at this)
          go_wp2
          go_ret
          exact ⟨rfl, unhide HE⟩
end Go.Proofs.Ytppkejblhkbkjaa
