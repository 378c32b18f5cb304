/-
  gamekeep.MatrixMinimax's closure: a mix out of its texts.
-/
import Derived.Test.YthplbfjpmnpjmaaDoorJ36
import Derived.Test.YthplbfjpmnpjmaaDoorA25
import Derived.Test.YthplbfjpmnpjmaaDoorB9
import Derived.Test.YthplbfjpmnpjmaaDoorJ40
import Derived.Maps.AppendAt
namespace Go.Proofs.YthplbfjpmnpjmaaDoor
open Go.RowKit Lp
attribute [local go_sem ↓] Go.wp_at_zero Go.wp_at_succ

def pv (b : Nat) : Value := .pointer (some ⟨b, 0, none⟩)
/-- Numbers lie in no block that begins with a pointer. -/
theorem isNB.neP {w : World} {b g : Nat} {p : Option Addr} (h : isNB w b) (hp : w.cell? ⟨g, 0, none⟩ = some (.pointer p)) : b ≠ g := by
  rintro rfl
  obtain ⟨cs, t, s, hs, h0⟩ := h
  simp [World.cell?, hs, h0] at hp
theorem isWs.butP {w w' : World} {ao : Option Addr} {cap S g : Nat} {l : List Nat} {p : Option Addr} (h : isWs w ao cap l) (hp : w.cell? ⟨g, 0, none⟩ = some (.pointer p)) (k : But S g w w') (hS : w.heap.size ≤ S) : isWs w' ao cap l := by
  refine ⟨h.small, h.le, h.nil, h.len, fun hl => ?_⟩
  obtain ⟨b, e, hg, hc⟩ := h.cells hl
  have hgb : b ≠ g := by
    rintro rfl
    obtain ⟨x, hx⟩ : ∃ x, l[0]? = some x := ⟨l[0]'(List.length_pos_iff.2 hl), List.getElem?_eq_getElem _⟩
    have := hc 0 x hx
    rw [hp] at this
    simp at this
  have := k.size
  exact ⟨b, e, by omega, fun j x hx => (World.cell?_of_block (w := w) (k.block b (by omega) hgb)).trans (hc j x hx)⟩
theorem isI.butP {w w' : World} {c o S g : Nat} {z : Int} {p : Option Addr} (h : isI w c o z) (hp : w.cell? ⟨g, 0, none⟩ = some (.pointer p)) (k : But S g w w') (hS : w.heap.size ≤ S) : isI w' c o z := by
  have hlt := h.lt
  have hn := h.1.neP hp
  obtain ⟨hc, ao, cap, l, c0, c1, hw, r⟩ := h
  exact ⟨hc.keep (k.block c (by omega) hn), ao, cap, l, (k.cell c o (by omega) hn).trans c0, (k.cell c (o + 1) (by omega) hn).trans c1, hw.butP hp k hS, r⟩
theorem isR.butP {w w' : World} {c S g : Nat} {q : Rat} {p : Option Addr} (h : isR w c q) (hp : w.cell? ⟨g, 0, none⟩ = some (.pointer p)) (k : But S g w w') (hS : w.heap.size ≤ S) : isR w' c q :=
  ⟨h.num.butP hp k hS, h.den.elim (fun d => .inl (d.butP hp k hS)) (fun d => .inr ⟨d.1.butP hp k hS, d.2⟩)⟩

theorem mk_add (a b : Int) (t : Nat) (ht : t ≠ 0) : mkRat a t + mkRat b t = mkRat (a + b) t := by
  rw [Rat.mkRat_add_mkRat _ _ ht ht, ← Int.add_mul]
  exact Rat.mkRat_mul_right ht
theorem mk_num_le (a : Int) (t : Nat) (ht : t ≠ 0) : (mkRat a t).num.natAbs ≤ a.natAbs := by
  rw [mk_num_abs a t ht]
  exact Nat.div_le_self _ _
theorem mk_den_le (a : Int) (t : Nat) (ht : t ≠ 0) : (mkRat a t).den ≤ t := by
  rw [mk_den a t ht]
  exact Nat.div_le_self _ _
theorem mk_self (t : Nat) (ht : t ≠ 0) : mkRat (t : Int) t = 1 := by
  have := Rat.mkRat_mul_right (n := 1) (d := 1) (a := t) ht
  simp at this
  exact this.trans rfl
theorem sum_take (l : List Int) (k : Nat) (x : Int) (h : l[k]? = some x) : (l.take (k + 1)).sum = (l.take k).sum + x := by
  rw [List.take_add_one, h]
  simp
theorem sum_le (l : List Int) (h : ∀ x ∈ l, 0 ≤ x) : ∀ k, 0 ≤ (l.take k).sum ∧ (l.take k).sum ≤ l.sum := by
  induction l with
  | nil => intro k; simp
  | cons a l ih =>
    intro k
    have ha := h a (by simp)
    have h' := ih (fun x hx => h x (by simp [hx]))
    cases k with
    | zero => have := (h' l.length); rw [List.take_length] at this; simp; omega
    | succ k => have := h' k; simp; omega

/-- What stands while a mix is read. -/
structure MxI (w u : World) (l : List Int) (t k : Nat) (v : Value) (gs : List Nat) : Prop where
  row : u.ownsRow w.heap.size 32 1 v k (gs.map pv)
  len : gs.length = k
  nil : k = 0 → v = .slice none 0 0
  rs : ∀ i b, gs[i]? = some b → isR u b (mkRat (l.getD i 0) t) ∧ b ≠ w.heap.size
  sm : isR u w.heap.size (mkRat ((l.take k).sum) t)
  bw : Below w.heap.size w u
theorem row_ptr {u : World} {base k : Nat} {v : Value} {gs : List Nat} {e : TypeId} (h : u.ownsRow base e 1 v k (gs.map pv)) (hl : gs.length = k) (hn : k = 0 → v = .slice none 0 0) {g : Nat} (hg : v.ownBlock = some g) : base ≤ g ∧ g < u.heap.size ∧ ∃ p, u.cell? ⟨g, 0, none⟩ = some (.pointer p) := by
  have hk : k ≠ 0 := fun e => by rw [hn e] at hg; simp [Value.ownBlock] at hg
  obtain ⟨h1, h2⟩ := h.lt g hg
  refine ⟨h1, h2, ?_⟩
  have h0 : (gs.map pv)[0]? = some (pv (gs[0]'(by omega))) := by
    rw [List.getElem?_map, List.getElem?_eq_getElem (by omega)]; rfl
  have := h.cells hg 0 _ h0
  simp [Addr.add] at this
  exact ⟨_, this⟩
theorem row_heap {u u' : World} {base k size : Nat} {v : Value} {xs : List Value} {e : TypeId} (h : u.ownsRow base e size v k xs) (hk : ∀ g, v.ownBlock = some g → u'.heap[g]? = u.heap[g]?) : u'.ownsRow base e size v k xs := by
  obtain ⟨h1, h2⟩ := h
  refine ⟨h1, ?_⟩
  rcases h2 with h2 | ⟨g, cap, cur, e1, hb, hg', r⟩
  · exact .inl h2
  · subst e1
    exact .inr ⟨g, cap, cur, rfl, hb, (hk g rfl).trans hg', r⟩
/-- One number more: read (u1), added (u2), set in the row (u4). -/
theorem MxI.mid {w u u1 u2 : World} {l : List Int} {t k : Nat} {v : Value} {gs : List Nat} (h : MxI w u l t k v gs) (hb1 : Below u.heap.size u u1) (hbt : But u1.heap.size w.heap.size u1 u2) {x : Int} (hr : isR u1 u.heap.size (mkRat x t)) :
    u2.ownsRow w.heap.size 32 1 v k (gs.map pv) ∧ (∀ i b, gs[i]? = some b → isR u2 b (mkRat (l.getD i 0) t) ∧ b ≠ w.heap.size) ∧ isR u2 u.heap.size (mkRat x t) ∧ Below w.heap.size w u2 := by
  have hnb := (h.sm.below hb1 (Nat.le_refl _)).nb
  have hlt := h.sm.lt
  refine ⟨row_heap h.row (fun g hg => ?_), fun i b hi => ⟨((h.rs i b hi).1.below hb1 (Nat.le_refl _)).but hnb hbt (Nat.le_refl _) (h.rs i b hi).2, (h.rs i b hi).2⟩, hr.but hnb hbt (Nat.le_refl _) (by omega), h.bw.trans ((hb1.mono (by omega)).trans (hbt.fresh (Nat.le_refl _) (by have := hb1.size; omega)))⟩
  obtain ⟨g1, g2, p, hp⟩ := row_ptr h.row h.len h.nil hg
  have hne : g ≠ w.heap.size := fun e => (h.sm.nb.neP hp) e.symm
  rw [hbt.block g (by have := hb1.size; omega) hne, hb1.block g g2]
/-- .. and set in the row. -/
theorem MxI.more {w u3 u4 : World} {l : List Int} {t k bn : Nat} {v v' : Value} {gs : List Nat} (hl : gs.length = k) (hn : k = 0 → v = .slice none 0 0) (hrow : u3.ownsRow w.heap.size 32 1 v k (gs.map pv)) (hrs : ∀ i b, gs[i]? = some b → isR u3 b (mkRat (l.getD i 0) t) ∧ b ≠ w.heap.size) {x : Int} (hx : l[k]? = some x) (hr : isR u3 bn (mkRat x t)) (hbn : bn ≠ w.heap.size) (hs : isR u3 w.heap.size (mkRat ((l.take (k + 1)).sum) t)) (hbw : Below w.heap.size w u3) (hg : u3.grownBy u4 v.ownBlock) (hrow' : u4.ownsRow w.heap.size 32 1 v' (k + 1) (gs.map pv ++ [pv bn])) : MxI w u4 l t (k + 1) v' (gs ++ [bn]) := by
  have key : ∀ {b : Nat} {q : Rat}, isR u3 b q → isR u4 b q := by
    intro b q h
    cases ho : v.ownBlock with
    | none =>
      rw [ho] at hg
      exact h.below (S := u3.heap.size) ⟨hg.os, hg.tape, hg.output, hg.size, fun i hi => hg.block i hi (by simp)⟩ (Nat.le_refl _)
    | some g =>
      obtain ⟨g1, g2, p, hp⟩ := row_ptr hrow hl hn ho
      rw [ho] at hg
      exact h.butP hp (S := u3.heap.size) ⟨hg.os, hg.tape, hg.output, hg.size, fun i hi hne => hg.block i hi (fun e => hne (Option.some.inj e))⟩ (Nat.le_refl _)
  refine ⟨by rw [List.map_append]; exact hrow', by simp [hl], fun e => by omega, fun i b hi => ?_, key hs, hbw.trans ⟨hg.os, hg.tape, hg.output, hg.size, fun i hi => hg.block i (by have := hbw.size; omega) (fun e => ?_)⟩⟩
  · by_cases hik : i < gs.length
    · rw [List.getElem?_append_left hik] at hi
      exact ⟨key (hrs i b hi).1, (hrs i b hi).2⟩
    · have hie : i = gs.length := by
        have := (List.getElem?_eq_some_iff.1 hi).1
        simp at this; omega
      subst hie
      rw [List.getElem?_append_right (Nat.le_refl _)] at hi
      simp at hi
      subst hi
      rw [hl, List.getD_eq_getElem?_getD, hx]
      exact ⟨key hr, hbn⟩
  · have := hrow.lt i (by first | exact e | exact e.symm)
    omega

/-- What the closure leaves. -/
structure MixE (l : List Int) (t : Nat) (w : World) (e : Ending) (w' : World) : Prop where
  bw : Below w.heap.size w w'
  out : ∃ g cap, e = .returned (.slice (some ⟨g, 0, none⟩) l.length cap) ∧ l.length ≤ cap ∧ cap ≤ 9223372036854775807 ∧ g < w'.heap.size ∧ ∀ i, i < l.length → ∃ b, w'.cell? ⟨g, i, none⟩ = some (.pointer (some ⟨b, 0, none⟩)) ∧ isR w' b (mkRat (l.getD i 0) t)
theorem MxI.out {w u : World} {l : List Int} {t k : Nat} {v : Value} {gs : List Nat} (h : MxI w u l t k v gs) (hk : k = l.length) (h1 : 1 ≤ k) : MixE l t w (.returned v) u := by
  obtain ⟨hlen, hr⟩ := h.row
  rcases hr with ⟨-, h0⟩ | ⟨g, cap, cur, rfl, hb, hg, hc1, hc2, hc3, hc4⟩
  · omega
  · subst hk
    refine ⟨h.bw, g, cap, rfl, hc1, by unfold maxLen at hc2; omega, (Array.getElem?_eq_some_iff.1 hg).1, fun i hi => ?_⟩
    have hgi : gs[i]? = some (gs[i]'(by rw [h.len]; exact hi)) := List.getElem?_eq_getElem _
    refine ⟨_, ?_, (h.rs i _ hgi).1⟩
    have := h.row.cells rfl i (pv (gs[i]'(by rw [h.len]; exact hi))) (by rw [List.getElem?_map, hgi]; rfl)
    rw [show (⟨g, 0, none⟩ : Addr).add i = ⟨g, i, none⟩ by (simp [Addr.add]; try omega)] at this
    exact this

theorem infoPr : (Tryd.prog.info? 32).map (fun i => (i.zero, i.size, i.bytes)) = some (some (.pointer none), 1, 8) := by kernel_rfl
theorem sgI_ge {z : Int} (h : 0 ≤ z) : ¬ sgI z < 0 := by
  unfold sgI
  split
  · omega
  · rw [if_neg (by omega)]; omega
theorem mk_num_ge (a : Int) (t : Nat) (ht : t ≠ 0) (h : 0 ≤ a) : 0 ≤ (mkRat a t).num := by
  rw [mk_num a t ht]
  exact Int.ediv_nonneg h (Int.natCast_nonneg _)

set_option maxHeartbeats 4000000 in
set_option maxRecDepth 100000 in
theorem mix_any (l : List Int) (t m g base : Nat) (hm : l.length = m) (hm1 : 1 ≤ m) (hm6 : m ≤ 6) (ht : 1 ≤ t) (ht2 : t < 4611686018427387904) (hl0 : ∀ x ∈ l, 0 ≤ x ∧ x < 4611686018427387904) (hsum : l.sum = (t : Int)) (w : World) (hrow : StR w base g (l.map fun n => frS n t)) :
    Calls Tryd.prog 10 #[.slice (some ⟨g, 0, none⟩) m m] w (MixE l t w) := by
  have ht0 : t ≠ 0 := by omega
  have hglt := hrow.lt.2
  obtain ⟨w0, hw0⟩ : ∃ w0, w0 = w.alloc (.cells #[.bool false, .slice none 0 0, .bool false, .slice none 0 0] 39 (0, 0)) := ⟨_, rfl⟩
  have hb0 : Below w.heap.size w w0 := by rw [hw0]; exact (Below.refl _ w).alloc (Nat.le_refl _) _
  have hr0 : isR w0 w.heap.size 0 := by rw [hw0]; exact newR_zero w
  have hs0 : w0.heap.size = w.heap.size + 1 := by rw [hw0]; simp
  have HI0 : Hid (MxI w w0 l t 0 (.slice none 0 0) []) := hide ⟨World.ownsRow_nil _ _ _ _, rfl, fun _ => rfl, fun i b hi => by simp at hi, by simpa using hr0, hb0⟩
  obtain ⟨i0, hinfo, hz0, hz1, hz2⟩ : ∃ i0, Tryd.prog.info? 32 = some i0 ∧ i0.zero = some (.pointer none) ∧ i0.size = 1 ∧ i0.bytes = 8 := by
    have := infoPr
    cases hh : Tryd.prog.info? 32 with
    | none => rw [hh] at this; simp at this
    | some i => rw [hh] at this; simp at this; exact ⟨i, rfl, this.1, this.2.1, this.2.2⟩
  have HIN := hide hinfo
  have HZ0 := hide hz0
  have HZ1 := hide hz1
  have HZ2 := hide hz2
  have HROW := hide hrow
  have HL0 := hide hl0
  have HSUM := hide hsum
  have HW0 := hide hw0
  have HM := hide hm
  have HONE := hide (fun u => NewRat_any 1 u (by omega) (by omega))
  clear hinfo hz0 hz1 hz2 hrow hl0 hsum hw0 hb0 hr0 hm
  go_enter Tryd.func10, Tryd.ntmps10
  go_wp2
  rw [← unhide HW0]
  clear HW0
  go_loopw [3, 10] (fun vv iv wr => ∃ (k : Nat) (gs : List Nat), k ≤ m ∧ iv = .int .i64 (k : Int) ∧ Hid (MxI w wr l t k vv gs)) (fun _ iv _ => m - (intOf iv).toNat)
  case atStart => exact ⟨0, [], Nat.zero_le _, rfl, HI0⟩
  case round =>
    obtain ⟨k, gs, hk, rfl, HI⟩ := hrel
    rename World => wr
    have hbs := (unhide HI).bw.size
    have hbl := (unhide HI).sm.lt
    by_cases hkl : k < m
    · have hki : (k : Int) < (m : Int) := by omega
      have hk0 : (0 : Int) ≤ (k : Int) := by omega
      obtain ⟨x, hx⟩ : ∃ x, l[k]? = some x := ⟨l[k]'(by rw [unhide HM]; exact hkl), List.getElem?_eq_getElem _⟩
      have hxm := unhide HL0 x (List.mem_of_getElem? hx)
      have hcell : wr.cell? ⟨g, k, none⟩ = some (.string (frS x t)) := by
        refine ((unhide HI).bw.cell (p := ⟨g, k, none⟩) hglt).trans (((unhide HROW).cell (i := k) (x := frS x t) ?_).1)
        rw [List.getElem?_map, hx]; rfl
      have hn1 := mk_num_le x t ht0
      have hd1 := mk_den_le x t ht0
      have hge := sgI_ge (mk_num_ge x t ht0 hxm.1)
      have hs1 := sum_le l (fun y hy => (unhide HL0 y hy).1) k
      rw [unhide HSUM] at hs1
      have HRO := hide (RatOf_any (mkRat x t) (frS x t) wr (frS_ratS x t ht) (by omega) (by omega))
      have hsn := mk_num_le ((l.take k).sum) t ht0
      have hsd := mk_den_le ((l.take k).sum) t ht0
      have HNB : Hid ((mkRat x t).num.natAbs < 9223372036854775808 ∧ (mkRat x t).den < 9223372036854775808 ∧ (mkRat ((l.take k).sum) t).num.natAbs < 9223372036854775808 ∧ (mkRat ((l.take k).sum) t).den < 9223372036854775808) := hide ⟨by omega, by omega, by omega, by omega⟩
      have HX := hide hx
      obtain ⟨sg, hsg⟩ : ∃ sg, sgI (mkRat x t).num = sg := ⟨_, rfl⟩
      rw [hsg] at hge
      have HSG := hide hsg
      obtain ⟨S, hS⟩ : ∃ S, frS x t = S := ⟨_, rfl⟩
      rw [hS] at hcell HRO
      clear hn1 hd1 hs1 hsn hsd hxm hx hsg hS
      go_wp2_with fail
      refine (unhide HRO).mono ?_
      rintro e w1 ⟨rfl, r1, b1⟩
      have HR1 := hide r1
      have HB1 := hide b1
      have HSI := hide (Sign_z wr.heap.size 0 (mkRat x t).num w1 r1.num)
      have HSQ := hide (RSign_q wr.heap.size (mkRat x t) w1 r1)
      rw [unhide HSG] at HSQ
      have hs1 := b1.size
      clear r1 b1 HRO
      go_wp2_with fail
      refine (unhide HSQ).mono ?_
      rintro e w1' ⟨rfl, hw1⟩
      replace hw1 := hw1.symm
      subst hw1
      have HSM := hide ((unhide HI).sm.below (unhide HB1) (Nat.le_refl _))
      have HAD := hide (Add_q w.heap.size w.heap.size wr.heap.size 2 (mkRat ((l.take k).sum) t) (mkRat x t) w1 (unhide HSM).to_ (unhide HSM) (unhide HR1) (by omega) (pow2_lt (unhide HNB).2.2.1) (pow2_lt (unhide HNB).2.2.2) (pow2_lt (unhide HNB).1) (pow2_lt (unhide HNB).2.1))
      rw [mk_add _ _ t ht0, ← sum_take l k x (unhide HX)] at HAD
      clear HSI HSQ
      go_wp2_with fail
      refine (unhide HAD).mono ?_
      rintro e w2 ⟨rfl, r2, p2⟩
      have hs2 := p2.size
      obtain ⟨m1, m2, m3, m4⟩ := (unhide HI).mid (unhide HB1) p2 (unhide HR1)
      have HM1 := hide m1
      have HM2 := hide m2
      have HM3 := hide m3
      have HM4 := hide m4
      have HR2 := hide r2
      have HIL := hide (unhide HI).len
      have HINIL := hide (unhide HI).nil
      clear r2 p2 m1 m2 m3 m4 HAD HB1 HR1 HSM HI
      go_wp2_with (at_builtin; refine wpList_append_own_at _ rfl _ _ 34 rfl w.heap.size 32 i0 _ 1 8 Tryd.underlying34 (unhide HIN) (unhide HZ0) (unhide HZ1) (unhide HZ2) rfl (by decide) u3 k (gs.map pv) rfl ((unhide HM1).alloc _) ⟨w2.heap.size, 0, none⟩ 1 1 [pv wr.heap.size] rfl rfl (cell_one_new _ _ _) ?c2 ?c3 ?c4 ?c5 ?_)
      case c2 => simp [pv, Value.oneCell']
      case c3 => unfold maxLen; omega
      case c4 => omega
      case c5 => simp; omega
      intro v5 w5 hown5 hg5 _ _
      have HI5 : Hid (MxI w w5 l t (k + 1) v5 (gs ++ [wr.heap.size])) := hide (by
        have ha : Below w2.heap.size w2 (w2.alloc (.cells #[pv wr.heap.size] 32 (0, 0))) := (Below.refl _ _).alloc (Nat.le_refl _) _
        exact MxI.more (unhide HIL) (unhide HINIL) ((unhide HM1).alloc _) (fun i b hi => ⟨(unhide HM2 i b hi).1.below ha (Nat.le_refl _), (unhide HM2 i b hi).2⟩) (unhide HX) ((unhide HM3).below ha (Nat.le_refl _)) (by omega) ((unhide HR2).below ha (Nat.le_refl _)) ((unhide HM4).trans (ha.mono (by omega))) hg5 hown5)
      clear hown5 hg5
      go_wp2
      go_roundw
      case rel => exact ⟨k + 1, _, by omega, by go_num, HI5⟩
      case measure => simp only [intOf]; omega
    · obtain rfl : k = m := by omega
      have hki : ¬ (k : Int) < (k : Int) := by omega
      have hsm := (unhide HI).sm
      have htk : l.take k = l := by rw [← unhide HM, List.take_length]
      rw [htk, unhide HSUM, mk_self t ht0] at hsm
      have HSM := hide hsm
      clear hsm htk
      go_wp2_with fail
      refine (unhide HONE wr).mono ?_
      rintro e w1 ⟨rfl, r1, b1⟩
      have h11 : ((1 : Int) : Rat) = 1 := rfl
      rw [h11] at r1
      have hs1 := b1.size
      have HCM := hide (Cmp_q w.heap.size wr.heap.size 2 1 1 w1 ((unhide HSM).below b1 (Nat.le_refl _)) r1 (by omega) (pow2_lt (by decide)) (pow2_lt (by decide)) (pow2_lt (by decide)) (pow2_lt (by decide)))
      have hcq : cmpQ 1 1 = 0 := by unfold cmpQ; rw [if_neg (Rat.lt_irrefl), if_neg (Rat.lt_irrefl)]
      rw [hcq] at HCM
      have HB1 := hide b1
      clear r1 b1 HONE hcq h11
      go_wp2_with fail
      refine (unhide HCM).mono ?_
      rintro e w2 ⟨rfl, b2⟩
      have HE : Hid (MixE l t w (.returned u3) w2) := hide (by
        have o := (unhide HI).out (unhide HM).symm hm1
        obtain ⟨ob, og, oc, oe, oc1, oc2, ol, orr⟩ := o
        have hb : Below wr.heap.size wr w2 := (unhide HB1).trans (b2.mono hs1)
        refine ⟨ob.trans (hb.mono hbs), og, oc, oe, oc1, oc2, Nat.lt_of_lt_of_le ol hb.size, fun i hi => ?_⟩
        obtain ⟨b, h1, h2⟩ := orr i hi
        exact ⟨b, (hb.cell (p := ⟨og, i, none⟩) ol).trans h1, h2.below hb (Nat.le_refl _)⟩)
      clear b2 HCM HB1 HI
      go_wp2
      go_ret
      exact unhide HE
end Go.Proofs.YthplbfjpmnpjmaaDoor
