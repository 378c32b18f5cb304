/-
  package tourney, walked: give.
-/
import Derived.Test.YtppkejblhkbkjaaZ10
namespace Go.Proofs.Ytppkejblhkbkjaa
open Go.RowKit Tu
attribute [local go_sem ↓] Go.wp_at_zero Go.wp_at_succ

/-- All blocks but g are as they were. -/
def Gb (g : Nat) (W W' : World) : Prop := W.grownBy W' (some g)
theorem Gb.of_below {g : Nat} {W W' : World} (h : Below W.heap.size W W') : Gb g W W' := ⟨h.os, h.tape, h.output, h.size, fun i hi _ => h.block i hi⟩
theorem Gb.set {g : Nat} {W : World} (o : Nat) (v : Value) : Gb g W (W.setCell ⟨g, o, none⟩ v) := by
  exact ⟨rfl, rfl, rfl, by rw [World.size_setCell]; exact Nat.le_refl _, fun i hi hne => Below.heap_setCell _ _ _ _ (fun e => hne (by rw [e]))⟩
theorem Gb.trans {g : Nat} {U V W : World} (h : Gb g U V) (k : Gb g V W) : Gb g U W := World.grownBy.trans h k
theorem Gb.block {g : Nat} {W W' : World} (h : Gb g W W') {b : Nat} (hb : b < W.heap.size) (hn : b ≠ g) : W'.heap[b]? = W.heap[b]? := World.grownBy.block h b hb (fun e => hn (Option.some.inj e))
theorem isTe.gb {W W' : World} {t g r : Nat} {S : Nat → Bool} {tn : Nat → Tn} {B : Nat → Nat} {qv : Value} (h : isTe W t g r S tn B qv) (hk : Gb g W W') (hn : t ≠ g) : isTe W' t g r S tn B qv := h.keep (hk.block h.lt hn)

theorem Gb.alloc {g : Nat} {U W : World} (h : Gb g U W) (o : Obj) : Gb g U (W.alloc o) := h.trans (Gb.of_below ((Below.refl _ _).alloc (Nat.le_refl _) _))
theorem Gb.size {g : Nat} {U W : World} (h : Gb g U W) : U.heap.size ≤ W.heap.size := World.grownBy.size h

/-- What give leaves. -/
def GiE (g n : Nat) (bar : Nat → Nat → Bool) (f' : Nat → Option Nat) (W : World) (e : Ending) (W' : World) : Prop := e = .returned (.tuple #[]) ∧ isPr W' g n bar f' ∧ Gb g W W'

set_option maxHeartbeats 4000000 in
set_option maxRecDepth 100000 in
theorem give_stop (W : World) (t g n r v w : Nat) (bar : Nat → Nat → Bool) (f : Nat → Option Nat) (S : Nat → Bool) (tn : Nat → Tn) (B : Nat → Nat) (qv : Value) (hp : isPr W g n bar f) (ht : isTe W t g r S tn B qv) (hv : v < 60) (hf : f v = none ∨ ∃ o, f v = some o ∧ o < 60 ∧ o ≠ v ∧ f o ≠ some v) :
    Calls Try.prog 44 #[.pointer (some ⟨t, 0, none⟩), .int .i64 (v : Int), .int .i64 (w : Int)] W (GiE g n bar (upd f v w) W) := by
  have c0 := ht.p_
  have hpp := hp.put (y := w) hv
  have d0 : (W.setCell ⟨g, 3601 + v, none⟩ (.int .i64 (w : Int))).cell? ⟨t, 0, none⟩ = some (.pointer (some ⟨g, 0, none⟩)) ∨ t = g := by
    by_cases e : t = g
    · exact .inr e
    · exact .inl ((blk_cell (Gb.set (W := W) (3601 + v) (.int .i64 (w : Int)) |>.block ht.lt e)).trans ht.p_)
  have HE : Hid (isPr (W.setCell ⟨g, 3601 + v, none⟩ (.int .i64 (w : Int))) g n bar (upd f v w) ∧ Gb g W (W.setCell ⟨g, 3601 + v, none⟩ (.int .i64 (w : Int)))) := hide ⟨hpp, Gb.set _ _⟩
  have f1 := hp.fz (3601 + v)
  have hvi : (v : Int) < 60 := by omega
  have hv0 : (0 : Int) ≤ (v : Int) := by omega
  rcases hf with hf | ⟨o, e1, e2, e3, e4⟩
  · have c1 := hp.par v hv
    rw [hf] at c1
    have c1' : W.cell? ⟨g, 3601 + v, none⟩ = some (.int .i64 (-1)) := c1
    clear hp ht hf c1 hpp d0
    go_enter Try.func44, Try.ntmps44
    go_wp2
    (refine bodyPost_end (v := .tuple #[]) (by simp [results, Try.results44]) rfl ?_)
    exact ⟨rfl, unhide HE⟩
  · have c1 := hp.par v hv
    rw [e1] at c1
    have c1' : W.cell? ⟨g, 3601 + v, none⟩ = some (.int .i64 (o : Int)) := c1
    have htg : t ≠ g := fun e => by
      subst e
      have := hp.n_
      rw [c0] at this
      simp at this
    have c2 : (W.setCell ⟨g, 3601 + v, none⟩ (.int .i64 (w : Int))).cell? ⟨t, 0, none⟩ = some (.pointer (some ⟨g, 0, none⟩)) := d0.resolve_right htg
    have c3 := hpp.par o e2
    rw [upd_other _ e3] at c3
    obtain ⟨z, hz, hzv⟩ : ∃ z : Int, pI (f o) = z ∧ z ≠ (v : Int) := ⟨_, rfl, fun e => e4 (by
      cases hfo : f o with
      | none => rw [hfo] at e; simp [pI] at e
      | some y => rw [hfo] at e; simp [pI] at e; congr 1; omega)⟩
    rw [hz] at c3
    have hzb : (z == (v : Int)) = false := by simpa using hzv
    have hoi : (o : Int) < 60 := by omega
    have ho0 : (0 : Int) ≤ (o : Int) := by omega
    have hon : ((o : Int) == -1) = false := by simp
    clear hp ht c1 hpp d0 e1 e4 hz e3
    go_enter Try.func44, Try.ntmps44
    go_wp2
    (refine bodyPost_end (v := .tuple #[]) (by simp [results, Try.results44]) rfl ?_)
    exact ⟨rfl, unhide HE⟩

set_option maxHeartbeats 400000 in
set_option maxRecDepth 100000 in
theorem give_vert (W : World) (t g n r v w o a : Nat) (bar : Nat → Nat → Bool) (f : Nat → Option Nat) (S : Nat → Bool) (tn : Nat → Tn) (B : Nat → Nat) (qv : Value) (hp : isPr W g n bar f) (ht : isTe W t g r S tn B qv) (hv : v < 60) (h1 : f v = some o) (h2 : o < 60) (h3 : o ≠ v) (h4 : f o = some v) (h5 : tn v = .vert a) (f' : Nat → Option Nat)
    (hk : ∀ U, isPr U g n bar (upd (upd f v w) o a) → isTe U t g r S tn B qv → Calls Try.prog 44 #[.pointer (some ⟨t, 0, none⟩), .int .i64 (a : Int), .int .i64 (o : Int)] U (GiE g n bar f' U)) :
    Calls Try.prog 44 #[.pointer (some ⟨t, 0, none⟩), .int .i64 (v : Int), .int .i64 (w : Int)] W (GiE g n bar f' W) := by
  have c0 := ht.p_
  have htg : t ≠ g := fun e => by
    subst e
    have := hp.n_
    rw [c0] at this
    simp at this
  obtain ⟨W1, hW1⟩ : ∃ W1, W1 = W.setCell ⟨g, 3601 + v, none⟩ (.int .i64 (w : Int)) := ⟨_, rfl⟩
  have hg1 : Gb g W W1 := by rw [hW1]; exact Gb.set _ _
  have hp1 : isPr W1 g n bar (upd f v w) := by rw [hW1]; exact hp.put hv
  have ht1 := ht.gb hg1 htg
  have c1 := hp.par v hv
  rw [h1] at c1
  have c1' : W.cell? ⟨g, 3601 + v, none⟩ = some (.int .i64 (o : Int)) := c1
  have f1 := hp.fz (3601 + v)
  have d0 := ht1.p_
  have d1 := hp1.par o h2
  rw [upd_other _ h3, h4] at d1
  have d1' : W1.cell? ⟨g, 3601 + o, none⟩ = some (.int .i64 (v : Int)) := d1
  have d2 := ht1.ta v hv
  have d3 := ht1.tb v hv
  rw [h5] at d2 d3
  have d2' : W1.cell? ⟨t, 62 + v * 2, none⟩ = some (.int .i64 (a : Int)) := d2
  have d3' : W1.cell? ⟨t, 62 + v * 2 + 1, none⟩ = some (.int .i64 (-1)) := by rw [show 62 + v * 2 + 1 = 63 + v * 2 by omega]; exact d3
  have hvi : (v : Int) < 60 := by omega
  have hv0 : (0 : Int) ≤ (v : Int) := by omega
  have hoi : (o : Int) < 60 := by omega
  have ho0 : (0 : Int) ≤ (o : Int) := by omega
  have hon : ((o : Int) == -1) = false := by simp
  have HG1 := hide hg1
  have HP1 := hide hp1
  have HT1 := hide ht1
  have HW1 := hide hW1
  have HK := hide hk
  clear hp ht c1 d1 d2 d3 h1 h3 h4 h5 hg1 hp1 ht1 hW1 hk
  go_enter Try.func44, Try.ntmps44
  go_upto_region 2 with fail
  rw [← unhide HW1]
  clear c0 c1' f1
  go_wp2_with fail
  obtain ⟨W2, hW2⟩ : ∃ W2, W2 = W1.alloc (Obj.cells #[Value.int IntKind.i64 (a : Int), Value.int IntKind.i64 (-1)] 73 (0, 0)) := ⟨_, rfl⟩
  rw [← hW2]
  have hb2 : Below W1.heap.size W1 W2 := by rw [hW2]; exact (Below.refl _ _).alloc (Nat.le_refl _) _
  have e0 : W2.cell? ⟨W1.heap.size, 0, none⟩ = some (.int .i64 (a : Int)) := by rw [hW2]; simp
  have hp2 := (unhide HP1).keep (hb2.block g (unhide HP1).lt)
  have ht2 := (unhide HT1).keep (hb2.block t (unhide HT1).lt)
  have e1 := ht2.p_
  have e2 := hp2.par o h2
  have e3 := hp2.fz (3601 + o)
  have hlt := (unhide HP1).lt
  have hgne : W1.heap.size ≠ g := by omega
  have HP2 := hide hp2
  have HT2 := hide ht2
  have HB2 := hide hb2
  clear hp2 ht2 hb2 hW2 d0 d1' d2' d3' HP1 HT1 HW1
  go_region
  obtain ⟨U, hU⟩ : ∃ U, U = (W2.setCell ⟨g, 3601 + o, none⟩ (.int .i64 (a : Int))).drew := ⟨_, rfl⟩
  rw [← hU]
  have hpU : isPr U g n bar (upd (upd f v w) o a) := by rw [hU]; exact ((unhide HP2).put h2).keep rfl
  have hgU : Gb g W2 U := by rw [hU]; exact (Gb.set _ _).trans (Gb.of_below (Below.refl _ _).drew)
  have htU := (unhide HT2).gb hgU htg
  have hs2 : W1.heap.size < W2.heap.size := World.block_lt_of_cell? _ _ e0
  have e4 : U.cell? ⟨W1.heap.size, 0, none⟩ = some (.int .i64 (a : Int)) := (blk_cell (hgU.block hs2 hgne)).trans e0
  have HC := hide (unhide HK U hpU htU)
  have HGU := hide ((unhide HG1).trans ((Gb.of_below (unhide HB2)).trans hgU))
  clear hpU hgU htU hU e0 e1 e2 e3 HP2 HT2 HB2 HK HG1
  go_wp2_with fail
  refine (unhide HC).mono ?_
  rintro e W3 ⟨rfl, hp3, hg3⟩
  have HE : Hid (isPr W3 g n bar f' ∧ Gb g W W3) := hide ⟨hp3, (unhide HGU).trans hg3⟩
  clear hp3 hg3 HC
  go_wp2
  (refine bodyPost_end (v := .tuple #[]) (by simp [results, Try.results44]) rfl ?_)
  exact ⟨rfl, unhide HE⟩

set_option maxHeartbeats 4000000 in
set_option maxRecDepth 100000 in
theorem give_edge (W : World) (t g n r v w o a b : Nat) (bar : Nat → Nat → Bool) (f : Nat → Option Nat) (S : Nat → Bool) (tn : Nat → Tn) (B : Nat → Nat) (qv : Value) (hp : isPr W g n bar f) (ht : isTe W t g r S tn B qv) (hv : v < 60) (h1 : f v = some o) (h2 : o < 60) (h3 : o ≠ v) (h4 : f o = some v) (h5 : tn v = .edge a b) (f1 f2 : Nat → Option Nat)
    (hk1 : ∀ U, isPr U g n bar (upd f v w) → isTe U t g r S tn B qv → Calls Try.prog 44 #[.pointer (some ⟨t, 0, none⟩), .int .i64 (a : Int), .int .i64 (b : Int)] U (GiE g n bar f1 U))
    (hk2 : ∀ U, isPr U g n bar f1 → isTe U t g r S tn B qv → Calls Try.prog 44 #[.pointer (some ⟨t, 0, none⟩), .int .i64 (b : Int), .int .i64 (a : Int)] U (GiE g n bar f2 U)) :
    Calls Try.prog 44 #[.pointer (some ⟨t, 0, none⟩), .int .i64 (v : Int), .int .i64 (w : Int)] W (GiE g n bar f2 W) := by
  have c0 := ht.p_
  have htg : t ≠ g := fun e => by
    subst e
    have := hp.n_
    rw [c0] at this
    simp at this
  obtain ⟨W1, hW1⟩ : ∃ W1, W1 = W.setCell ⟨g, 3601 + v, none⟩ (.int .i64 (w : Int)) := ⟨_, rfl⟩
  have hg1 : Gb g W W1 := by rw [hW1]; exact Gb.set _ _
  have hp1 : isPr W1 g n bar (upd f v w) := by rw [hW1]; exact hp.put hv
  have ht1 := ht.gb hg1 htg
  have c1 := hp.par v hv
  rw [h1] at c1
  have c1' : W.cell? ⟨g, 3601 + v, none⟩ = some (.int .i64 (o : Int)) := c1
  have f1' := hp.fz (3601 + v)
  have d0 := ht1.p_
  have d1 := hp1.par o h2
  rw [upd_other _ h3, h4] at d1
  have d1' : W1.cell? ⟨g, 3601 + o, none⟩ = some (.int .i64 (v : Int)) := d1
  have d2 := ht1.ta v hv
  have d3 := ht1.tb v hv
  rw [h5] at d2 d3
  have d2' : W1.cell? ⟨t, 62 + v * 2, none⟩ = some (.int .i64 (a : Int)) := d2
  have d3' : W1.cell? ⟨t, 62 + v * 2 + 1, none⟩ = some (.int .i64 (b : Int)) := by rw [show 62 + v * 2 + 1 = 63 + v * 2 by omega]; exact d3
  have hvi : (v : Int) < 60 := by omega
  have hv0 : (0 : Int) ≤ (v : Int) := by omega
  have hoi : (o : Int) < 60 := by omega
  have ho0 : (0 : Int) ≤ (o : Int) := by omega
  have hon : ((o : Int) == -1) = false := by simp
  have hbn : ((b : Int) == -1) = false := by simp
  have HG1 := hide hg1
  have HP1 := hide hp1
  have HT1 := hide ht1
  have HW1 := hide hW1
  have HK1 := hide hk1
  have HK2 := hide hk2
  clear hp ht c1 d1 d2 d3 h1 h3 h4 h5 hg1 hp1 ht1 hW1 hk1 hk2
  go_enter Try.func44, Try.ntmps44
  go_upto_region 2 with fail
  rw [← unhide HW1]
  clear c0 c1' f1'
  obtain ⟨W2, hW2⟩ : ∃ W2, W2 = W1.alloc (Obj.cells #[Value.int IntKind.i64 (a : Int), Value.int IntKind.i64 (b : Int)] 73 (0, 0)) := ⟨_, rfl⟩
  have hb2 : Below W1.heap.size W1 W2 := by rw [hW2]; exact (Below.refl _ _).alloc (Nat.le_refl _) _
  have e0 : W2.cell? ⟨W1.heap.size, 0, none⟩ = some (.int .i64 (a : Int)) := by rw [hW2]; simp
  have e00 : W2.cell? ⟨W1.heap.size, 1, none⟩ = some (.int .i64 (b : Int)) := by rw [hW2]; simp
  have hp2 := (unhide HP1).keep (hb2.block g (unhide HP1).lt)
  have ht2 := (unhide HT1).keep (hb2.block t (unhide HT1).lt)
  have hlt := (unhide HP1).lt
  have hs2 : W1.heap.size < W2.heap.size := World.block_lt_of_cell? _ _ e0
  have hgne : W1.heap.size ≠ g := by omega
  have HC := hide (unhide HK1 W2 hp2 ht2)
  have HT2 := hide ht2
  have HB2 := hide hb2
  have HW2 := hide hW2
  have HE0 := hide e0
  have HE1 := hide e00
  clear hp2 ht2 hb2 hW2 HP1 HT1 HW1 HK1 e0 e00
  go_wp2_with fail
  rw [← unhide HW2]
  clear HW2 d0 d1' d2' d3'
  refine (unhide HC).mono ?_
  rintro e W3 ⟨rfl, hp3, hg3⟩
  have e0 : W3.cell? ⟨W1.heap.size, 0, none⟩ = some (.int .i64 (a : Int)) := (blk_cell (hg3.block hs2 hgne)).trans (unhide HE0)
  have e00 : W3.cell? ⟨W1.heap.size, 1, none⟩ = some (.int .i64 (b : Int)) := (blk_cell (hg3.block hs2 hgne)).trans (unhide HE1)
  have HC3 := hide (unhide HK2 W3 hp3 ((unhide HT2).gb hg3 htg))
  have HG3 := hide ((unhide HG1).trans ((Gb.of_below (unhide HB2)).trans hg3))
  clear hp3 hg3 HC HK2 HT2
  go_wp2_with fail
  refine (unhide HC3).mono ?_
  rintro e W4 ⟨rfl, hp4, hg4⟩
  have HE : Hid (isPr W4 g n bar f2 ∧ Gb g W W4) := hide ⟨hp4, (unhide HG3).trans hg4⟩
  clear hp4 hg4 HC3
  go_wp2
  (refine bodyPost_end (v := .tuple #[]) (by simp [results, Try.results44]) rfl ?_)
  exact ⟨rfl, unhide HE⟩

theorem giv_bound {tn : Nat → Tn} {f : Nat → Option Nat} {v w : Nat} {f' : Nat → Option Nat} (hg : Giv tn f v w f') : w < 60 → (∀ x y, f x = some y → y < 60) → (∀ x a, tn x = .vert a → a < 60) → (∀ x a b, tn x = .edge a b → a < 60 ∧ b < 60) → ∀ x y, f' x = some y → y < 60 := by
  have hupd : ∀ {f : Nat → Option Nat} {x y : Nat}, (∀ x y, f x = some y → y < 60) → y < 60 → ∀ a b, upd f x y a = some b → b < 60 := fun {f x y} h hy a b e => by
    by_cases hx : a = x
    · subst hx
      rw [upd_same] at e
      rw [← Option.some.inj e]; exact hy
    · rw [upd_other _ hx] at e; exact h a b e
  induction hg with
  | none _ => intro hw hf _ _; exact hupd hf hw
  | stop _ _ _ => intro hw hf _ _; exact hupd hf hw
  | vert h1 _ _ h4 _ ih => intro hw hf hva hed; exact ih (hf _ _ h1) (hupd (hupd hf hw) (hva _ _ h4)) hva hed
  | edge h1 _ _ h4 _ _ ih1 ih2 =>
    intro hw hf hva hed
    obtain ⟨ha, hb⟩ := hed _ _ _ h4
    exact ih2 ha (ih1 hb (hupd hf hw) hva hed) hva hed
/-- give, whole. -/
theorem give_any {tn : Nat → Tn} {f : Nat → Option Nat} {v w : Nat} {f' : Nat → Option Nat} (hg : Giv tn f v w f') : ∀ (W : World) (t g n r : Nat) (bar : Nat → Nat → Bool) (S : Nat → Bool) (B : Nat → Nat) (qv : Value), isPr W g n bar f → isTe W t g r S tn B qv → v < 60 → w < 60 → (∀ x y, f x = some y → y < 60) → (∀ x a, tn x = .vert a → a < 60) → (∀ x a b, tn x = .edge a b → a < 60 ∧ b < 60) →
    Calls Try.prog 44 #[.pointer (some ⟨t, 0, none⟩), .int .i64 (v : Int), .int .i64 (w : Int)] W (GiE g n bar f' W) := by
  have hupd : ∀ {f : Nat → Option Nat} {x y : Nat}, (∀ x y, f x = some y → y < 60) → y < 60 → ∀ a b, upd f x y a = some b → b < 60 := fun {f x y} h hy a b e => by
    by_cases hx : a = x
    · subst hx
      rw [upd_same] at e
      rw [← Option.some.inj e]; exact hy
    · rw [upd_other _ hx] at e; exact h a b e
  induction hg with
  | @none f v w h =>
    intro W t g n r bar S B qv hp ht hv hw hf hva hed
    exact give_stop W t g n r v w bar f S _ B qv hp ht hv (.inl h)
  | @stop f v w o h1 h2 h3 =>
    intro W t g n r bar S B qv hp ht hv hw hf hva hed
    exact give_stop W t g n r v w bar f S _ B qv hp ht hv (.inr ⟨o, h1, hf _ _ h1, h2, h3⟩)
  | @vert f v w o a f' h1 h2 h3 h4 h5 ih =>
    intro W t g n r bar S B qv hp ht hv hw hf hva hed
    have hfu := hupd (x := o) (hupd (x := v) hf hw) (hva _ _ h4)
    exact give_vert W t g n r v w o a bar f S _ B qv hp ht hv h1 (hf _ _ h1) h2 h3 h4 f' (fun U hpU htU => ih U t g n r bar S B qv hpU htU (hva _ _ h4) (hf _ _ h1) hfu hva hed)
  | @edge f v w o a b f1 f2 h1 h2 h3 h4 h5 h6 ih1 ih2 =>
    intro W t g n r bar S B qv hp ht hv hw hf hva hed
    obtain ⟨ha, hb⟩ := hed _ _ _ h4
    have hfu := hupd (x := v) hf hw
    have hf1 := giv_bound h5 hb hfu hva hed
    exact give_edge W t g n r v w o a b bar f S _ B qv hp ht hv h1 (hf _ _ h1) h2 h3 h4 f1 f2 (fun U hpU htU => ih1 U t g n r bar S B qv hpU htU ha hb hfu hva hed) (fun U hpU htU => ih2 U t g n r bar S B qv hpU htU hb ha hf1 hva hed)
end Go.Proofs.Ytppkejblhkbkjaa
