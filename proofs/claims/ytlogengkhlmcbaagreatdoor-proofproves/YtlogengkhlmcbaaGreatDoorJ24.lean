/-
  package proof, walked: the closure of cert, over what is known of need.
  Certs in memory of the call's own: in blocks from lo on; a row of certs, filled one by one.
  package moves, walked: Next, over what is known of CheckPosition, list and Behind.
-/
import Derived.Test.YtlogengkhlmcbaaGreatDoorJ18
import Derived.Test.YtlogengkhlmcbaaGreatDoorJ23
import Derived.Test.YtlogengkhlmcbaaGreatDoorJ14
import Derived.Test.YtlogengkhlmcbaaGreatDoorJ13
namespace Go.Proofs.YtlogengkhlmcbaaGreatDoor
open Go.RowKit
attribute [local go_sem ↓] Go.wp_at_zero Go.wp_at_succ

/-- What the closure hands back: whether need is below n. -/
def ClP (nx : Po → List Po) (wn turn : Po → Bool) (q : Po) (n g : Nat) (F : Po → Nat → Bool → Prop) (w : World) (e : Ending) (w' : World) : Prop := ∃ r : Nat, e = .returned (.bool (decide ((r : Int) < (n : Int)))) ∧ NeedR nx wn turn q (n - 1) r ∧ knows w' g 262144 F ∧ w.grownBy w' (some g)

set_option maxHeartbeats 2000000 in
set_option maxRecDepth 100000 in
theorem certClose_walk (nx : Po → List Po) (wn turn : Po → Bool) (q : Po) (n h g b3 b10 : Nat) (F : Po → Nat → Bool → Prop) (w : World) (hn1 : 1 ≤ n) (hn9 : n ≤ 1000)
    (h3 : w.cell? ⟨b3, 0, none⟩ = some (.pointer (some ⟨h, 0, none⟩))) (h10 : w.cell? ⟨b10, 0, none⟩ = some (.int .i64 (n : Int))) (h3l : b3 < w.heap.size) (h10l : b10 < w.heap.size) (h3g : b3 ≠ g) (h10g : b10 ≠ g) (hgl : g < w.heap.size)
    (hneed : ∀ u, w.grownBy u none → Calls Tryz.prog 12 #[.pointer (some ⟨h, 0, none⟩), .agg #[.int .i64 q.W, .int .i64 q.H, .string q.C, .int .i64 q.T, .string q.A, .string q.B], .int .i64 ((n - 1 : Nat) : Int)] u (NeedP nx wn turn q (n - 1) g F u)) :
    Calls Tryz.prog 30 #[.agg #[.int .i64 q.W, .int .i64 q.H, .string q.C, .int .i64 q.T, .string q.A, .string q.B], .pointer (some ⟨b3, 0, none⟩), .pointer (some ⟨b10, 0, none⟩)] w (ClP nx wn turn q n g F w) := by
  obtain ⟨n1, hn⟩ : ∃ n1, n1 = n - 1 := ⟨_, rfl⟩
  have hni : (n : Int) - 1 = (n1 : Int) := by omega
  have wn1 : IntKind.i64.wrap (n1 : Int) = (n1 : Int) := by unfold IntKind.wrap; simp [IntKind.signed, IntKind.bits]; omega
  rw [← hn] at hneed
  obtain ⟨w1, hw1⟩ : ∃ w1, w1 = w.alloc (.cells #[.int .i64 q.W, .int .i64 q.H, .string q.C, .int .i64 q.T, .string q.A, .string q.B] 24 (0, 0)) := ⟨_, rfl⟩
  have hb1 : Below w.heap.size w w1 := by rw [hw1]; exact (Below.refl _ _).alloc (Nat.le_refl _) _
  have hs1 : w1.heap.size = w.heap.size + 1 := by rw [hw1]; simp
  have hpb : isPb w1 w.heap.size q.W q.H q.T q.C q.A q.B := by rw [hw1]; exact heap_alloc_new w _
  have HS : Hid (∀ u, w1.grownBy u (some g) → u.cell? ⟨b3, 0, none⟩ = some (.pointer (some ⟨h, 0, none⟩)) ∧ u.cell? ⟨b10, 0, none⟩ = some (.int .i64 (n : Int)) ∧ u.cell? ⟨w.heap.size, 0, none⟩ = some (.int .i64 q.W) ∧ u.cell? ⟨w.heap.size, 1, none⟩ = some (.int .i64 q.H) ∧ u.cell? ⟨w.heap.size, 2, none⟩ = some (.string q.C) ∧ u.cell? ⟨w.heap.size, 3, none⟩ = some (.int .i64 q.T) ∧ u.cell? ⟨w.heap.size, 4, none⟩ = some (.string q.A) ∧ u.cell? ⟨w.heap.size, 5, none⟩ = some (.string q.B)) := hide (fun u hu => by
    have e3 : u.heap[b3]? = w.heap[b3]? := (hu.block _ (by omega) (by simp; omega)).trans (hb1.block _ h3l)
    have e10 : u.heap[b10]? = w.heap[b10]? := (hu.block _ (by omega) (by simp; omega)).trans (hb1.block _ h10l)
    have hp : isPb u w.heap.size q.W q.H q.T q.C q.A q.B := (hu.block _ (by omega) (by simp; omega)).trans hpb
    obtain ⟨y0, y1, y2, y3, y4, y5⟩ := hp.all
    exact ⟨(World.cell?_of_block (a := ⟨b3, 0, none⟩) e3).trans h3, (World.cell?_of_block (a := ⟨b10, 0, none⟩) e10).trans h10, y0, y1, y2, y3, y4, y5⟩)
  have hgd : ∀ row, w1.grownBy w1.drew row := fun row => ⟨rfl, rfl, rfl, Nat.le_refl _, fun _ _ _ => rfl⟩
  have hgw1 : ∀ row, w.grownBy w1.drew row := fun row => ⟨hb1.os, hb1.tape, hb1.output, hb1.size, fun k hk _ => hb1.block k hk⟩
  have HGD := hide (hgd (some g))
  have HS1 := hide (unhide HS _ (hgd (some g)))
  have HND := hide (hneed w1.drew (hgw1 none))
  have HFIN : Hid (∀ u, w1.drew.grownBy u (some g) → w1.grownBy u (some g) ∧ w.grownBy u (some g)) := hide (fun u hu => ⟨(hgd (some g)).andThen hu (fun k hk => .inr hk), (hgw1 (some g)).andThen hu (fun k hk => .inr hk)⟩)
  have HN := hide hn
  have HW1 := hide hw1
  clear hn hw1 hb1 hs1 hpb hneed h3 h10 h3l h10l h3g h10g hgl hgd hgw1
  go_enter Tryz.func30, Tryz.ntmps30
  go_upto_region 1 with fail
  rw [← unhide HW1]
  clear HW1
  go_region_held3 (fun u => u.cell? ⟨b3, 0, none⟩ = some (.pointer (some ⟨h, 0, none⟩)) ∧ u.cell? ⟨b10, 0, none⟩ = some (.int .i64 (n : Int)) ∧ u.cell? ⟨w.heap.size, 0, none⟩ = some (.int .i64 q.W) ∧ u.cell? ⟨w.heap.size, 1, none⟩ = some (.int .i64 q.H) ∧ u.cell? ⟨w.heap.size, 2, none⟩ = some (.string q.C) ∧ u.cell? ⟨w.heap.size, 3, none⟩ = some (.int .i64 q.T) ∧ u.cell? ⟨w.heap.size, 4, none⟩ = some (.string q.A) ∧ u.cell? ⟨w.heap.size, 5, none⟩ = some (.string q.B))
    (first
      | with_reducible exact unhide HS1
      | with_reducible exact j1)
    (first | (go_at_call 12; (with_reducible refine (unhide HND).mono ?_); rintro e w6 ⟨r, rfl, hR, hr, hK, hg6⟩; obtain ⟨hga, hgb⟩ := unhide HFIN w6 hg6; have j1 := unhide HS w6 hga; have HR := hide hR; have HK := hide hK; have HGB := hide hgb; clear hR hK hg6 hga hgb))
  all_goals go_wp2
  all_goals go_ret
  all_goals exact ⟨r, by first | rfl | simp, by rw [← unhide HN]; exact unhide HR, unhide HK, unhide HGB⟩
end Go.Proofs.YtlogengkhlmcbaaGreatDoor

namespace Go.Proofs.YtlogengkhlmcbaaGreatDoor
open Go.RowKit

/-- Certs in memory, in blocks from lo on and below B, no more than so many within one another. -/
def isCo : Nat → World → Nat → Nat → Option Addr → Nat → List Ct → Prop
  | 0, _, _, _, ao, cap, l => l = [] ∧ cap ≤ maxLen ∧ (ao = none → cap = 0)
  | d + 1, w, lo, B, ao, cap, l => l.length ≤ cap ∧ cap ≤ maxLen ∧ (ao = none → cap = 0) ∧ (l ≠ [] → ∃ g off, ao = some ⟨g, off, none⟩ ∧ lo ≤ g ∧ g < B ∧ ∀ (i : Nat) (x : Ct), l[i]? = some x →
      x.c < 256 ∧ ∃ no nc, w.cell? ⟨g, off + i * 5, none⟩ = some (.bool x.s) ∧ w.cell? ⟨g, off + i * 5 + 1, none⟩ = some (.int .i64 x.f) ∧ w.cell? ⟨g, off + i * 5 + 2, none⟩ = some (.int .i64 x.t) ∧ w.cell? ⟨g, off + i * 5 + 3, none⟩ = some (.int .u8 (x.c : Int)) ∧ w.cell? ⟨g, off + i * 5 + 4, none⟩ = some (.slice no x.ks.length nc) ∧ isCo d w lo B no nc x.ks)
theorem isCo.keep {w w' : World} {lo B : Nat} (hk : ∀ k, lo ≤ k → k < B → w'.heap[k]? = w.heap[k]?) : ∀ (d : Nat) (ao : Option Addr) (cap : Nat) (l : List Ct), isCo d w lo B ao cap l → isCo d w' lo B ao cap l
  | 0, _, _, _, h => h
  | d + 1, ao, cap, l, h => by
    obtain ⟨h1, h2, h3, h4⟩ := h
    refine ⟨h1, h2, h3, fun hl => ?_⟩
    obtain ⟨g, off, e, hg1, hg2, hc⟩ := h4 hl
    refine ⟨g, off, e, hg1, hg2, fun i x hx => ?_⟩
    obtain ⟨k, no, nc, c0, c1, c2, c3, c4, c5⟩ := hc i x hx
    have hb := hk g hg1 hg2
    exact ⟨k, no, nc, (World.cell?_of_block (a := ⟨g, _, none⟩) hb).trans c0, (World.cell?_of_block (a := ⟨g, _, none⟩) hb).trans c1, (World.cell?_of_block (a := ⟨g, _, none⟩) hb).trans c2, (World.cell?_of_block (a := ⟨g, _, none⟩) hb).trans c3, (World.cell?_of_block (a := ⟨g, _, none⟩) hb).trans c4, isCo.keep hk d no nc x.ks c5⟩
theorem isCo.wide {w : World} {lo lo' B B' : Nat} (hlo : lo' ≤ lo) (hB : B ≤ B') : ∀ (d : Nat) (ao : Option Addr) (cap : Nat) (l : List Ct), isCo d w lo B ao cap l → isCo d w lo' B' ao cap l
  | 0, _, _, _, h => h
  | d + 1, ao, cap, l, h => by
    obtain ⟨h1, h2, h3, h4⟩ := h
    refine ⟨h1, h2, h3, fun hl => ?_⟩
    obtain ⟨g, off, e, hg1, hg2, hc⟩ := h4 hl
    refine ⟨g, off, e, by omega, by omega, fun i x hx => ?_⟩
    obtain ⟨k, no, nc, c0, c1, c2, c3, c4, c5⟩ := hc i x hx
    exact ⟨k, no, nc, c0, c1, c2, c3, c4, isCo.wide hlo hB d no nc x.ks c5⟩
theorem isCo.deeper {w : World} {lo B : Nat} : ∀ (d : Nat) (ao : Option Addr) (cap : Nat) (l : List Ct), isCo d w lo B ao cap l → isCo (d + 1) w lo B ao cap l
  | 0, _, _, _, h => by
    obtain ⟨rfl, h2, h3⟩ := h
    exact ⟨Nat.zero_le _, h2, h3, fun e => absurd rfl e⟩
  | d + 1, ao, cap, l, h => by
    obtain ⟨h1, h2, h3, h4⟩ := h
    refine ⟨h1, h2, h3, fun hl => ?_⟩
    obtain ⟨g, off, e, hg1, hg2, hc⟩ := h4 hl
    refine ⟨g, off, e, hg1, hg2, fun i x hx => ?_⟩
    obtain ⟨k, no, nc, c0, c1, c2, c3, c4, c5⟩ := hc i x hx
    exact ⟨k, no, nc, c0, c1, c2, c3, c4, isCo.deeper d no nc x.ks c5⟩
theorem isCo.deep {w : World} {lo B d d' : Nat} (hd : d ≤ d') {ao : Option Addr} {cap : Nat} {l : List Ct} (h : isCo d w lo B ao cap l) : isCo d' w lo B ao cap l := by
  induction hd with
  | refl => exact h
  | step _ ih => exact isCo.deeper _ _ _ _ ih
theorem isCo.cts {w : World} {lo B : Nat} : ∀ (d : Nat) (ao : Option Addr) (cap : Nat) (l : List Ct), isCo d w lo B ao cap l → isCts d w B ao cap l
  | 0, _, _, _, h => h
  | d + 1, ao, cap, l, h => by
    obtain ⟨h1, h2, h3, h4⟩ := h
    refine ⟨h1, h2, h3, fun hl => ?_⟩
    obtain ⟨g, off, e, hg1, hg2, hc⟩ := h4 hl
    refine ⟨g, off, e, hg2, fun i x hx => ?_⟩
    obtain ⟨k, no, nc, c0, c1, c2, c3, c4, c5⟩ := hc i x hx
    exact ⟨k, no, nc, c0, c1, c2, c3, c4, isCo.cts d no nc x.ks c5⟩
theorem isCo.nil (d : Nat) (w : World) (lo B : Nat) : isCo d w lo B none 0 [] := by
  cases d with
  | zero => exact ⟨rfl, by unfold maxLen; omega, fun _ => rfl⟩
  | succ d => exact ⟨Nat.le_refl _, by unfold maxLen; omega, fun _ => rfl, fun e => absurd rfl e⟩

/-- A cert as it stands in a row. -/
structure Cv where
  x : Ct
  no : Option Addr
  nc : Nat
def Cv.vs (v : Cv) : List Value := [.bool v.x.s, .int .i64 v.x.f, .int .i64 v.x.t, .int .u8 (v.x.c : Int), .slice v.no v.x.ks.length v.nc]
/-- The cells of a row of certs. -/
def cvs (l : List Cv) : List Value := l.flatMap Cv.vs
theorem cvs_len : ∀ l : List Cv, (cvs l).length = l.length * 5
  | [] => rfl
  | p :: l => by
    have := cvs_len l
    unfold cvs at this ⊢
    rw [List.flatMap_cons, List.length_append, this, List.length_cons]
    simp only [Cv.vs, List.length_cons, List.length_nil]
    omega
theorem cvs_app (a b : List Cv) : cvs (a ++ b) = cvs a ++ cvs b := by simp [cvs]
theorem cvs_set {a : List Cv} {r : List Value} (q : Cv) (n : Nat) (hn : n = a.length * 5) (h : 5 ≤ r.length) :
    (((((cvs a ++ r).set n (.bool q.x.s)).set (n + 1) (.int .i64 q.x.f)).set (n + 2) (.int .i64 q.x.t)).set (n + 3) (.int .u8 (q.x.c : Int))).set (n + 4) (.slice q.no q.x.ks.length q.nc) = cvs (a ++ [q]) ++ r.drop 5 := by
  have hl := cvs_len a
  match r, h with
  | r0 :: r1 :: r2 :: r3 :: r4 :: rest, _ =>
    rw [set_behind _ _ n 0 _ (by omega), set_behind _ _ (n + 1) 1 _ (by omega), set_behind _ _ (n + 2) 2 _ (by omega), set_behind _ _ (n + 3) 3 _ (by omega), set_behind _ _ (n + 4) 4 _ (by omega), cvs_app, List.append_assoc]
    rfl
theorem cvs_at : ∀ (l : List Cv) (i j : Nat) (v : Cv), l[i]? = some v → j < 5 → (cvs l)[i * 5 + j]? = v.vs[j]?
  | [], _, _, _, h, _ => by simp at h
  | a :: l, 0, j, v, h, hj => by
    simp only [List.getElem?_cons_zero, Option.some.injEq] at h
    subst h
    unfold cvs
    rw [List.flatMap_cons, List.getElem?_append_left (by simp [Cv.vs]; omega)]
    congr 1
    omega
  | a :: l, i + 1, j, v, h, hj => by
    have ih := cvs_at l i j v (by simpa using h) hj
    unfold cvs at ih ⊢
    rw [List.flatMap_cons, List.getElem?_append_right (by simp [Cv.vs]; omega), ← ih]
    congr 1
    simp only [Cv.vs, List.length_cons, List.length_nil]
    omega
/-- A row of certs of the call's own: five cells each are set, one cert more stands in it. -/
theorem row_set5 {w : World} {base g n cap : Nat} {a : List Cv} {r : List Value} (q : Cv) (t : TypeId) (hr : w.ownsRow base t 5 (.slice (some ⟨g, 0, none⟩) n cap) n (cvs a ++ r)) (h : 5 ≤ r.length) (j : Nat) (hj : j = a.length * 5) :
    let w' := ((((w.setCell ⟨g, j, none⟩ (.bool q.x.s)).setCell ⟨g, j + 1, none⟩ (.int .i64 q.x.f)).setCell ⟨g, j + 2, none⟩ (.int .i64 q.x.t)).setCell ⟨g, j + 3, none⟩ (.int .u8 (q.x.c : Int))).setCell ⟨g, j + 4, none⟩ (.slice q.no q.x.ks.length q.nc)
    w'.ownsRow base t 5 (.slice (some ⟨g, 0, none⟩) n cap) n (cvs (a ++ [q]) ++ r.drop 5) ∧ w.grownBy w' (some g) := by
  intro w'
  obtain ⟨h0, g0⟩ := hr.stored j (.bool q.x.s)
  obtain ⟨h1, g1⟩ := h0.stored (j + 1) (.int .i64 q.x.f)
  obtain ⟨h2, g2⟩ := h1.stored (j + 2) (.int .i64 q.x.t)
  obtain ⟨h3, g3⟩ := h2.stored (j + 3) (.int .u8 (q.x.c : Int))
  obtain ⟨h4, g4⟩ := h3.stored (j + 4) (.slice q.no q.x.ks.length q.nc)
  rw [cvs_set q j hj h] at h4
  refine ⟨h4, ?_⟩
  have k1 := g0.andThen g1 (fun k hk => .inr hk)
  have k2 := k1.andThen g2 (fun k hk => .inr hk)
  have k3 := k2.andThen g3 (fun k hk => .inr hk)
  exact k3.andThen g4 (fun k hk => .inr hk)
theorem isCo.of_row {w : World} {base g n cap lo B d : Nat} {l : List Cv} {t : TypeId} (hr : w.ownsRow base t 5 (.slice (some ⟨g, 0, none⟩) n cap) n (cvs l)) (hlo : lo ≤ g) (hB : g < B) (hc : ∀ v ∈ l, v.x.c < 256 ∧ isCo d w lo B v.no v.nc v.x.ks) : isCo (d + 1) w lo B (some ⟨g, 0, none⟩) cap (l.map Cv.x) ∧ l.length = n := by
  have hl : l.length = n := by
    have h1 := hr.1
    rw [cvs_len] at h1
    omega
  refine ⟨?_, hl⟩
  have hcap : n ≤ cap ∧ cap ≤ maxLen := by
    rcases hr.2 with ⟨h', _⟩ | ⟨g', cap', cur, h', _, _, h1, h2, _⟩
    · simp at h'
    · simp only [Value.slice.injEq, Option.some.injEq, Addr.mk.injEq, and_true, true_and] at h'
      obtain ⟨rfl, rfl⟩ := h'
      exact ⟨h1, h2⟩
  refine ⟨by rw [List.length_map]; omega, hcap.2, fun e => (nomatch e), fun _ => ⟨g, 0, rfl, hlo, hB, fun i x hx => ?_⟩⟩
  rw [List.getElem?_map, Option.map_eq_some_iff] at hx
  obtain ⟨v, hv, rfl⟩ := hx
  have hi : i < n := by
    have := (List.getElem?_eq_some_iff.1 hv).1
    omega
  obtain ⟨h1, h2⟩ := hc v (List.mem_of_getElem? hv)
  have key : ∀ j, j < 5 → w.cell? ⟨g, 0 + i * 5 + j, none⟩ = v.vs[j]? := fun j hj => by
    rw [Nat.zero_add, hr.cellAt (i * 5 + j) (by omega)]
    exact cvs_at l i j v hv hj
  exact ⟨h1, v.no, v.nc, key 0 (by omega), key 1 (by omega), key 2 (by omega), key 3 (by omega), key 4 (by omega), h2⟩
theorem isCo.one {w' : World} {g lo B d : Nat} {t : TypeId} (v : Cv) (hg : w'.heap[g]? = some (.cells #[.bool v.x.s, .int .i64 v.x.f, .int .i64 v.x.t, .int .u8 (v.x.c : Int), .slice v.no v.x.ks.length v.nc] t (0, 0))) (hlo : lo ≤ g) (hB : g < B) (hx : v.x.c < 256) (hk : isCo d w' lo B v.no v.nc v.x.ks) : isCo (d + 1) w' lo B (some ⟨g, 0, none⟩) 1 [v.x] := by
  have hr : w'.ownsRow 0 t 5 (.slice (some ⟨g, 0, none⟩) 1 1) 1 (cvs [v]) := ⟨rfl, .inr ⟨g, 1, _, rfl, Nat.zero_le _, hg, Nat.le_refl _, by unfold maxLen; omega, rfl, rfl⟩⟩
  exact (isCo.of_row hr hlo hB (fun u hu => by
    rw [List.mem_singleton.1 hu]
    exact ⟨hx, hk⟩)).1
end Go.Proofs.YtlogengkhlmcbaaGreatDoor

namespace Go.Proofs.YtlogengkhlmcbaaGreatDoor
open Go.RowKit
attribute [local go_sem ↓] Go.wp_at_zero Go.wp_at_succ

theorem infoPos : (Tryz.prog.info? 24).map (fun i => (i.zero, i.size, i.bytes)) = some (some (.agg #[.int .i64 0, .int .i64 0, .string ⟨#[]⟩, .int .i64 0, .string ⟨#[]⟩, .string ⟨#[]⟩]), 6, 72) := by kernel_rfl
theorem rowKeep {w w' : World} {base : Nat} {e : TypeId} {size n : Nat} {v : Value} {xs : List Value} (h : w.ownsRow base e size v n xs) (hk : ∀ k, base ≤ k → k < w.heap.size → w'.heap[k]? = w.heap[k]?) : w'.ownsRow base e size v n xs := by
  obtain ⟨h1, h2⟩ := h
  refine ⟨h1, ?_⟩
  rcases h2 with h2 | ⟨g, cap, cur, e1, hb, hg, r⟩
  · exact .inl h2
  · exact .inr ⟨g, cap, cur, e1, hb, (hk g hb (Array.getElem?_eq_some_iff.1 hg).1).trans hg, r⟩
theorem rowBase {w : World} {base base' : Nat} {e : TypeId} {size n : Nat} {v : Value} {xs : List Value} (h : w.ownsRow base e size v n xs) (hb : base' ≤ base) : w.ownsRow base' e size v n xs := by
  obtain ⟨h1, h2⟩ := h
  refine ⟨h1, ?_⟩
  rcases h2 with h2 | ⟨g, cap, cur, e1, hb2, r⟩
  · exact .inl h2
  · exact .inr ⟨g, cap, cur, e1, by omega, r⟩
theorem rowCell {w : World} {base : Nat} {e : TypeId} {size n cap g : Nat} {xs : List Value} (h : w.ownsRow base e size (.slice (some ⟨g, 0, none⟩) n cap) n xs) (j : Nat) (hj : j < n * size) : (∃ u, w.cell? ⟨g, j, none⟩ = some u) ∧ w.frozen? ⟨g, j, none⟩ = false := by
  have hl : xs.length = n * size := h.1
  refine ⟨⟨xs[j]'(by omega), (h.cellAt j hj).trans (List.getElem?_eq_getElem (by omega))⟩, ?_⟩
  rcases h.2 with ⟨h', _⟩ | ⟨g', cap', cur, h', _, hg, _⟩
  · simp at h'
  · simp only [Value.slice.injEq, Option.some.injEq, Addr.mk.injEq, and_true, true_and] at h'
    obtain ⟨rfl, rfl⟩ := h'
    simp [World.frozen?, hg]

/-- k positions stand in the row. -/
structure NxI (beh : Mv → Po) (L : List Mv) (base g N k : Nat) (w5 u : World) : Prop where
  row : ∃ r : List Value, r.length = (N - k) * 6 ∧ u.ownsRow base 24 6 (.slice (some ⟨g, 0, none⟩) N N) N (povs ((L.take k).map beh) ++ r)
  gr : w5.grownBy u (some g)

set_option maxHeartbeats 4000000 in
set_option maxRecDepth 100000 in
theorem next_walk (v0 v1 v2 v3 v4 v5 v6 v7 v8 v9 v10 v11 v12 : Value) (p : Po) (L : List Mv) (beh : Mv → Po) (w : World) (hLl : L.length ≤ 4608)
    (hC : ∀ u, Below w.heap.size w u → Calls Tryz.prog 22 #[.agg #[v0, v1, v2, v3, v4, v5, v6, v7, v8, v9, v10, v11, v12], .agg #[.int .i64 p.W, .int .i64 p.H, .string p.C, .int .i64 p.T, .string p.A, .string p.B]] u fun e w' => e = .returned (.int .i64 0) ∧ Below u.heap.size u w')
    (hL : ∀ u, Below w.heap.size w u → Calls Tryz.prog 48 #[.agg #[v0, v1, v2, v3, v4, v5, v6, v7, v8, v9, v10, v11, v12], .agg #[.int .i64 p.W, .int .i64 p.H, .string p.C, .int .i64 p.T, .string p.A, .string p.B]] u fun e w' => ∃ v, e = .returned v ∧ w'.ownsRow u.heap.size 29 3 v L.length (mvals L) ∧ Below u.heap.size u w')
    (hB : ∀ m ∈ L, ∀ u, Below w.heap.size w u → Calls Tryz.prog 49 #[.agg #[v0, v1, v2, v3, v4, v5, v6, v7, v8, v9, v10, v11, v12], .agg #[.int .i64 p.W, .int .i64 p.H, .string p.C, .int .i64 p.T, .string p.A, .string p.B], .agg #[.int .i64 m.f, .int .i64 (m.t : Int), .int .u8 (m.c : Int)]] u fun e w' => e = .returned (.agg #[.int .i64 (beh m).W, .int .i64 (beh m).H, .string (beh m).C, .int .i64 (beh m).T, .string (beh m).A, .string (beh m).B]) ∧ Below u.heap.size u w') :
    Calls Tryz.prog 28 #[.agg #[v0, v1, v2, v3, v4, v5, v6, v7, v8, v9, v10, v11, v12], .agg #[.int .i64 p.W, .int .i64 p.H, .string p.C, .int .i64 p.T, .string p.A, .string p.B]] w fun e w' => ∃ x y, e = .returned (.tuple #[x, y, .int .i64 0]) ∧ w'.ownsRow w.heap.size 29 3 x L.length (mvals L) ∧ w'.ownsRow w.heap.size 24 6 y L.length (povs (L.map beh)) ∧ Below w.heap.size w w' := by
  obtain ⟨i0, hinfo, hz0, hz1, hz2⟩ := info_parts infoPos
  obtain ⟨N, hN⟩ : ∃ N, N = L.length := ⟨_, rfl⟩
  rw [← hN] at hLl hL ⊢
  obtain ⟨w1, hw1⟩ : ∃ w1, w1 = w.alloc (.cells #[v0, v1, v2, v3, v4, v5, v6, v7, v8, v9, v10, v11, v12] 27 (0, 0)) := ⟨_, rfl⟩
  obtain ⟨w2, hw2⟩ : ∃ w2, w2 = w1.alloc (.cells #[.int .i64 p.W, .int .i64 p.H, .string p.C, .int .i64 p.T, .string p.A, .string p.B] 24 (0, 0)) := ⟨_, rfl⟩
  have hb1 : Below w.heap.size w w1 := by rw [hw1]; exact (Below.refl _ _).alloc (Nat.le_refl _) _
  have hb2 : Below w.heap.size w w2 := by rw [hw2]; exact hb1.alloc hb1.size _
  have hs1 : w1.heap.size = w.heap.size + 1 := by rw [hw1]; simp
  have hs2 : w2.heap.size = w.heap.size + 2 := by rw [hw2, World.alloc]; simp [hs1]
  have q3 : isPb w2 (w.heap.size + 1) p.W p.H p.T p.C p.A p.B := by rw [hw2, ← hs1]; exact heap_alloc_new w1 _
  have q2 : isRu w2 w.heap.size v0 v1 v2 v3 v4 v5 v6 v7 v8 v9 v10 v11 v12 := by
    unfold isRu
    rw [hw2]; refine (Below.heap_alloc _ _ _ (by omega)).trans ?_; rw [hw1]; exact heap_alloc_new w _
  have HCK := hide (hC w2 hb2)
  have HBOX : Hid (∀ u, (∀ k, k < w2.heap.size → u.heap[k]? = w2.heap[k]?) → isRu u w.heap.size v0 v1 v2 v3 v4 v5 v6 v7 v8 v9 v10 v11 v12 ∧ isPb u (w.heap.size + 1) p.W p.H p.T p.C p.A p.B) := hide (fun u hu => ⟨(hu _ (by omega)).trans q2, (hu _ (by omega)).trans q3⟩)
  obtain ⟨x0, x1, x2, x3, x4, x5, x6, x7, x8, x9, x10, x11, x12⟩ := q2.cells
  obtain ⟨y0, y1, y2, y3, y4, y5⟩ := q3.all
  have HW1 := hide hw1
  have HW2 := hide hw2
  have HB2 := hide hb2
  have HL := hide hL
  have HB := hide hB
  have HN := hide hN
  have HI := hide hinfo
  have HZ0 := hide hz0
  have HZ1 := hide hz1
  have HZ2 := hide hz2
  have HS2 := hide hs2
  clear hw1 hw2 hb1 hb2 hs1 q2 q3 hC hL hB hN hinfo hz0 hz1 hz2 hs2
  go_enter Tryz.func28, Tryz.ntmps28
  go_upto_region 1 with fail
  rw [← unhide HW1, ← unhide HW2]
  go_wp2_with fail
  refine (unhide HCK).mono ?_
  rintro e w3 ⟨rfl, hb3⟩
  have hb13 := (unhide HB2).trans (hb3.mono (unhide HB2).size)
  obtain ⟨b3r, b3p⟩ := unhide HBOX w3 (fun k hk => hb3.block k hk)
  clear x0 x1 x2 x3 x4 x5 x6 x7 x8 x9 x10 x11 x12 y0 y1 y2 y3 y4 y5
  obtain ⟨x0, x1, x2, x3, x4, x5, x6, x7, x8, x9, x10, x11, x12⟩ := b3r.cells
  obtain ⟨y0, y1, y2, y3, y4, y5⟩ := b3p.all
  have HLI := hide (unhide HL w3 hb13)
  have HB3 := hide hb3
  have HB13 := hide hb13
  clear hb3 hb13 b3r b3p HCK
  go_wp2_with fail
  refine (unhide HLI).mono ?_
  rintro e w4 ⟨lv, rfl, hown, hb4⟩
  obtain ⟨uo, uc, rfl⟩ : ∃ uo uc, lv = .slice uo N uc := by
    rcases hown.2 with ⟨h1, h2⟩ | ⟨g, cap, cur, h1, -⟩
    · exact ⟨none, 0, by rw [h1, h2]⟩
    · exact ⟨_, _, h1⟩
  have hb24 : Below w2.heap.size w2 w4 := (unhide HB3).trans (hb4.mono (unhide HB3).size)
  have hb14 : Below w.heap.size w w4 := (unhide HB2).trans (hb24.mono (unhide HB2).size)
  obtain ⟨w5, hmk, hrow5, hg5⟩ := run_makeSlice_full (P := Tryz.prog) (w := w4) w.heap.size 70 24 i0 _ 6 Tryz.underlying70 (unhide HI) (unhide HZ0) (unhide HZ1) .i64 .i64 N (by omega) (by rw [unhide HZ2]; omega) (by unfold maxLen; omega) hb14.size
  obtain ⟨g, hg⟩ : ∃ g, g = w4.heap.size := ⟨_, rfl⟩
  have hmk' : (Instr.makeSlice 70 (.int .i64 (N : Int)) (.int .i64 (N : Int))).run Tryz.prog w4 = .ok (.slice (some ⟨g, 0, none⟩) N N) w5 := by rw [hg]; exact hmk
  rw [← hg] at hrow5
  have hgl : g < w5.heap.size := (World.ownsRow.lt hrow5 g rfl).2
  have hI0 : NxI beh L w.heap.size g N 0 w5 w5 := ⟨⟨_, by rw [hrow5.1]; omega, by simpa [povs] using hrow5⟩, ⟨rfl, rfl, rfl, Nat.le_refl _, fun _ _ _ => rfl⟩⟩
  have HFR : Hid (∀ u, w5.grownBy u (some g) → (∀ k, k < g → u.heap[k]? = w4.heap[k]?) ∧ Below w.heap.size w u ∧ u.ownsRow w3.heap.size 29 3 (.slice uo N uc) N (mvals L)) := hide (fun u hu => by
    have hk : ∀ k, k < g → u.heap[k]? = w4.heap[k]? := fun k hk => (hu.block k (by omega) (by simp; omega)).trans (hg5.block k (by omega) (by simp))
    have hw4s := hb14.size
    exact ⟨hk, hb14.trans ⟨hu.os.trans hg5.os, hu.tape.trans hg5.tape, hu.output.trans hg5.output, Nat.le_trans hg5.size hu.size, fun k h => hk k (by omega)⟩, rowKeep hown (fun k _ h => hk k (by omega))⟩)
  have H24 := hide hb24
  have HG := hide hg
  have HI0 := hide hI0
  have HGL := hide hgl
  have hw3s : w.heap.size ≤ w3.heap.size := (unhide HB13).size
  have hgw : w2.heap.size ≤ g := by rw [hg]; exact hb24.size
  have HGW := hide hgw
  have HW3S := hide hw3s
  clear hown hb4 hb24 hb14 hmk hrow5 hg5 hI0 hg hgl hw3s hgw HLI x0 x1 x2 x3 x4 x5 x6 x7 x8 x9 x10 x11 x12 y0 y1 y2 y3 y4 y5
  go_wp2
  go_loopw [26] (fun iv wr => ∃ k : Nat, k ≤ N ∧ iv = .int .i64 (k : Int) ∧ NxI beh L w.heap.size g N k w5 wr) (fun iv _ => N - (intOf iv).toNat)
  case atStart => exact ⟨0, Nat.zero_le _, rfl, unhide HI0⟩
  case round =>
    obtain ⟨k, hk, rfl, hinv⟩ := hrel
    rename World => wr
    clear HI0
    obtain ⟨hfr, hbw, hmv⟩ := unhide HFR wr hinv.gr
    by_cases hlt : k < N
    · have hlti : (k : Int) < (N : Int) := by omega
      have hk0 : (0 : Int) ≤ (k : Int) := by omega
      have hkl : k < L.length := by rw [← unhide HN]; exact hlt
      obtain ⟨m, hm⟩ : ∃ m, m = L[k] := ⟨_, rfl⟩
      have hmi : L[k]? = some m := by rw [hm]; exact List.getElem?_eq_getElem hkl
      have hmem : m ∈ L := List.mem_of_getElem? hmi
      have hmv2 : wr.ownsRow w3.heap.size 29 3 (.slice uo N uc) L.length (mvals L) := by rw [← unhide HN]; exact hmv
      obtain ⟨ao, cap, e1, hle, hmx, hcs⟩ := isMvs.of hmv2
      obtain ⟨g1, off, eg, hgk, c0, c1, c2⟩ := hcs k m hmi
      simp only [Value.slice.injEq] at e1
      obtain ⟨e1, e2, e3⟩ := e1
      subst eg
      subst e1
      subst e3
      unfold maxLen at hmx
      rw [← unhide HN] at hle
      obtain ⟨wi, hwi⟩ : ∃ wi, wi = wr.alloc (.cells #[.int .i64 m.f, .int .i64 (m.t : Int), .int .u8 (m.c : Int)] 29 (0, 0)) := ⟨_, rfl⟩
      have hbi : Below wr.heap.size wr wi := by rw [hwi]; exact (Below.refl _ _).alloc (Nat.le_refl _) _
      have hmbi : isMb wi wr.heap.size m.f m.t m.c := by rw [hwi]; exact heap_alloc_new wr _
      have hrs : w5.heap.size ≤ wr.heap.size := hinv.gr.size
      have hgl := unhide HGL
      have hgw := unhide HGW
      obtain ⟨bir, bip⟩ := unhide HBOX wi (fun j hj => (hbi.block j (by omega)).trans ((hfr j (by omega)).trans ((unhide H24).block j hj)))
      obtain ⟨x0, x1, x2, x3, x4, x5, x6, x7, x8, x9, x10, x11, x12⟩ := bir.cells
      obtain ⟨y0, y1, y2, y3, y4, y5⟩ := bip.all
      obtain ⟨z0, z1, z2⟩ := hmbi.all
      have hbwi := hbw.trans (hbi.mono hbw.size)
      have HCall := hide (unhide HB m hmem wi hbwi)
      have HNX : Hid (∀ w7, Below wi.heap.size wi w7 → ∃ r : List Value, 6 ≤ r.length ∧ r.length = (N - k) * 6 ∧ w7.ownsRow w.heap.size 24 6 (.slice (some ⟨g, 0, none⟩) N N) N (povs ((L.take k).map beh) ++ r) ∧ w5.grownBy w7 (some g)) := hide (fun w7 h7 => by
        obtain ⟨r, hr, hrow⟩ := hinv.row
        refine ⟨r, by rw [hr]; omega, hr, rowKeep hrow (fun j _ hj => (h7.block j (by have := hbi.size; omega)).trans (hbi.block j hj)), ?_⟩
        exact hinv.gr.andThen (show wr.grownBy w7 none from ⟨h7.os.trans hbi.os, h7.tape.trans hbi.tape, h7.output.trans hbi.output, Nat.le_trans hbi.size h7.size, fun j hj _ => (h7.block j (by have := hbi.size; omega)).trans (hbi.block j hj)⟩) (fun j hj => by cases hj))
      have HTK : Hid ((L.take (k + 1)).map beh = (L.take k).map beh ++ [beh m]) := hide (by rw [List.take_add_one, hmi, Option.toList_some, List.map_append]; rfl)
      have HKL : Hid (((L.take k).map beh).length = k) := hide (by rw [List.length_map, List.length_take]; omega)
      generalize beh m = q at *
      have HWI := hide hwi
      clear hwi hbi hmbi bir bip hbwi hmv hmv2 hcs hm hmi hmem hgk e2 hinv hfr hbw
      go_upto_region 9 with fail
      rw [← unhide HWI]
      clear HWI c0 c1 c2
      go_wp2_with fail
      refine (unhide HCall).mono ?_
      rintro e w7 ⟨rfl, hb7⟩
      obtain ⟨r, hr6, hrl, hrow, hgr⟩ := unhide HNX w7 hb7
      obtain ⟨⟨t0, s0⟩, f0⟩ := rowCell hrow (k * 6) (by omega)
      obtain ⟨⟨t1, s1⟩, f1⟩ := rowCell hrow (k * 6 + 1) (by omega)
      obtain ⟨⟨t2, s2⟩, f2⟩ := rowCell hrow (k * 6 + 2) (by omega)
      obtain ⟨⟨t3, s3⟩, f3⟩ := rowCell hrow (k * 6 + 3) (by omega)
      obtain ⟨⟨t4, s4⟩, f4⟩ := rowCell hrow (k * 6 + 4) (by omega)
      obtain ⟨⟨t5, s5⟩, f5⟩ := rowCell hrow (k * 6 + 5) (by omega)
      obtain ⟨hset, hgs⟩ := row_set6 q 24 hrow hr6 (k * 6) (by rw [unhide HKL])
      have HE : Hid (NxI beh L w.heap.size g N (k + 1) w5 ((((((w7.setCell ⟨g, k * 6, none⟩ (.int .i64 q.W)).setCell ⟨g, k * 6 + 1, none⟩ (.int .i64 q.H)).setCell ⟨g, k * 6 + 2, none⟩ (.string q.C)).setCell ⟨g, k * 6 + 3, none⟩ (.int .i64 q.T)).setCell ⟨g, k * 6 + 4, none⟩ (.string q.A)).setCell ⟨g, k * 6 + 5, none⟩ (.string q.B))) := hide ⟨⟨r.drop 6, by rw [List.length_drop]; omega, by rw [unhide HTK]; exact hset⟩, hgr.andThen hgs (fun j hj => .inr hj)⟩
      clear hb7 hrow hgr hset hgs hr6 hrl HCall HNX
      go_wp2
      go_roundw
      case rel => exact ⟨k + 1, by omega, by go_num, unhide HE⟩
      case measure => simp only [intOf]; omega
    · have hlti : ¬ (k : Int) < (N : Int) := by omega
      have hke : k = N := by omega
      obtain ⟨r, hr, hrow⟩ := hinv.row
      have hr0 : r = [] := List.eq_nil_of_length_eq_zero (by omega)
      rw [hr0, List.append_nil, List.take_of_length_le (by rw [hke, unhide HN]; exact Nat.le_refl _)] at hrow
      have HE : Hid (wr.ownsRow w.heap.size 29 3 (.slice uo N uc) N (mvals L) ∧ wr.ownsRow w.heap.size 24 6 (.slice (some ⟨g, 0, none⟩) N N) N (povs (L.map beh)) ∧ Below w.heap.size w wr) := hide ⟨rowBase hmv (unhide HW3S), hrow, hbw⟩
      clear hinv hr hrow hr0 hfr hbw hmv hke
      go_wp2
      refine bodyPost_ret (v := .tuple #[.slice uo N uc, .slice (some ⟨g, 0, none⟩) N N, .int .i64 0]) (by simp [results, Tryz.results28, go_sem]) rfl ?_
      exact ⟨_, _, rfl, unhide HE⟩
end Go.Proofs.YtlogengkhlmcbaaGreatDoor
