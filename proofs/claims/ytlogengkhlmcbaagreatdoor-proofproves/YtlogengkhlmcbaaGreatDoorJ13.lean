/-
  slices.Index, slices.Contains of moves, walked.
  package moves, walked: check.
  Maps that count: keys of one shape, elements that tell how often each stands in a list.
-/
import Derived.Test.YtlogengkhlmcbaaGreatDoorJ12
import Derived.Test.YtlogengkhlmcbaaGreatDoorJ2
import Derived.BigQuiet
import Derived.Maps.RangeWalk
import Derived.Maps.OwnSet
import Derived.WideKeyEntry
import Derived.WalkKit
namespace Go.Proofs.YtlogengkhlmcbaaGreatDoor
open Go.RowKit
attribute [local go_sem ↓] Go.wp_at_zero Go.wp_at_succ

theorem mvals_at : ∀ (L : List Mv) (i : Nat) (m : Mv), L[i]? = some m → (mvals L)[i * 3]? = some (.int .i64 m.f) ∧ (mvals L)[i * 3 + 1]? = some (.int .i64 (m.t : Int)) ∧ (mvals L)[i * 3 + 2]? = some (.int .u8 (m.c : Int))
  | [], i, x, h => by simp at h
  | y :: L, 0, x, h => by simp at h; subst h; simp [mvals]
  | y :: L, i + 1, x, h => by
    have := mvals_at L i x (by simpa using h)
    rw [show mvals (y :: L) = [.int .i64 y.f, .int .i64 (y.t : Int), .int .u8 (y.c : Int)] ++ mvals L from rfl]
    rw [show (i + 1) * 3 = 3 + i * 3 by omega, show 3 + i * 3 + 1 = 3 + (i * 3 + 1) by omega, show 3 + i * 3 + 2 = 3 + (i * 3 + 2) by omega]
    rw [List.getElem?_append_right (by simp), List.getElem?_append_right (by simp), List.getElem?_append_right (by simp)]
    simpa using this
/-- A slice of moves in memory. -/
def isMvs (w : World) (v : Value) (L : List Mv) : Prop := ∃ ao cap, v = .slice ao L.length cap ∧ L.length ≤ cap ∧ cap ≤ maxLen ∧ ∀ i m, L[i]? = some m → ∃ g off, ao = some ⟨g, off, none⟩ ∧ g < w.heap.size ∧ w.cell? ⟨g, off + i * 3, none⟩ = some (.int .i64 m.f) ∧ w.cell? ⟨g, off + i * 3 + 1, none⟩ = some (.int .i64 (m.t : Int)) ∧ w.cell? ⟨g, off + i * 3 + 2, none⟩ = some (.int .u8 (m.c : Int))
theorem isMvs.of {w : World} {base : Nat} {v : Value} {L : List Mv} (h : w.ownsRow base 29 3 v L.length (mvals L)) : isMvs w v L := by
  have h0 := h
  rcases h.2 with ⟨h1, h2⟩ | ⟨g, cap, cur, h1, hb, hg, hn, hc, -⟩
  · exact ⟨none, 0, by rw [h1, h2], by omega, by unfold maxLen; omega, fun i m hi => by
      have := (List.getElem?_eq_some_iff.1 hi).1
      omega⟩
  · refine ⟨some ⟨g, 0, none⟩, cap, h1, hn, hc, fun i m hi => ⟨g, 0, rfl, (Array.getElem?_eq_some_iff.1 hg).1, ?_⟩⟩
    have hlt := (List.getElem?_eq_some_iff.1 hi).1
    obtain ⟨a0, a1, a2⟩ := mvals_at L i m hi
    rw [h1] at h0
    rw [Nat.zero_add]
    exact ⟨by rw [h0.cellAt _ (by omega)]; exact a0, by rw [h0.cellAt _ (by omega)]; exact a1, by rw [h0.cellAt _ (by omega)]; exact a2⟩
theorem isMvs.below {w w' : World} {v : Value} {L : List Mv} (h : isMvs w v L) (hb : Below w.heap.size w w') : isMvs w' v L := by
  obtain ⟨ao, cap, h1, h2, h3, h4⟩ := h
  refine ⟨ao, cap, h1, h2, h3, fun i m hi => ?_⟩
  obtain ⟨g, off, e, hg, c0, c1, c2⟩ := h4 i m hi
  have := hb.size
  exact ⟨g, off, e, by omega, (hb.cell (by dsimp only; omega)).trans c0, (hb.cell (by dsimp only; omega)).trans c1, (hb.cell (by dsimp only; omega)).trans c2⟩
/-- Is it that move? -/
def eqM (f t : Int) (c : Nat) (m : Mv) : Bool := decide (f = m.f) && decide (t = (m.t : Int)) && decide (c = m.c)
/-- Where it is first. -/
def idxM (f t : Int) (c : Nat) : Nat → List Mv → Int
  | _, [] => -1
  | k, m :: L => if eqM f t c m then (k : Int) else idxM f t c (k + 1) L

theorem eqMove (w : World) (f t f' t' c c' : Int) :
    (Op.equalIn 10000 29 (.agg #[.int .i64 f, .int .i64 t, .int .u8 c]) (.agg #[.int .i64 f', .int .i64 t', .int .u8 c'])).run Tryz.prog w = .ok (f == f' && t == t' && c == c') w := by
  rw [run_equalIn_agg w 9999 29 _ _ (by kernel_rfl) (by kernel_rfl)]
  unfold Program.fieldsOf
  rw [Tryz.underlying29]
  simp [go_sem]
  by_cases h1 : f = f' <;> by_cases h2 : t = t' <;> by_cases h3 : c = c' <;> simp [h1, h2, h3]

set_option maxHeartbeats 4000000 in
set_option maxRecDepth 100000 in
theorem IndexM_any (v : Value) (L : List Mv) (f t : Int) (c : Nat) (w : World) (h : isMvs w v L) :
    Calls Tryz.prog 50 #[v, .agg #[.int .i64 f, .int .i64 t, .int .u8 (c : Int)]] w fun e w' => e = .returned (.int .i64 (idxM f t c 0 L)) ∧ Below w.heap.size w w' := by
  obtain ⟨ao, cap, rfl, hle, hmx, hcs⟩ := h
  obtain ⟨n, hn⟩ : ∃ n, n = L.length := ⟨_, rfl⟩
  rw [← hn] at hle ⊢
  unfold maxLen at hmx
  have hnx : n ≤ 9223372036854775807 := by omega
  have HN := hide hn
  have HCS := hide hcs
  clear hn hcs
  obtain ⟨R, hR⟩ : ∃ R, R = idxM f t c 0 L := ⟨_, rfl⟩
  rw [← hR]
  have HR := hide hR
  clear hR
  obtain ⟨wa, hwa⟩ : ∃ wa, wa = w.alloc (.cells #[.int .i64 f, .int .i64 t, .int .u8 (c : Int)] 29 (0, 0)) := ⟨_, rfl⟩
  have hba : Below w.heap.size w wa := by rw [hwa]; exact (Below.refl _ _).alloc (Nat.le_refl _) _
  have hbx : wa.heap[w.heap.size]? = some (.cells #[.int .i64 f, .int .i64 t, .int .u8 (c : Int)] 29 (0, 0)) := by rw [hwa]; exact heap_alloc_new w _
  have HBA := hide hba
  have HBX := hide hbx
  clear hba hbx
  go_enter Tryz.func50, Tryz.ntmps50
  go_wp2
  rw [← hwa]
  clear hwa
  go_loopw [8] (fun iv wr => ∃ k : Nat, iv = .int .i64 (k : Int) ∧ k ≤ n ∧ Hid (idxM f t c k (L.drop k) = R) ∧ wr.heap[w.heap.size]? = some (.cells #[.int .i64 f, .int .i64 t, .int .u8 (c : Int)] 29 (0, 0)) ∧ Below w.heap.size w wr) (fun iv _ => n - (intOf iv).toNat)
  case atStart => exact ⟨0, rfl, Nat.zero_le _, hide (unhide HR).symm, unhide HBX, unhide HBA⟩
  case round =>
    obtain ⟨k, rfl, hk, HK, hbx, hbw⟩ := hrel
    clear HBX HBA
    by_cases hlt : k < n
    · have hlti : (k : Int) < (n : Int) := by omega
      have hk0 : (0 : Int) ≤ (k : Int) := by omega
      have hkl : k < L.length := by rw [← unhide HN]; exact hlt
      obtain ⟨g, off, eg, hg, c0, c1, c2⟩ := unhide HCS k L[k] (List.getElem?_eq_getElem hkl)
      subst eg
      obtain ⟨m, hm⟩ : ∃ m, m = L[k] := ⟨_, rfl⟩
      rw [← hm] at c0 c1 c2
      have d0 := (hbw.cell (p := ⟨g, off + k * 3, none⟩) hg).trans c0
      have d1 := (hbw.cell (p := ⟨g, off + k * 3 + 1, none⟩) hg).trans c1
      have d2 := (hbw.cell (p := ⟨g, off + k * 3 + 2, none⟩) hg).trans c2
      have x0 : wr.cell? ⟨w.heap.size, 0, none⟩ = some (.int .i64 f) := cell_of_row _ _ _ _ _ _ hbx
      have x1 : wr.cell? ⟨w.heap.size, 1, none⟩ = some (.int .i64 t) := cell_of_row _ _ _ _ _ _ hbx
      have x2 : wr.cell? ⟨w.heap.size, 2, none⟩ = some (.int .u8 (c : Int)) := cell_of_row _ _ _ _ _ _ hbx
      have hst := unhide HK
      rw [List.drop_eq_getElem_cons hkl, ← hm, idxM] at hst
      have he : ∀ u, (Op.equalIn 10000 29 (.agg #[.int .i64 f, .int .i64 t, .int .u8 (c : Int)]) (.agg #[.int .i64 m.f, .int .i64 (m.t : Int), .int .u8 (m.c : Int)])).run Tryz.prog u = .ok (eqM f t c m) u := fun u => by
        rw [eqMove]
        congr 1
        unfold eqM
        rw [Bool.eq_iff_iff]
        simp
        omega
      have HBX := hide hbx
      have HBW := hide hbw
      clear hm c0 c1 c2 hbx hbw
      generalize eqM f t c m = b at hst he
      cases b with
      | true =>
        simp only [if_true] at hst
        have HST := hide hst
        clear hst
        go_wp2_with fail
        go_quiet (fail)
        go_wp2
        go_ret
        exact ⟨by rw [← unhide HST]; rfl, ⟨(unhide HBW).os, (unhide HBW).tape, (unhide HBW).output, (unhide HBW).size, (unhide HBW).block⟩⟩
      | false =>
        simp only [Bool.false_eq_true, if_false] at hst
        have HST := hide hst
        clear hst
        go_wp2_with fail
        go_quiet (fail)
        go_wp2
        go_roundw
        case rel => exact ⟨k + 1, by go_num, by omega, HST, unhide HBX, ⟨(unhide HBW).os, (unhide HBW).tape, (unhide HBW).output, (unhide HBW).size, (unhide HBW).block⟩⟩
        case measure => simp only [intOf]; omega
    · have hlti : ¬ (k : Int) < (n : Int) := by omega
      have hst := unhide HK
      rw [List.drop_eq_nil_of_le (by rw [← unhide HN]; omega), idxM] at hst
      have HST := hide hst
      have HBW := hide hbw
      clear hst hbx hbw
      go_wp2
      go_ret
      exact ⟨by rw [← unhide HST]; rfl, unhide HBW⟩
/-- Is it one of them? -/
def inM (f t : Int) (c : Nat) (L : List Mv) : Bool := L.any (eqM f t c)
theorem idxM_any (f t : Int) (c : Nat) : ∀ (L : List Mv) (k : Nat), decide (0 ≤ idxM f t c k L) = inM f t c L
  | [], k => by simp [idxM, inM]
  | m :: L, k => by
    rw [idxM]
    unfold inM
    rw [List.any_cons]
    cases h : eqM f t c m with
    | true => simp
    | false =>
      simp only [Bool.false_eq_true, if_false, Bool.false_or]
      exact idxM_any f t c L (k + 1)

set_option maxHeartbeats 1000000 in
theorem ContainsM_any (v : Value) (L : List Mv) (f t : Int) (c : Nat) (w : World) (h : isMvs w v L) :
    Calls Tryz.prog 32 #[v, .agg #[.int .i64 f, .int .i64 t, .int .u8 (c : Int)]] w fun e w' => e = .returned (.bool (inM f t c L)) ∧ Below w.heap.size w w' := by
  rw [← idxM_any f t c L 0]
  obtain ⟨wa, hwa⟩ : ∃ wa, wa = w.alloc (.cells #[.int .i64 f, .int .i64 t, .int .u8 (c : Int)] 29 (0, 0)) := ⟨_, rfl⟩
  have hba : Below w.heap.size w wa := by rw [hwa]; exact (Below.refl _ _).alloc (Nat.le_refl _) _
  have HI := hide (IndexM_any v L f t c wa (h.below hba))
  have HBA := hide hba
  clear h hba
  generalize idxM f t c 0 L = R at *
  go_enter Tryz.func32, Tryz.ntmps32
  go_wp2_with fail
  rw [← hwa]
  clear hwa
  refine (unhide HI).mono ?_
  rintro e w1 ⟨rfl, hb1⟩
  have HB1 := hide ((unhide HBA).trans (hb1.mono (unhide HBA).size))
  clear hb1
  go_wp2
  go_ret
  exact ⟨ret_bool rfl, unhide HB1⟩
end Go.Proofs.YtlogengkhlmcbaaGreatDoor

namespace Go.Proofs.YtlogengkhlmcbaaGreatDoor
open Go.RowKit
attribute [local go_sem ↓] Go.wp_at_zero Go.wp_at_succ

/-- A move in a box. -/
def isMb (w : World) (b : Nat) (f t c : Int) : Prop := w.heap[b]? = some (.cells #[.int .i64 f, .int .i64 t, .int .u8 c] 29 (0, 0))
theorem isMb.all {w : World} {b : Nat} {f t c : Int} (h : isMb w b f t c) : w.cell? ⟨b, 0, none⟩ = some (.int .i64 f) ∧ w.cell? ⟨b, 1, none⟩ = some (.int .i64 t) ∧ w.cell? ⟨b, 2, none⟩ = some (.int .u8 c) := by
  unfold isMb at h; simp [World.cell?, h]
theorem isMb.lt {w : World} {b : Nat} {f t c : Int} (h : isMb w b f t c) : b < w.heap.size := (Array.getElem?_eq_some_iff.1 h).1
theorem isMb.below {w w' : World} {b B0 : Nat} {f t c : Int} (h : isMb w b f t c) (hh : Below B0 w w') (hb : b < B0) : isMb w' b f t c := by
  unfold isMb at h ⊢; rw [hh.block b hb]; exact h

theorem entLi : ∀ args (u : World), (callFunc 48 args).run Tryz.prog u = .ok (.enter 48 args) u := enters_of Tryz.func48 (by kernel_rfl) rfl
theorem entCt : ∀ args (u : World), (callFunc 32 args).run Tryz.prog u = .ok (.enter 32 args) u := enters_of Tryz.func32 (by kernel_rfl) rfl
end Go.Proofs.YtlogengkhlmcbaaGreatDoor

namespace Go.Proofs.YtlogengkhlmcbaaGreatDoor
open Go.Maps (Keyed)
open Go.WideMaps (KeyLaw)
open Go.ChangeMaps (modify_eq_set setBlock heap_setBlock_same heap_setBlock_other)
open Go.MapKept (stamped_iff)
open Go.RowKit

/-- Keys of one shape. -/
structure KeyMk (P : Program) (k : TypeId) (α : Type) where
  val : α → Value
  lit : α → Lit
  ok : α → Prop
  key : ∀ a, ok a → keyOf P k (val a) = some (lit a)
  inv : ∀ v l, keyOf P k v = some l → ∃ a, v = val a ∧ ok a
  inj : ∀ a b, val a = val b → a = b

section
variable {P : Program} {k e t : TypeId} {α : Type} [DecidableEq α] {M : KeyMk P k α} {w : World} {b r : Nat} {l : List α} {left : Lit → Bool}

omit [DecidableEq α] in
theorem KeyMk.lit_inj (K : KeyLaw P k) {a c : α} (ha : M.ok a) (hc : M.ok c) (h : M.lit a = M.lit c) : a = c := by
  refine M.inj a c (K.inj (M.key a ha) ?_)
  rw [h]
  exact M.key c hc

/-- The map in block b tells of each key how often it stands in l; and it has no others. -/
def Told (M : KeyMk P k α) (D : DataW Unit) (l : List α) : Prop :=
  (∀ a, M.ok a → D.atKey (M.lit a) (.lit (.int .i64 0)) = .lit (.int .i64 (l.count a : Nat))) ∧ ∀ kl, Maps.has D kl = true ↔ ∃ a ∈ l, M.lit a = kl
def countsM (w : World) (M : KeyMk P k α) (e : TypeId) (b : Nat) (l : List α) : Prop :=
  (∀ a ∈ l, M.ok a) ∧ ∃ D : DataW Unit, w.ownsMap P k (plainElem P e) b l.length D ∧ Told M D l
def rangesM (w : World) (M : KeyMk P k α) (e : TypeId) (b r : Nat) (l : List α) (left : Lit → Bool) : Prop :=
  (∀ a ∈ l, M.ok a) ∧ ∃ (D : DataW Unit) (cnt : Nat), w.ranges P k (plainElem P e) b r l.length D left cnt ∧ Told M D l

theorem countsM_made (w : World) (M : KeyMk P k α) (e : TypeId) : countsM (w.alloc (.map #[] 0)) M e w.heap.size [] := by
  have h0 : ∀ a : α, a ∈ ([] : List α) → M.ok a := fun a h => by simp at h
  refine ⟨h0, .map [], World.ownsMap_made w P k (plainElem P e), ⟨fun a _ => by simp [DataW.atKey], fun kl => ?_⟩⟩
  simp [Maps.has]

theorem countsM.lt (h : countsM w M e b l) : b < w.heap.size := by
  obtain ⟨_, D, hown, _⟩ := h
  exact hown.lt

theorem countsM.kept {w' : World} {row : Option Nat} (h : countsM w M e b l) (hg : w.grownBy w' row) (hne : some b ≠ row) : countsM w' M e b l := by
  obtain ⟨h1, D, hown, h2⟩ := h
  exact ⟨h1, D, hown.kept hg hne, h2⟩

theorem countsM.of_block {w' : World} (h : countsM w M e b l) (hb : w'.heap[b]? = w.heap[b]?) : countsM w' M e b l := by
  obtain ⟨h1, D, ⟨es, clock, h3, h4⟩, h2⟩ := h
  exact ⟨h1, D, ⟨es, clock, hb.trans h3, h4⟩, h2⟩

theorem countsM.block {w' : World} (h : countsM w M e b l) (hb : Below w.heap.size w w') : countsM w' M e b l := h.of_block (hb.block b h.lt)

theorem told_perm {D : DataW Unit} {l l' : List α} (h : Told M D l) (hp : l.Perm l') : Told M D l' :=
  ⟨fun a ha => by rw [h.1 a ha, hp.count_eq], fun kl => by rw [h.2 kl]; constructor <;> (rintro ⟨a, ha, e1⟩; exact ⟨a, by first | exact hp.mem_iff.1 ha | exact hp.mem_iff.2 ha, e1⟩)⟩

theorem countsM.perm {l' : List α} (h : countsM w M e b l) (hp : l.Perm l') : countsM w M e b l' := by
  obtain ⟨h1, D, hown, h2⟩ := h
  exact ⟨fun a ha => h1 a (hp.mem_iff.2 ha), D, hp.length_eq ▸ hown, told_perm h2 hp⟩

theorem told_put (K : KeyLaw P k) {D : DataW Unit} (h : Told M D l) (hD : Maps.IsMap D) {a : α} (ha : M.ok a) (n : Nat) (hn : 1 ≤ n) :
    Told M (D.put (M.lit a) (.lit (.int .i64 ((l.count a + n : Nat) : Int)))) (l ++ List.replicate n a) := by
  have hkl := (Keyed.of_law K).key (M.key a ha)
  refine ⟨fun c hc => ?_, fun kl => ?_⟩
  · by_cases hac : c = a
    · subst hac
      rw [Maps.atKey_put_same hD hkl, List.count_append, List.count_replicate_self]
    · rw [Maps.atKey_put_other (fun e1 => hac (KeyMk.lit_inj K hc ha e1)), h.1 c hc, List.count_append, List.count_replicate, if_neg (by simp only [beq_iff_eq]; exact fun e1 => hac e1.symm), Nat.add_zero]
  · by_cases hk : kl = M.lit a
    · subst hk
      rw [Maps.has_put_same hD hkl]
      refine ⟨fun _ => ⟨a, ?_, rfl⟩, fun _ => rfl⟩
      rw [List.mem_append, List.mem_replicate]
      exact Or.inr ⟨by omega, rfl⟩
    · rw [Maps.has_put_other hk, h.2 kl]
      constructor
      · rintro ⟨c, hc, rfl⟩
        exact ⟨c, List.mem_append.2 (Or.inl hc), rfl⟩
      · rintro ⟨c, hc, rfl⟩
        rcases List.mem_append.1 hc with hc | hc
        · exact ⟨c, hc, rfl⟩
        · rw [(List.mem_replicate.1 hc).2] at hk
          exact absurd rfl hk

/-- 'm[k] = n' for a key that is not there. -/
theorem countsM.insert (K : KeyLaw P k) (ht : P.underlying t = some (.map k e)) (he : P.underlying e = some (.int .i64)) (h : countsM w M e b l) {a : α} (ha : M.ok a) (hn0 : l.count a = 0) (n : Nat) (hn : 1 ≤ n) (hr : l.length + n < 2 ^ 62) :
    ∃ w', (Instr.mapUpdate t (.map (some b)) (M.val a) (.int .i64 (n : Int))).run P w = .ok () w' ∧ countsM w' M e b (l ++ List.replicate n a) ∧ w.grownBy w' (some b) := by
  obtain ⟨h1, D, hown, h2⟩ := h
  obtain ⟨w', hrun, ho, hg⟩ := hown.update (Keyed.of_law K) ht (by unfold maxLen; omega) (M.key a ha) (plainElem_int (q := .i64) he (a := (n : Int)) (WalkArith.wf_i64 (by omega)))
  refine ⟨w', hrun, ⟨fun c hc => ?_, _, (ho.mono (by simp; omega)), ?_⟩, hg⟩
  · rcases List.mem_append.1 hc with hc | hc
    · exact h1 c hc
    · rw [(List.mem_replicate.1 hc).2]; exact ha
  · have := told_put K h2 hown.isMap ha n hn
    rwa [hn0, Nat.zero_add] at this

/-- 'm[k]'. -/
theorem countsM.look (K : KeyLaw P k) (ht : P.underlying t = some (.map k e)) (he : P.underlying e = some (.int .i64)) (hz : ∀ u : World, (zeroValue e).run P u = .ok (.int .i64 0) u) (h : countsM w M e b l) {a : α} (ha : M.ok a) :
    (Instr.lookup t (.map (some b)) (M.val a) false).run P w = .ok (.int .i64 (l.count a : Nat)) w := by
  obtain ⟨h1, D, hown, h2⟩ := h
  obtain ⟨c, hrun, hat, _⟩ := hown.lookup_int (Keyed.of_law K) ht he (hz w) (M.key a ha)
  rw [h2.1 a ha] at hat
  simp only [DataW.lit.injEq, Lit.int.injEq, true_and] at hat
  rw [hrun, hat]
/-- The entry of a has been made: what a look-up and a store at it do. -/
def enteredM (w : World) (M : KeyMk P k α) (e t : TypeId) (b : Nat) (l : List α) (a : α) (st : Nat) : Prop :=
  b < w.heap.size ∧ (Instr.lookup t (.map (some b)) (M.val a) false).run P w = .ok (.int .i64 (l.count a : Nat)) w ∧
    ∀ n : Nat, 1 ≤ n → l.length + n < 2 ^ 62 → ∃ w3, (Instr.entryStore t (.map (some b)) (goInt st) (.int .i64 ((l.count a + n : Nat) : Int))).run P w = .ok () w3 ∧ countsM w3 M e b (l ++ List.replicate n a) ∧ w.grownBy w3 (some b) ∧ w3.heap.size = w.heap.size
/-- What the making of an entry leaves is what a store of that element leaves. -/
theorem entry_update (K : KeyLaw P k) (ht : P.underlying t = some (.map k e)) {z : Value} (hz : ∀ u : World, (zeroValue e).run P u = .ok z u) {es : Array MapEntry} {clock : Nat} {R : Value → Option (DataW Unit × List MemPlace)} (hb : w.heap[b]? = some (.map es clock)) (F : Go.WideElems.Fit P k R es clock)
    {key : Value} {kl : Lit} (hkey : keyOf P k key = some kl) {v0 : Value} {st : Nat} {w1 : World} (hrun : (Instr.mapEntry t (.map (some b)) key).run P w = .ok (.tuple #[v0, goInt st]) w1) : (Instr.mapUpdate t (.map (some b)) key v0).run P w = .ok () w1 := by
  rcases K.find w hkey es.toList F.keys with ⟨h1, h2⟩ | ⟨j, e0, h1, h2, h3⟩
  · simp [Instr.mapEntry, run_underlying ht, MapKept.run_getObj_map hb, K.check w false hkey, h1, hz, MapKept.run_setObj_map _ hb, Result.andThen] at hrun
    obtain ⟨⟨rfl, _⟩, rfl⟩ := hrun
    simp [Instr.mapUpdate, run_underlying ht, MapKept.run_getObj_map hb, K.check w false hkey, h1, MapKept.run_setObj_map _ hb, Result.andThen]
  · have hj : es[j]? = some e0 := by simpa using h2
    simp [Instr.mapEntry, run_underlying ht, MapKept.run_getObj_map hb, K.check w false hkey, h1, hj, h3, K.stays w hkey, MapKept.run_setObj_map _ hb, Result.andThen] at hrun
    obtain ⟨⟨rfl, _⟩, rfl⟩ := hrun
    simp [Instr.mapUpdate, run_underlying ht, MapKept.run_getObj_map hb, K.check w false hkey, h1, hj, h3, K.stays w hkey, MapKept.run_setObj_map _ hb, Result.andThen]
    have hmod : (es.modify j fun e => { key := key, val := e0.val, born := e.born }) = es.modify j fun e => { key := key, val := e.val, born := e.born } := by
      apply Array.ext'
      rw [Array.toList_modify, Array.toList_modify, modify_eq_set _ _ _ _ h2, modify_eq_set _ _ _ _ h2]
    rw [hmod]
/-- 'm[k] += n': the entry's making and its store. -/
theorem countsM.entry (K : KeyLaw P k) (ht : P.underlying t = some (.map k e)) (he : P.underlying e = some (.int .i64)) (hz : ∀ u : World, (zeroValue e).run P u = .ok (.int .i64 0) u) (h : countsM w M e b l) (hlen : l.length < 2 ^ 61) {a : α} (ha : M.ok a) :
    ∃ (st : Nat) (w1 : World), (Instr.mapEntry t (.map (some b)) (M.val a)).run P w = .ok (.tuple #[.int .i64 (l.count a : Nat), goInt st]) w1 ∧ w.grownBy w1 (some b) ∧ w1.heap.size = w.heap.size ∧ enteredM w1 M e t b l a st := by
  obtain ⟨h1, D, hown, h2⟩ := h
  have hown0 := hown
  have hcl0 : l.count a ≤ l.length := List.count_le_length
  obtain ⟨es, clock, hb, F, hs, hD⟩ := hown
  obtain ⟨v0, st, es1, clock1, hrun, hv0, hst⟩ := Go.WideElems.entry_then_store K ht hz hb F (M.key a ha)
  have hat := h2.1 a ha
  have hv : v0 = .int .i64 (l.count a : Nat) := by
    rcases Maps.fit_look false (Keyed.of_law K) ht (hz w) hb F (M.key a ha) with ⟨_, hno, hq⟩ | ⟨e0, y, he0, hk0, _, hR, hq, _⟩
    · rcases hv0 with ⟨e0, he0, hk0, _⟩ | ⟨_, rfl⟩
      · exact absurd hk0 (hno e0 he0)
      · rw [hD, hq] at hat
        simp only [DataW.lit.injEq, Lit.int.injEq, true_and] at hat
        rw [← hat]
    · rcases hv0 with ⟨e1, he1, hk1, rfl⟩ | ⟨hno, _⟩
      · have := entry_eq_of_key (((stamped_iff es clock).1 F.stamped).2.2) he0 he1 (hk0.trans hk1.symm)
        subst this
        obtain ⟨c, hc, rfl, _⟩ := plainElem_int_inv he hR
        rw [hD, hq] at hat
        simp only [DataW.lit.injEq, Lit.int.injEq, true_and] at hat
        rw [hc, hat]
      · exact absurd hk0 (hno e0 he0)
  subst hv
  have hb1 := heap_setBlock_same hb (.map es1 clock1)
  refine ⟨st, _, hrun, ⟨rfl, rfl, rfl, by simp [setBlock], fun i _ hi => heap_setBlock_other hb _ (fun e => hi (by rw [e]))⟩, by simp [setBlock], ?_, ?_, fun n hn hr => ?_⟩
  · simp only [setBlock, Array.size_setIfInBounds]
    exact hown0.lt
  · obtain ⟨w', hr3, ho, _⟩ := hown0.update (Keyed.of_law K) ht (by unfold maxLen; omega) (M.key a ha) (plainElem_int (q := .i64) he (a := (l.count a : Nat)) (WalkArith.wf_i64 (by omega)))
    rw [entry_update K ht hz hb F (M.key a ha) hrun] at hr3
    cases hr3
    obtain ⟨c, hr4, hat4, _⟩ := ho.lookup_int (Keyed.of_law K) ht he (hz _) (M.key a ha)
    rw [Maps.atKey_put_same hown0.isMap ((Keyed.of_law K).key (M.key a ha))] at hat4
    simp only [DataW.lit.injEq, Lit.int.injEq, true_and] at hat4
    rw [hr4, hat4]
  obtain ⟨es', clock', hrun1, hrun2⟩ := hst (setBlock w b (.map es1 clock1)) (.int .i64 ((l.count a + n : Nat) : Int)) hb1
  have hcl : l.count a ≤ l.length := List.count_le_length
  obtain ⟨w', hrun3, ho, hg⟩ := hown0.update (Keyed.of_law K) ht (by unfold maxLen; omega) (M.key a ha) (plainElem_int (q := .i64) he (a := ((l.count a + n : Nat) : Int)) (WalkArith.wf_i64 (by omega)))
  rw [hrun2] at hrun3
  cases hrun3
  refine ⟨_, hrun1, ⟨fun c hc => ?_, _, ?_, told_put K h2 hown0.isMap ha n hn⟩, ⟨rfl, rfl, rfl, by simp [setBlock], fun i _ hi => heap_setBlock_other hb1 _ (fun e => hi (by rw [e]))⟩, by simp [setBlock]⟩
  · rcases List.mem_append.1 hc with hc | hc
    · exact h1 c hc
    · rw [(List.mem_replicate.1 hc).2]; exact ha
  · have ho2 : (setBlock (setBlock w b (.map es1 clock1)) b (.map es' clock')).ownsMap P k (plainElem P e) b (l.length + 1) (D.put (M.lit a) (.lit (.int .i64 ((l.count a + n : Nat) : Int)))) := by
      obtain ⟨es2, clock2, h5, h6⟩ := ho
      rw [heap_setBlock_same hb] at h5
      exact ⟨es2, clock2, (heap_setBlock_same hb1 _).trans h5, h6⟩
    exact ho2.mono (by simp; omega)

/-- The range begins. -/
theorem countsM.range (K : KeyLaw P k) (ht : P.underlying t = some (.map k e)) (h : countsM w M e b l) :
    ∃ w', (Instr.range t (.map (some b))).run P w = .ok (.pointer (some ⟨w.heap.size, 0, none⟩)) w' ∧ (∃ left, rangesM w' M e b w.heap.size l left ∧ ∀ a ∈ l, left (M.lit a) = true) ∧ w.grownBy w' none ∧ w'.heap.size = w.heap.size + 1 := by
  obtain ⟨h1, D, hown, h2⟩ := h
  obtain ⟨w', hrun, hr, hg, hs⟩ := hown.range (Keyed.of_law K) ht
  exact ⟨w', hrun, ⟨_, ⟨h1, D, _, hr, h2⟩, fun a ha => (h2.2 _).2 ⟨a, ha, rfl⟩⟩, hg, hs⟩

theorem rangesM.counts (h : rangesM w M e b r l left) : countsM w M e b l := by
  obtain ⟨h1, D, cnt, hr, h2⟩ := h
  exact ⟨h1, D, hr.owns, h2⟩

theorem rangesM.kept {w' : World} {row : Option Nat} (h : rangesM w M e b r l left) (hg : w.grownBy w' row) (hb' : some b ≠ row) (hr' : some r ≠ row) : rangesM w' M e b r l left := by
  obtain ⟨h1, D, cnt, hr, h2⟩ := h
  exact ⟨h1, D, cnt, hr.kept hg hb' hr', h2⟩

theorem rangesM.of_blocks {w' : World} (h : rangesM w M e b r l left) (hb : w'.heap[b]? = w.heap[b]?) (hr : w'.heap[r]? = w.heap[r]?) : rangesM w' M e b r l left := by
  obtain ⟨h1, D, cnt, ⟨es, clock, since, seen, c0, q1, q2, q3, q4, q5, q6⟩, h2⟩ := h
  exact ⟨h1, D, cnt, ⟨es, clock, since, seen, c0, hb.trans q1, q2, q3, q4, hr.trans q5, q6⟩, h2⟩

theorem rangesM.lt (h : rangesM w M e b r l left) : r < w.heap.size := by
  obtain ⟨h1, D, cnt, hr, h2⟩ := h
  exact hr.lt
theorem rangesM.ne (h : rangesM w M e b r l left) : r ≠ b := by
  obtain ⟨h1, D, cnt, hr, h2⟩ := h
  exact hr.ne

end

section
variable {P : Program} {α : Type} [DecidableEq α] (w : World) {ops : Array Oper} {rest : List Oper} {o : Oper} {a : Act} {Q : Exit → Act → World → Prop}

theorem wpList_range_M (hg : o.guard = none) (m : Operand) (t : TypeId) (hop : o.op = Op.range t m) (k e : TypeId) (M : KeyMk P k α) (K : KeyLaw P k) (ht : P.underlying t = some (.map k e)) (b : Nat) (l : List α)
    (hm : a.eval m = .map (some b)) (h : countsM w M e b l)
    (hK : ∀ w' left, rangesM w' M e b w.heap.size l left → (∀ c ∈ l, left (M.lit c) = true) → w.grownBy w' none → w'.heap.size = w.heap.size + 1 → wpList P ops Q rest (a.put o.dst (.pointer (some ⟨w.heap.size, 0, none⟩))) w') :
    wpList P ops Q (o :: rest) a w := by
  refine wpList_plain hg fun K' hK' => ?_
  obtain ⟨w', hrun, ⟨left, r1, r2⟩, r3, r4⟩ := h.range K ht
  unfold Oper.wp
  simp [execOp, hop, hm, hrun, Result.andThen]
  exact hK' _ _ (hK w' left r1 r2 r3 r4)

theorem wpList_next_M (hg : o.guard = none) (it : Operand) (hop : o.op = Op.next it false) (k e : TypeId) (M : KeyMk P k α) (K : KeyLaw P k) (he : P.underlying e = some (.int .i64)) (b r : Nat) (l : List α) (left : Lit → Bool)
    (hit : a.eval it = .pointer (some ⟨r, 0, none⟩)) (h : rangesM w M e b r l left)
    (hDone : (∀ kl, left kl = false) → wpList P ops Q rest (a.put o.dst (.tuple #[.bool false])) w)
    (hMore : ∀ (c : α) (w' : World), c ∈ l → left (M.lit c) = true → rangesM w' M e b r l (fun z => left z && !z.sameKey (M.lit c)) → w'.rangeLeft b r < w.rangeLeft b r → w.grownBy w' (some r) → w'.heap.size = w.heap.size →
      (Instr.entry (.pointer (some ⟨r, 0, none⟩))).run P w' = .ok (.tuple #[M.val c, .int .i64 (l.count c : Nat)]) w' → wpList P ops Q rest (a.put o.dst (.tuple #[.bool true, M.val c, .int .i64 (l.count c : Nat)])) w') :
    wpList P ops Q (o :: rest) a w := by
  obtain ⟨h1, D, cnt, hr, h2⟩ := h
  refine wpList_next_ranges w hg it hop k (Keyed.of_law K) (plainElem P e) M.val (Value.int .i64) (fun v kl hk => by obtain ⟨c, e1, _⟩ := M.inv v kl hk; exact ⟨c, e1⟩) (fun v y hv => by obtain ⟨c, rfl, _⟩ := plainElem_int_inv he hv; exact ⟨c, rfl⟩) b r l.length D left cnt hit hr (fun _ hl => hDone hl) ?_
  intro x c kl y w' cnt' hkey hlk hv hat hrg hlt hgr hsz hen
  obtain ⟨x', e1, hx⟩ := M.inv _ _ hkey
  cases M.inj _ _ e1
  have e2 : kl = M.lit x := by rw [M.key x hx] at hkey; exact (Option.some.inj hkey).symm
  subst e2
  have hin : x ∈ l := by
    obtain ⟨z, hz, e3⟩ := (h2.2 _).1 (Maps.has_true_of_atKey hat)
    rw [← KeyMk.lit_inj K (h1 z hz) hx e3]
    exact hz
  obtain ⟨c', e4, rfl, _⟩ := plainElem_int_inv he hv
  cases e4
  have e5 := h2.1 x hx
  rw [hat] at e5
  simp only [DataW.lit.injEq, Lit.int.injEq, true_and] at e5
  subst e5
  exact hMore x w' hin hlk ⟨h1, D, cnt', hrg, h2⟩ (by rw [hrg.left_eq, hr.left_eq]; exact hlt) hgr hsz hen
end

/-! What has been gone through. -/
section
variable {α : Type} [DecidableEq α]
def gone (left : Lit → Bool) (lit : α → Lit) (l : List α) : List α := l.filter (fun a => !left (lit a))
omit [DecidableEq α] in
theorem gone_start {left : Lit → Bool} {lit : α → Lit} {l : List α} (h : ∀ a ∈ l, left (lit a) = true) : gone left lit l = [] :=
  List.filter_eq_nil_iff.2 (fun a ha => by simp [h a ha])
omit [DecidableEq α] in
theorem gone_end {left : Lit → Bool} {lit : α → Lit} {l : List α} (h : ∀ kl, left kl = false) : gone left lit l = l :=
  List.filter_eq_self.2 (fun a _ => by simp [h])
theorem gone_step {left : Lit → Bool} {lit : α → Lit} {l : List α} {a : α} (hl : left (lit a) = true) (hs : ∀ c ∈ l, (lit c).sameKey (lit a) = decide (c = a)) :
    (gone (fun z => left z && !z.sameKey (lit a)) lit l).Perm (gone left lit l ++ List.replicate (l.count a) a) := by
  rw [List.perm_iff_count]
  intro c
  rw [List.count_append, List.count_replicate]
  unfold gone
  by_cases hc : c ∈ l
  · have e2 := hs c hc
    by_cases hca : c = a
    · subst hca
      have q1 : (l.filter (fun x => !left (lit x))).count c = 0 := List.count_eq_zero.2 (fun h => by have := (List.mem_filter.1 h).2; simp [hl] at this)
      rw [List.count_filter (by simp [e2]), q1]
      simp
    · have h3 : ¬ a = c := fun e1 => hca e1.symm
      have h4 : (lit c).sameKey (lit a) = false := by rw [e2]; simp [hca]
      by_cases h5 : left (lit c) = true
      · have q1 : (l.filter (fun x => !left (lit x))).count c = 0 := List.count_eq_zero.2 (fun h => by have := (List.mem_filter.1 h).2; simp [h5] at this)
        have q2 : (l.filter (fun x => !(left (lit x) && !(lit x).sameKey (lit a)))).count c = 0 := List.count_eq_zero.2 (fun h => by have := (List.mem_filter.1 h).2; simp [h5, h4] at this)
        rw [q1, q2]
        simp [h3]
      · rw [List.count_filter (by simp [h5]), List.count_filter (by simp [h5])]
        simp [h3]
  · have e1 : ∀ p : α → Bool, (l.filter p).count c = 0 := fun p => List.count_eq_zero.2 (fun h => hc (List.mem_filter.1 h).1)
    rw [e1, e1]
    by_cases hca : a = c
    · subst hca
      simp [List.count_eq_zero.2 hc]
    · simp [hca]
end
end Go.Proofs.YtlogengkhlmcbaaGreatDoor
