/-
  Maps that count: keys of one shape, elements that tell how often each stands in a list.
  Positions as keys of maps.
-/
import Derived.Maps.RangeWalk
import Derived.Maps.OwnSet
import Derived.WideKeyEntry
import Derived.WalkKit
import Derived.DeepKeys4
namespace Go.Proofs.YtbijadnekoeofaaGreatDoor
open Go.Maps (Keyed)
open Go.WideMaps (KeyLaw)
open Go.ChangeMaps (modify_eq_set setBlock heap_setBlock_same heap_setBlock_other)
open Go.MapKept (stamped_iff)
open Go.RowKit

/-- Keys of one shape. -/
structure KeyMk (P : Program) (k : TypeId) (α : Type) where
  val : α → Value
  lit : α → Lit
  ok : α → Prop
  key : ∀ a, ok a → keyOf P k (val a) = some (lit a)
  inv : ∀ v l, keyOf P k v = some l → ∃ a, v = val a ∧ ok a
  inj : ∀ a b, val a = val b → a = b

section
variable {P : Program} {k e t : TypeId} {α : Type} [DecidableEq α] {M : KeyMk P k α} {w : World} {b r : Nat} {l : List α} {left : Lit → Bool}

omit [DecidableEq α] in
theorem KeyMk.lit_inj (K : KeyLaw P k) {a c : α} (ha : M.ok a) (hc : M.ok c) (h : M.lit a = M.lit c) : a = c := by
  refine M.inj a c (K.inj (M.key a ha) ?_)
  rw [h]
  exact M.key c hc

/-- The map in block b tells of each key how often it stands in l; and it has no others. -/
def Told (M : KeyMk P k α) (D : DataW Unit) (l : List α) : Prop :=
  (∀ a, M.ok a → D.atKey (M.lit a) (.lit (.int .i64 0)) = .lit (.int .i64 (l.count a : Nat))) ∧ ∀ kl, Maps.has D kl = true ↔ ∃ a ∈ l, M.lit a = kl
def countsM (w : World) (M : KeyMk P k α) (e : TypeId) (b : Nat) (l : List α) : Prop :=
  (∀ a ∈ l, M.ok a) ∧ ∃ D : DataW Unit, w.ownsMap P k (plainElem P e) b l.length D ∧ Told M D l
def rangesM (w : World) (M : KeyMk P k α) (e : TypeId) (b r : Nat) (l : List α) (left : Lit → Bool) : Prop :=
  (∀ a ∈ l, M.ok a) ∧ ∃ (D : DataW Unit) (cnt : Nat), w.ranges P k (plainElem P e) b r l.length D left cnt ∧ Told M D l

theorem countsM.lt (h : countsM w M e b l) : b < w.heap.size := by
  obtain ⟨_, D, hown, _⟩ := h
  exact hown.lt

theorem countsM.kept {w' : World} {row : Option Nat} (h : countsM w M e b l) (hg : w.grownBy w' row) (hne : some b ≠ row) : countsM w' M e b l := by
  obtain ⟨h1, D, hown, h2⟩ := h
  exact ⟨h1, D, hown.kept hg hne, h2⟩

theorem countsM.of_block {w' : World} (h : countsM w M e b l) (hb : w'.heap[b]? = w.heap[b]?) : countsM w' M e b l := by
  obtain ⟨h1, D, ⟨es, clock, h3, h4⟩, h2⟩ := h
  exact ⟨h1, D, ⟨es, clock, hb.trans h3, h4⟩, h2⟩

theorem countsM.block {w' : World} (h : countsM w M e b l) (hb : Below w.heap.size w w') : countsM w' M e b l := h.of_block (hb.block b h.lt)

theorem told_perm {D : DataW Unit} {l l' : List α} (h : Told M D l) (hp : l.Perm l') : Told M D l' :=
  ⟨fun a ha => by rw [h.1 a ha, hp.count_eq], fun kl => by rw [h.2 kl]; constructor <;> (rintro ⟨a, ha, e1⟩; exact ⟨a, by first | exact hp.mem_iff.1 ha | exact hp.mem_iff.2 ha, e1⟩)⟩

theorem countsM.perm {l' : List α} (h : countsM w M e b l) (hp : l.Perm l') : countsM w M e b l' := by
  obtain ⟨h1, D, hown, h2⟩ := h
  exact ⟨fun a ha => h1 a (hp.mem_iff.2 ha), D, hp.length_eq ▸ hown, told_perm h2 hp⟩

theorem told_put (K : KeyLaw P k) {D : DataW Unit} (h : Told M D l) (hD : Maps.IsMap D) {a : α} (ha : M.ok a) (n : Nat) (hn : 1 ≤ n) :
    Told M (D.put (M.lit a) (.lit (.int .i64 ((l.count a + n : Nat) : Int)))) (l ++ List.replicate n a) := by
  have hkl := (Keyed.of_law K).key (M.key a ha)
  refine ⟨fun c hc => ?_, fun kl => ?_⟩
  · by_cases hac : c = a
    · subst hac
      rw [Maps.atKey_put_same hD hkl, List.count_append, List.count_replicate_self]
    · rw [Maps.atKey_put_other (fun e1 => hac (KeyMk.lit_inj K hc ha e1)), h.1 c hc, List.count_append, List.count_replicate, if_neg (by simp only [beq_iff_eq]; exact fun e1 => hac e1.symm), Nat.add_zero]
  · by_cases hk : kl = M.lit a
    · subst hk
      rw [Maps.has_put_same hD hkl]
      refine ⟨fun _ => ⟨a, ?_, rfl⟩, fun _ => rfl⟩
      rw [List.mem_append, List.mem_replicate]
      exact Or.inr ⟨by omega, rfl⟩
    · rw [Maps.has_put_other hk, h.2 kl]
      constructor
      · rintro ⟨c, hc, rfl⟩
        exact ⟨c, List.mem_append.2 (Or.inl hc), rfl⟩
      · rintro ⟨c, hc, rfl⟩
        rcases List.mem_append.1 hc with hc | hc
        · exact ⟨c, hc, rfl⟩
        · rw [(List.mem_replicate.1 hc).2] at hk
          exact absurd rfl hk

/-- 'm[k]'. -/
theorem countsM.look (K : KeyLaw P k) (ht : P.underlying t = some (.map k e)) (he : P.underlying e = some (.int .i64)) (hz : ∀ u : World, (zeroValue e).run P u = .ok (.int .i64 0) u) (h : countsM w M e b l) {a : α} (ha : M.ok a) :
    (Instr.lookup t (.map (some b)) (M.val a) false).run P w = .ok (.int .i64 (l.count a : Nat)) w := by
  obtain ⟨h1, D, hown, h2⟩ := h
  obtain ⟨c, hrun, hat, _⟩ := hown.lookup_int (Keyed.of_law K) ht he (hz w) (M.key a ha)
  rw [h2.1 a ha] at hat
  simp only [DataW.lit.injEq, Lit.int.injEq, true_and] at hat
  rw [hrun, hat]
/-- The entry of a has been made: what a look-up and a store at it do. -/
def enteredM (w : World) (M : KeyMk P k α) (e t : TypeId) (b : Nat) (l : List α) (a : α) (st : Nat) : Prop :=
  b < w.heap.size ∧ (Instr.lookup t (.map (some b)) (M.val a) false).run P w = .ok (.int .i64 (l.count a : Nat)) w ∧
    ∀ n : Nat, 1 ≤ n → l.length + n < 2 ^ 62 → ∃ w3, (Instr.entryStore t (.map (some b)) (goInt st) (.int .i64 ((l.count a + n : Nat) : Int))).run P w = .ok () w3 ∧ countsM w3 M e b (l ++ List.replicate n a) ∧ w.grownBy w3 (some b) ∧ w3.heap.size = w.heap.size
/-- What the making of an entry leaves is what a store of that element leaves. -/
theorem entry_update (K : KeyLaw P k) (ht : P.underlying t = some (.map k e)) {z : Value} (hz : ∀ u : World, (zeroValue e).run P u = .ok z u) {es : Array MapEntry} {clock : Nat} {R : Value → Option (DataW Unit × List MemPlace)} (hb : w.heap[b]? = some (.map es clock)) (F : Go.WideElems.Fit P k R es clock)
    {key : Value} {kl : Lit} (hkey : keyOf P k key = some kl) {v0 : Value} {st : Nat} {w1 : World} (hrun : (Instr.mapEntry t (.map (some b)) key).run P w = .ok (.tuple #[v0, goInt st]) w1) : (Instr.mapUpdate t (.map (some b)) key v0).run P w = .ok () w1 := by
  rcases K.find w hkey es.toList F.keys with ⟨h1, h2⟩ | ⟨j, e0, h1, h2, h3⟩
  · simp [Instr.mapEntry, run_underlying ht, MapKept.run_getObj_map hb, K.check w false hkey, h1, hz, MapKept.run_setObj_map _ hb, Result.andThen] at hrun
    obtain ⟨⟨rfl, _⟩, rfl⟩ := hrun
    simp [Instr.mapUpdate, run_underlying ht, MapKept.run_getObj_map hb, K.check w false hkey, h1, MapKept.run_setObj_map _ hb, Result.andThen]
  · have hj : es[j]? = some e0 := by simpa using h2
    simp [Instr.mapEntry, run_underlying ht, MapKept.run_getObj_map hb, K.check w false hkey, h1, hj, h3, K.stays w hkey, MapKept.run_setObj_map _ hb, Result.andThen] at hrun
    obtain ⟨⟨rfl, _⟩, rfl⟩ := hrun
    simp [Instr.mapUpdate, run_underlying ht, MapKept.run_getObj_map hb, K.check w false hkey, h1, hj, h3, K.stays w hkey, MapKept.run_setObj_map _ hb, Result.andThen]
    have hmod : (es.modify j fun e => { key := key, val := e0.val, born := e.born }) = es.modify j fun e => { key := key, val := e.val, born := e.born } := by
      apply Array.ext'
      rw [Array.toList_modify, Array.toList_modify, modify_eq_set _ _ _ _ h2, modify_eq_set _ _ _ _ h2]
    rw [hmod]
/-- 'm[k] += n': the entry's making and its store. -/
theorem countsM.entry (K : KeyLaw P k) (ht : P.underlying t = some (.map k e)) (he : P.underlying e = some (.int .i64)) (hz : ∀ u : World, (zeroValue e).run P u = .ok (.int .i64 0) u) (h : countsM w M e b l) (hlen : l.length < 2 ^ 61) {a : α} (ha : M.ok a) :
    ∃ (st : Nat) (w1 : World), (Instr.mapEntry t (.map (some b)) (M.val a)).run P w = .ok (.tuple #[.int .i64 (l.count a : Nat), goInt st]) w1 ∧ w.grownBy w1 (some b) ∧ w1.heap.size = w.heap.size ∧ enteredM w1 M e t b l a st := by
  obtain ⟨h1, D, hown, h2⟩ := h
  have hown0 := hown
  have hcl0 : l.count a ≤ l.length := List.count_le_length
  obtain ⟨es, clock, hb, F, hs, hD⟩ := hown
  obtain ⟨v0, st, es1, clock1, hrun, hv0, hst⟩ := Go.WideElems.entry_then_store K ht hz hb F (M.key a ha)
  have hat := h2.1 a ha
  have hv : v0 = .int .i64 (l.count a : Nat) := by
    rcases Maps.fit_look false (Keyed.of_law K) ht (hz w) hb F (M.key a ha) with ⟨_, hno, hq⟩ | ⟨e0, y, he0, hk0, _, hR, hq, _⟩
    · rcases hv0 with ⟨e0, he0, hk0, _⟩ | ⟨_, rfl⟩
      · exact absurd hk0 (hno e0 he0)
      · rw [hD, hq] at hat
        simp only [DataW.lit.injEq, Lit.int.injEq, true_and] at hat
        rw [← hat]
    · rcases hv0 with ⟨e1, he1, hk1, rfl⟩ | ⟨hno, _⟩
      · have := entry_eq_of_key (((stamped_iff es clock).1 F.stamped).2.2) he0 he1 (hk0.trans hk1.symm)
        subst this
        obtain ⟨c, hc, rfl, _⟩ := plainElem_int_inv he hR
        rw [hD, hq] at hat
        simp only [DataW.lit.injEq, Lit.int.injEq, true_and] at hat
        rw [hc, hat]
      · exact absurd hk0 (hno e0 he0)
  subst hv
  have hb1 := heap_setBlock_same hb (.map es1 clock1)
  refine ⟨st, _, hrun, ⟨rfl, rfl, rfl, by simp [setBlock], fun i _ hi => heap_setBlock_other hb _ (fun e => hi (by rw [e]))⟩, by simp [setBlock], ?_, ?_, fun n hn hr => ?_⟩
  · simp only [setBlock, Array.size_setIfInBounds]
    exact hown0.lt
  · obtain ⟨w', hr3, ho, _⟩ := hown0.update (Keyed.of_law K) ht (by unfold maxLen; omega) (M.key a ha) (plainElem_int (q := .i64) he (a := (l.count a : Nat)) (WalkArith.wf_i64 (by omega)))
    rw [entry_update K ht hz hb F (M.key a ha) hrun] at hr3
    cases hr3
    obtain ⟨c, hr4, hat4, _⟩ := ho.lookup_int (Keyed.of_law K) ht he (hz _) (M.key a ha)
    rw [Maps.atKey_put_same hown0.isMap ((Keyed.of_law K).key (M.key a ha))] at hat4
    simp only [DataW.lit.injEq, Lit.int.injEq, true_and] at hat4
    rw [hr4, hat4]
  obtain ⟨es', clock', hrun1, hrun2⟩ := hst (setBlock w b (.map es1 clock1)) (.int .i64 ((l.count a + n : Nat) : Int)) hb1
  have hcl : l.count a ≤ l.length := List.count_le_length
  obtain ⟨w', hrun3, ho, hg⟩ := hown0.update (Keyed.of_law K) ht (by unfold maxLen; omega) (M.key a ha) (plainElem_int (q := .i64) he (a := ((l.count a + n : Nat) : Int)) (WalkArith.wf_i64 (by omega)))
  rw [hrun2] at hrun3
  cases hrun3
  refine ⟨_, hrun1, ⟨fun c hc => ?_, _, ?_, told_put K h2 hown0.isMap ha n hn⟩, ⟨rfl, rfl, rfl, by simp [setBlock], fun i _ hi => heap_setBlock_other hb1 _ (fun e => hi (by rw [e]))⟩, by simp [setBlock]⟩
  · rcases List.mem_append.1 hc with hc | hc
    · exact h1 c hc
    · rw [(List.mem_replicate.1 hc).2]; exact ha
  · have ho2 : (setBlock (setBlock w b (.map es1 clock1)) b (.map es' clock')).ownsMap P k (plainElem P e) b (l.length + 1) (D.put (M.lit a) (.lit (.int .i64 ((l.count a + n : Nat) : Int)))) := by
      obtain ⟨es2, clock2, h5, h6⟩ := ho
      rw [heap_setBlock_same hb] at h5
      exact ⟨es2, clock2, (heap_setBlock_same hb1 _).trans h5, h6⟩
    exact ho2.mono (by simp; omega)

/-- The range begins. -/
theorem countsM.range (K : KeyLaw P k) (ht : P.underlying t = some (.map k e)) (h : countsM w M e b l) :
    ∃ w', (Instr.range t (.map (some b))).run P w = .ok (.pointer (some ⟨w.heap.size, 0, none⟩)) w' ∧ (∃ left, rangesM w' M e b w.heap.size l left ∧ ∀ a ∈ l, left (M.lit a) = true) ∧ w.grownBy w' none ∧ w'.heap.size = w.heap.size + 1 := by
  obtain ⟨h1, D, hown, h2⟩ := h
  obtain ⟨w', hrun, hr, hg, hs⟩ := hown.range (Keyed.of_law K) ht
  exact ⟨w', hrun, ⟨_, ⟨h1, D, _, hr, h2⟩, fun a ha => (h2.2 _).2 ⟨a, ha, rfl⟩⟩, hg, hs⟩

theorem rangesM.kept {w' : World} {row : Option Nat} (h : rangesM w M e b r l left) (hg : w.grownBy w' row) (hb' : some b ≠ row) (hr' : some r ≠ row) : rangesM w' M e b r l left := by
  obtain ⟨h1, D, cnt, hr, h2⟩ := h
  exact ⟨h1, D, cnt, hr.kept hg hb' hr', h2⟩

theorem rangesM.lt (h : rangesM w M e b r l left) : r < w.heap.size := by
  obtain ⟨h1, D, cnt, hr, h2⟩ := h
  exact hr.lt
theorem rangesM.ne (h : rangesM w M e b r l left) : r ≠ b := by
  obtain ⟨h1, D, cnt, hr, h2⟩ := h
  exact hr.ne

end

section
variable {P : Program} {α : Type} [DecidableEq α] (w : World) {ops : Array Oper} {rest : List Oper} {o : Oper} {a : Act} {Q : Exit → Act → World → Prop}

end

/-! What has been gone through. -/
section
variable {α : Type} [DecidableEq α]
def gone (left : Lit → Bool) (lit : α → Lit) (l : List α) : List α := l.filter (fun a => !left (lit a))
omit [DecidableEq α] in
omit [DecidableEq α] in
end
end Go.Proofs.YtbijadnekoeofaaGreatDoor

namespace Go.Proofs.YtbijadnekoeofaaGreatDoor
open Go.RowKit

/-- A position, as a value. -/
structure Po where
  W : Int
  H : Int
  C : ByteArray
  T : Int
  A : ByteArray
  B : ByteArray
  deriving DecidableEq
def Po.cells (p : Po) : List Value := [.int .i64 p.W, .int .i64 p.H, .string p.C, .int .i64 p.T, .string p.A, .string p.B]
def Po.val (p : Po) : Value := .agg #[.int .i64 p.W, .int .i64 p.H, .string p.C, .int .i64 p.T, .string p.A, .string p.B]
def Po.lits (p : Po) : List Lit := [.int .i64 p.W, .int .i64 p.H, .string p.C.data.toList, .int .i64 p.T, .string p.A.data.toList, .string p.B.data.toList]
structure Po.ok (p : Po) : Prop where
  w : (Lit.int .i64 p.W).wf = true
  h : (Lit.int .i64 p.H).wf = true
  t : (Lit.int .i64 p.T).wf = true
  c : p.C.size ≤ maxLen
  a : p.A.size ≤ maxLen
  b : p.B.size ≤ maxLen
theorem Po.val_inj (p q : Po) (h : p.val = q.val) : p = q := by
  unfold Po.val at h
  simp only [Value.agg.injEq, Array.mk.injEq, List.cons.injEq, Value.int.injEq, Value.string.injEq, true_and, and_true] at h
  cases p; cases q
  simp_all

theorem keyLits_i64 {P : Program} {t : TypeId} (ht : P.underlying t = some (.int .i64)) (d : Nat) {c : Value} {L : List Lit} (h : P.keyLits (d + 1) t [c] = some L) : ∃ n, c = .int .i64 n ∧ (Lit.int .i64 n).wf = true ∧ L = [.int .i64 n] := by
  unfold Program.keyLits at h
  rw [ht] at h
  cases c <;> simp at h
  obtain ⟨⟨rfl, h1⟩, rfl⟩ := h
  exact ⟨_, rfl, h1, rfl⟩
theorem keyLits_i64_mk {P : Program} {t : TypeId} (ht : P.underlying t = some (.int .i64)) (d : Nat) {n : Int} (hn : (Lit.int .i64 n).wf = true) : P.keyLits (d + 1) t [.int .i64 n] = some [.int .i64 n] := by
  unfold Program.keyLits
  simp [ht, hn]
theorem keyLits_str {P : Program} {t : TypeId} (ht : P.underlying t = some .string) (d : Nat) {c : Value} {L : List Lit} (h : P.keyLits (d + 1) t [c] = some L) : ∃ s, c = .string s ∧ s.size ≤ maxLen ∧ L = [.string s.data.toList] := by
  unfold Program.keyLits at h
  rw [ht] at h
  cases c <;> simp at h
  exact ⟨_, rfl, h.1, h.2.symm⟩
theorem keyLits_str_mk {P : Program} {t : TypeId} (ht : P.underlying t = some .string) (d : Nat) {s : ByteArray} (hs : s.size ≤ maxLen) : P.keyLits (d + 1) t [.string s] = some [.string s.data.toList] := by
  unfold Program.keyLits
  simp [ht, hs]
theorem keyLits_two {P : Program} {t e : TypeId} (ht : P.underlying t = some (.array 2 e)) (ct : P.cellsOf t = 2) (ce : P.cellsOf e = 1) (d : Nat) {a b : Value} : P.keyLits (d + 2) t [a, b] = ((P.keyLits (d + 1) e [a]).bind fun x => (P.keyLits (d + 1) e [b]).map fun y => x ++ y) := by
  conv => lhs; unfold Program.keyLits
  rw [ht]
  simp only [ct, ce]
  simp [List.range_succ]
  cases P.keyLits (d + 1) e [a] <;> simp
  cases P.keyLits (d + 1) e [b] <;> simp

/-- What the key's type is. -/
structure PoType (P : Program) (tp ti ts ta : TypeId) (f0 f1 f2 f3 f4 : Field) : Prop where
  hp : P.underlying tp = some (.struct #[f0, f1, f2, f3, f4])
  n : (#[f0, f1, f2, f3, f4] : Array Field).all (·.name != "_") = true
  t0 : f0.type = ti ∧ f0.offset = 0
  t1 : f1.type = ti ∧ f1.offset = 1
  t2 : f2.type = ts ∧ f2.offset = 2
  t3 : f3.type = ti ∧ f3.offset = 3
  t4 : f4.type = ta ∧ f4.offset = 4
  hi : P.underlying ti = some (.int .i64)
  hs : P.underlying ts = some .string
  ha : P.underlying ta = some (.array 2 ts)
  cp : P.cellsOf tp = 6
  ci : P.cellsOf ti = 1
  cs : P.cellsOf ts = 1
  ca : P.cellsOf ta = 2

theorem keyLits_po {P : Program} {tp ti ts ta : TypeId} {f0 f1 f2 f3 f4 : Field} (h : PoType P tp ti ts ta f0 f1 f2 f3 f4) (d : Nat) (c0 c1 c2 c3 c4 c5 : Value) : P.keyLits (d + 3) tp [c0, c1, c2, c3, c4, c5] =
    ((P.keyLits (d + 2) ti [c0]).bind fun x0 => (P.keyLits (d + 2) ti [c1]).bind fun x1 => (P.keyLits (d + 2) ts [c2]).bind fun x2 => (P.keyLits (d + 2) ti [c3]).bind fun x3 => (P.keyLits (d + 2) ta [c4, c5]).map fun x4 => x0 ++ (x1 ++ (x2 ++ (x3 ++ x4)))) := by
  conv => lhs; unfold Program.keyLits
  rw [h.hp]
  simp only [h.cp]
  rw [if_pos ⟨rfl, h.n⟩]
  simp only [List.mapM_cons, List.mapM_nil, h.t0, h.t1, h.t2, h.t3, h.t4, h.ci, h.cs, h.ca, List.drop_zero, List.drop_succ_cons, List.take_succ_cons, List.take_zero]
  cases P.keyLits (d + 2) ti [c0] <;> simp
  cases P.keyLits (d + 2) ti [c1] <;> simp
  cases P.keyLits (d + 2) ts [c2] <;> simp
  cases P.keyLits (d + 2) ti [c3] <;> simp
  cases P.keyLits (d + 2) ta [c4, c5] <;> simp

theorem po_mk {P : Program} {tp ti ts ta : TypeId} {f0 f1 f2 f3 f4 : Field} (h : PoType P tp ti ts ta f0 f1 f2 f3 f4) (hk : P.keyType tp = true) (d : Nat) (hd : P.types.size = d + 2) (p : Po) (hok : p.ok) : keyOf P tp p.val = some (.string (keyBytes p.lits)) := by
  unfold keyOf
  rw [h.hp]
  have hf : p.val.formed P tp = true := by
    unfold Po.val Value.formed
    rw [h.hp]
    simp [h.cp]
  have e1 : P.keyLits (P.types.size + 1) tp p.val.cells.toList = some p.lits := by
    rw [hd]
    show P.keyLits (d + 3) tp [.int .i64 p.W, .int .i64 p.H, .string p.C, .int .i64 p.T, .string p.A, .string p.B] = _
    rw [keyLits_po h, keyLits_i64_mk h.hi _ hok.w, keyLits_i64_mk h.hi _ hok.h, keyLits_str_mk h.hs _ hok.c, keyLits_i64_mk h.hi _ hok.t, keyLits_two h.ha h.ca h.cs, keyLits_str_mk h.hs _ hok.a, keyLits_str_mk h.hs _ hok.b]
    rfl
  simp only [hk, hf, Bool.and_self, if_true, e1, Option.map_some]

theorem po_inv {P : Program} {tp ti ts ta : TypeId} {f0 f1 f2 f3 f4 : Field} (h : PoType P tp ti ts ta f0 f1 f2 f3 f4) (d : Nat) (hd : P.types.size = d + 2) (v : Value) (l : Lit) (hv : keyOf P tp v = some l) : ∃ p : Po, v = p.val ∧ p.ok := by
  obtain ⟨xs, L, rfl, hL, _⟩ := keyOf_top (by rw [h.hp]) hv
  have hsz : xs.toList.length = 6 := by
    rw [hd] at hL
    unfold Program.keyLits at hL
    rw [h.hp] at hL
    simp only [h.cp] at hL
    split at hL
    · rename_i h1; exact h1.1
    · cases hL
  rw [hd] at hL
  obtain ⟨xs⟩ := xs
  simp only at hsz hL
  match xs, hsz with
  | [c0, c1, c2, c3, c4, c5], _ =>
    rw [keyLits_po h] at hL
    simp only [Option.bind_eq_some_iff, Option.map_eq_some_iff] at hL
    obtain ⟨x0, h0, x1, h1, x2, h2, x3, h3, x4, h4, _⟩ := hL
    obtain ⟨n0, rfl, w0, _⟩ := keyLits_i64 h.hi _ h0
    obtain ⟨n1, rfl, w1, _⟩ := keyLits_i64 h.hi _ h1
    obtain ⟨s2, rfl, w2, _⟩ := keyLits_str h.hs _ h2
    obtain ⟨n3, rfl, w3, _⟩ := keyLits_i64 h.hi _ h3
    rw [keyLits_two h.ha h.ca h.cs] at h4
    simp only [Option.bind_eq_some_iff, Option.map_eq_some_iff] at h4
    obtain ⟨x5, h5, x6, h6, _⟩ := h4
    obtain ⟨s4, rfl, w4, _⟩ := keyLits_str h.hs _ h5
    obtain ⟨s5, rfl, w5, _⟩ := keyLits_str h.hs _ h6
    exact ⟨⟨n0, n1, s2, n3, s4, s5⟩, rfl, ⟨w0, w1, w3, w2, w4, w5⟩⟩

def poKey {P : Program} {tp ti ts ta : TypeId} (h : ∃ f0 f1 f2 f3 f4, PoType P tp ti ts ta f0 f1 f2 f3 f4) (hk : P.keyType tp = true) (hd : ∃ d, P.types.size = d + 2) : KeyMk P tp Po where
  val := Po.val
  lit p := .string (keyBytes p.lits)
  ok := Po.ok
  key := fun p hp => by
    obtain ⟨_, _, _, _, _, h⟩ := h
    obtain ⟨d, hd⟩ := hd
    exact po_mk h hk d hd p hp
  inv := fun v l hv => by
    obtain ⟨_, _, _, _, _, h⟩ := h
    obtain ⟨d, hd⟩ := hd
    exact po_inv h d hd v l hv
  inj := Po.val_inj
end Go.Proofs.YtbijadnekoeofaaGreatDoor
