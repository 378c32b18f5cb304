/-
  package record: the reader's memory: what is kept, what is open; a note's text.
-/
import Derived.Test.YtdibjdpnleepmacDoorN9
import Derived.Laws.OwnMore
import Derived.Deep.RegionLawGrows
namespace Go.Proofs.YtdibjdpnleepmacDoor
open Go.RowKit

theorem ltBlock {w : World} {g : Nat} {o : Obj} (h : w.heap[g]? = some o) : g < w.heap.size := (Array.getElem?_eq_some_iff.1 h).1
theorem row_keep {w w' : World} {base : Nat} {e : TypeId} {size n : Nat} {v : Value} {xs : List Value} (h : w.ownsRow base e size v n xs) (hk : ∀ k, base ≤ k → k < w.heap.size → w'.heap[k]? = w.heap[k]?) : w'.ownsRow base e size v n xs := by
  obtain ⟨h1, h2⟩ := h
  refine ⟨h1, ?_⟩
  rcases h2 with h2 | ⟨g, cap, cur, e1, hb, hg, r⟩
  · exact .inl h2
  · exact .inr ⟨g, cap, cur, e1, hb, (hk g hb (ltBlock hg)).trans hg, r⟩
theorem row_slice {w : World} {base : Nat} {e : TypeId} {size n : Nat} {v : Value} {xs : List Value} (h : w.ownsRow base e size v n xs) : ∃ uo un uc, v = .slice uo un uc := by
  rcases h.2 with ⟨h1, -⟩ | ⟨gg, cap, cur, h1, -⟩
  · exact ⟨_, _, _, h1⟩
  · exact ⟨_, _, _, h1⟩
theorem step_append_own {P : Program} {ops : Array Oper} {o : Oper} {a : Act} {w : World} {K : Act → World → Prop} {Q : Exit → Act → World → Prop} {E : Prop}
    (hg : o.guard = none) (s x : Operand) (t : TypeId) (hop : o.op = Op.call { callee := Callee.builtin Builtin.append, args := #[s, x], argTypes := #[t, t] })
    (base : Nat) (e : TypeId) (i : TypeInfo) (z : Value) (size bytes : Nat) (h1 : P.underlying t = some (.slice e)) (h2 : P.info? e = some i) (h3 : i.zero = some z) (h4 : i.size = size) (h5 : i.bytes = bytes) (h6 : z.cells.size = size) (h7 : 0 < size)
    (v : Value) (n : Nat) (xs : List Value) (hs : a.eval s = v) (hown : w.ownsRow base e size v n xs)
    (ad : Addr) (m c : Nat) (news : List Value) (hx : a.eval x = .slice (some ad) m c) (hn : news.length = m * size) (hc : ∀ j u, news[j]? = some u → w.cell? (ad.add j) = some u) (h1c : ∀ u ∈ news, u.oneCell' = true)
    (b1 : n + m ≤ maxLen) (b2 : (n + m) * bytes ≤ 140737488355328) (hbase : base ≤ w.heap.size)
    (hK : ∀ v' w', w'.ownsRow base e size v' (n + m) (xs ++ news) → w.grownBy w' v.ownBlock → K (a.put o.dst v') w') :
    if Region.wanted o (yielded ops a.tmps) = true then Oper.wp P o a w K Q else E := by
  have hw : Region.wanted o (yielded ops a.tmps) = true := by simp [Region.wanted, hg]
  rw [if_pos hw]
  obtain ⟨v', w', hrun, r1, r2, _⟩ := run_append_own (P := P) w base t o.type e i z size bytes h1 h2 h3 h4 h5 h6 h7 v n xs hown ad m c news hn hc h1c b1 b2 hbase
  unfold Oper.wp
  simp [execOp, hop, resolve, invoke, builtin, hs, hx, hrun, Result.andThen]
  exact hK v' w' r1 r2

/-- A note that is kept: its move, its comment, the number of the one that it comes of. -/
structure En where
  mv : ByteArray
  cm : ByteArray
  of_ : Int
def evals (l : List En) : List Value := l.flatMap fun e => [.string e.mv, .string e.cm, .slice none 0 0, .int .i64 e.of_]
/-- A place that is open. -/
structure Pl where
  main : Int
  deep : Int
  of_ : Int
  others : Bool
def ovals (l : List Pl) : List Value := l.flatMap fun p => [.int .i64 p.main, .int .i64 p.deep, .int .i64 p.of_, .bool p.others]
/-- The reader in block g, with what it has kept and what is open. -/
structure RSt (w : World) (g B : Nat) (x : Re) (E : List En) (O : List Pl) : Prop where
  re : isRe w g x
  kept : w.ownsRow B 52 4 x.kept E.length (evals E)
  open_ : w.ownsRow B 33 4 x.open_ O.length (ovals O)
  hB : g < B ∧ B ≤ w.heap.size
theorem RSt.bu {w w' : World} {g B : Nat} {x y : Re} {E : List En} {O : List Pl} (h : RSt w g B x E O) (hb : Bu g w w') (hy : isRe w' g y) (hk : y.kept = x.kept) (ho : y.open_ = x.open_) : RSt w' g B y E O := by
  have hgB := h.hB.1
  refine ⟨hy, ?_, ?_, hgB, Nat.le_trans h.hB.2 hb.size⟩
  · rw [hk]; exact row_keep h.kept fun k h1 h2 => hb.block k h2 (by omega)
  · rw [ho]; exact row_keep h.open_ fun k h1 h2 => hb.block k h2 (by omega)
/-- All below B as it was but block g. -/
structure Bb (g B : Nat) (w w' : World) : Prop where
  os : w'.os = w.os
  tape : w'.tape = w.tape
  output : w'.output = w.output
  size : w.heap.size ≤ w'.heap.size
  block : ∀ k, k < B → k ≠ g → w'.heap[k]? = w.heap[k]?
theorem Bu.bb {g B : Nat} {w w' : World} (h : Bu g w w') (hB : B ≤ w.heap.size) : Bb g B w w' := ⟨h.os, h.tape, h.output, h.size, fun k hk hn => h.block k (Nat.lt_of_lt_of_le hk hB) hn⟩
theorem Bb.of {g B : Nat} {w w' : World} (h : Below B w w') : Bb g B w w' := ⟨h.os, h.tape, h.output, h.size, fun k hk _ => h.block k hk⟩
theorem Bb.trans {g B : Nat} {w w' w'' : World} (h : Bb g B w w') (h' : Bb g B w' w'') : Bb g B w w'' := ⟨h'.os.trans h.os, h'.tape.trans h.tape, h'.output.trans h.output, Nat.le_trans h.size h'.size, fun k hk hn => (h'.block k hk hn).trans (h.block k hk hn)⟩
theorem Bb.put {g B : Nat} {w w' : World} (h : Bb g B w w') (i : Nat) (v : Value) : Bb g B w (w'.setCell ⟨g, i, none⟩ v) :=
  ⟨h.os, h.tape, h.output, by rw [show (w'.setCell ⟨g, i, none⟩ v).heap.size = w'.heap.size by simp [World.setCell]]; exact h.size, fun k hk hn => (Below.heap_setCell _ _ _ _ (by simp only; omega)).trans (h.block k hk hn)⟩
theorem Bb.drew {g B : Nat} {w w' : World} (h : Bb g B w w') : Bb g B w w'.drew := ⟨h.os, h.tape, h.output, h.size, h.block⟩
theorem Bb.low {g B : Nat} {w w' : World} (h : Bb g B w w') (hB : g ≤ B) : Below g w w' := ⟨h.os, h.tape, h.output, h.size, fun k hk => h.block k (Nat.lt_of_lt_of_le hk hB) (Nat.ne_of_lt hk)⟩
theorem size_put (w : World) (g i : Nat) (v : Value) : (w.setCell ⟨g, i, none⟩ v).heap.size = w.heap.size := by simp [World.setCell]
/-- A note's text: its move, its comment, and where the reader stands behind it; or the rune with which it can not go on. -/
def Re.noteF (x : Re) : Except Int (Re × ByteArray × ByteArray) :=
  let y := Re.run mvR 20 (x.rest.size + 1) 0 x
  if y.2 = false then .error y.1.at_
  else
    let z := Re.skip y.1.rest.size y.1
    if pkR z.rest = 123 then
      let u := Re.run cmR 200 (z.on.rest.size + 1) 0 z.on
      if u.2 = false then .error u.1.at_
      else if pkR u.1.rest = 125 then .ok (u.1.on, x.rest.extract 0 (x.rest.size - y.1.rest.size), z.on.rest.extract 0 (z.on.rest.size - u.1.rest.size))
      else .error u.1.at_
    else .ok (z, x.rest.extract 0 (x.rest.size - y.1.rest.size), ⟨#[]⟩)
/-- Behind a note: counted, and kept if there is room. -/
def Re.count (y : Re) (k : Int) : Re := { y with n := y.n + 1, d := max y.d k }
/-- What the reader's text leaves alone. -/
theorem run_same (fits : Int → Bool) (most : Nat) : ∀ (f n : Nat) (x : Re), (Re.run fits most f n x).1.kept = x.kept ∧ (Re.run fits most f n x).1.open_ = x.open_ ∧ (Re.run fits most f n x).1.n = x.n ∧ (Re.run fits most f n x).1.d = x.d ∧ (Re.run fits most f n x).1.main = x.main ∧ (Re.run fits most f n x).1.deep = x.deep ∧ (Re.run fits most f n x).1.of_ = x.of_ ∧ (Re.run fits most f n x).1.others = x.others
  | 0, _, x => ⟨rfl, rfl, rfl, rfl, rfl, rfl, rfl, rfl⟩
  | f + 1, n, x => by
    rw [Re.run]
    split
    · split
      · exact ⟨rfl, rfl, rfl, rfl, rfl, rfl, rfl, rfl⟩
      · exact run_same fits most f (n + 1) x.on
    · exact ⟨rfl, rfl, rfl, rfl, rfl, rfl, rfl, rfl⟩
theorem skip_same : ∀ (f : Nat) (x : Re), (Re.skip f x).kept = x.kept ∧ (Re.skip f x).open_ = x.open_ ∧ (Re.skip f x).n = x.n ∧ (Re.skip f x).d = x.d ∧ (Re.skip f x).main = x.main ∧ (Re.skip f x).deep = x.deep ∧ (Re.skip f x).of_ = x.of_ ∧ (Re.skip f x).others = x.others
  | 0, x => ⟨rfl, rfl, rfl, rfl, rfl, rfl, rfl, rfl⟩
  | f + 1, x => by
    rw [Re.skip]
    split
    · exact skip_same f x.on
    · exact ⟨rfl, rfl, rfl, rfl, rfl, rfl, rfl, rfl⟩
end Go.Proofs.YtdibjdpnleepmacDoor
