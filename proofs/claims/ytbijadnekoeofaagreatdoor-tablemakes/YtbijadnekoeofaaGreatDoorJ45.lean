/-
  gameref.Tabled: plain mathematics: the numbers of what each leads to stay; lists of entries.
  gameref.Tabled: what holds in memory while the positions are gone through.
  table.Make and gameref.Tabled come to the same entries (plain mathematics).
-/
import Derived.Test.YtbijadnekoeofaaGreatDoorJ41
import Derived.Test.YtbijadnekoeofaaGreatDoorJ43
import Derived.Test.YtbijadnekoeofaaGreatDoorJ44
import Derived.Test.YtbijadnekoeofaaGreatDoorV13
namespace Go.Proofs.YtbijadnekoeofaaGreatDoor

section
variable {nx : Po → List Po} {s : Po}
/-- What each of the first i leads to, by number. -/
def nxL (nx : Po → List Po) (s : Po) (i : Nat) : List (List Nat) := (List.range i).map (nxtG nx (bfsN nx s i))
theorem nxL_len (i : Nat) : (nxL nx s i).length = i := by simp [nxL]
theorem nxtG_stay {i a : Nat} (ha : a < i) (hbl : ∀ a, a < i → a < (bfsN nx s a).length) (hil : i < (bfsN nx s i).length) : nxtG nx (bfsN nx s (i + 1)) a = nxtG nx (bfsN nx s i) a := by
  obtain ⟨r, hr⟩ := bfs_pre (nx := nx) (s := s) i
  have h1 : sucL nx (bfsN nx s (i + 1)) a = sucL nx (bfsN nx s i) a := by rw [hr]; exact suc_pre (by omega)
  unfold nxtG
  rw [h1]
  apply List.map_congr_left
  intro q hq
  unfold sucL at hq
  split at hq
  · rename_i p hp
    have := bfs_there ha hp (hbl a ha) hq
    rw [hr, idx_pre this]
  · simp at hq
theorem nxL_step {i : Nat} {p : Po} (hbl : ∀ a, a < i → a < (bfsN nx s a).length) (hp : (bfsN nx s i)[i]? = some p) : nxL nx s (i + 1) = nxL nx s i ++ [(nx p).map (bfsN nx s (i + 1)).idxOf] := by
  have hil := (List.getElem?_eq_some_iff.1 hp).1
  unfold nxL
  rw [List.range_succ, List.map_append]
  congr 1
  · apply List.map_congr_left
    intro a ha
    exact nxtG_stay (List.mem_range.1 ha) hbl hil
  · obtain ⟨r, hr⟩ := bfs_pre (nx := nx) (s := s) i
    simp only [List.map_cons, List.map_nil]
    unfold nxtG
    rw [show sucL nx (bfsN nx s (i + 1)) i = nx p by rw [hr, suc_pre hil]; unfold sucL; rw [hp]]
theorem nxL_at {i a : Nat} (ha : a < i) : (nxL nx s i)[a]? = some (nxtG nx (bfsN nx s i) a) := by
  unfold nxL
  rw [List.getElem?_map, List.getElem?_range ha]
  rfl
/-- What has been numbered on the way. -/
theorem tl_step {acc ps : List Po} {k : Nat} {q : Po} (hq : ps[k]? = some q) (hin : ∀ x ∈ ps.take k, x ∈ acc) : (ps.take (k + 1)).map (addL acc q).idxOf = (ps.take k).map acc.idxOf ++ [(addL acc q).idxOf q] := by
  rw [List.take_add_one, hq, Option.toList_some, List.map_append]
  congr 1
  apply List.map_congr_left
  intro x hx
  obtain ⟨r, hr⟩ := add_pre acc q
  rw [hr, idx_pre (hin x hx)]
end

/-! Entries. -/
def enF (all : List Po) (A : Nat → Nat × Nat) : List (Po × Int × Int) := all.mapIdx fun j p => (p, ((A j).1 : Int), ((A j).2 : Int))
section
variable {all : List Po} {A B : Nat → Nat × Nat}
theorem enF_len : (enF all A).length = all.length := by simp [enF]
theorem enF_get (i : Nat) : (enF all A)[i]? = (all[i]?).map fun p => (p, ((A i).1 : Int), ((A i).2 : Int)) := by
  unfold enF
  rw [List.getElem?_mapIdx]
theorem enF_at {i : Nat} {p : Po} (h : all[i]? = some p) : (enF all A)[i]? = some (p, ((A i).1 : Int), ((A i).2 : Int)) := by rw [enF_get, h]; rfl
theorem enF_cong (h : ∀ i, i < all.length → A i = B i) : enF all A = enF all B := by
  apply List.ext_getElem?
  intro i
  rw [enF_get, enF_get]
  cases hi : all[i]? with
  | none => rfl
  | some p =>
    have := h i (List.getElem?_eq_some_iff.1 hi).1
    rw [this]
theorem enF_set {i : Nat} {p : Po} (hp : all[i]? = some p) {v d : Int} (hv : v = ((B i).1 : Int)) (hd : d = ((B i).2 : Int)) (h : ∀ j, j ≠ i → A j = B j) : (enF all A).set i (p, v, d) = enF all B := by
  have hil := (List.getElem?_eq_some_iff.1 hp).1
  apply List.ext_getElem?
  intro j
  by_cases hj : i = j
  · subst hj
    rw [List.getElem?_set_self (by rw [enF_len]; exact hil), enF_at hp, hv, hd]
  · rw [List.getElem?_set_ne hj, enF_get, enF_get, h j (Ne.symm hj)]
theorem enF_pos : (enF all A).map (fun x => x.1) = all := by
  apply List.ext_getElem?
  intro i
  rw [List.getElem?_map, enF_get]
  cases all[i]? <;> rfl
/-- A round, one after the other. -/
theorem enF_prt {nxt : Nat → List Nat} {d i : Nat} {p : Po} (hp : all[i]? = some p) : (enF all (prt nxt A d i)).set i (p, ((rnd nxt A d i).1 : Int), ((rnd nxt A d i).2 : Int)) = enF all (prt nxt A d (i + 1)) := by
  refine enF_set hp ?_ ?_ (fun j hj => ?_)
  · unfold prt; rw [if_pos (by omega)]
  · unfold prt; rw [if_pos (by omega)]
  · unfold prt
    by_cases h : j < i
    · rw [if_pos h, if_pos (by omega)]
    · rw [if_neg h, if_neg (by omega)]
theorem enF_stay {nxt : Nat → List Nat} {d i : Nat} (hr : rnd nxt A d i = A i) : enF all (prt nxt A d i) = enF all (prt nxt A d (i + 1)) := by
  apply enF_cong
  intro j _
  unfold prt
  by_cases h : j < i
  · rw [if_pos h, if_pos (by omega)]
  · by_cases h2 : j = i
    · subst h2
      rw [if_neg h, if_pos (by omega), hr]
    · rw [if_neg h, if_neg (by omega)]
theorem enF_prt0 {nxt : Nat → List Nat} {d : Nat} : enF all (prt nxt A d 0) = enF all A := enF_cong (fun j _ => by unfold prt; rw [if_neg (by omega)])
theorem enF_prtN {nxt : Nat → List Nat} {d : Nat} : enF all (prt nxt A d all.length) = enF all (rnd nxt A d) := enF_cong (fun j hj => by unfold prt; rw [if_pos hj])
/-- What is looked at, at an entry of a round. -/
theorem rnd_known {nxt : Nat → List Nat} {d i : Nat} (h : (A i).1 ≠ 0) : rnd nxt A d i = A i := by unfold rnd; rw [if_pos h]
theorem rnd_lost {nxt : Nat → List Nat} {d i : Nat} (h : (A i).1 = 0) (h1 : (nxt i).any (fun j => (A j).1 == 2) = true) : rnd nxt A d i = (1, d) := by unfold rnd; rw [if_neg (by omega), if_pos h1]
theorem rnd_won {nxt : Nat → List Nat} {d i : Nat} (h : (A i).1 = 0) (h1 : (nxt i).any (fun j => (A j).1 == 2) = false) (h2 : (nxt i).all (fun j => (A j).1 == 1) = true) : rnd nxt A d i = (2, d) := by unfold rnd; rw [if_neg (by omega), if_neg (by rw [h1]; simp), if_pos h2]
theorem rnd_open {nxt : Nat → List Nat} {d i : Nat} (h : (A i).1 = 0) (h1 : (nxt i).any (fun j => (A j).1 == 2) = false) (h2 : (nxt i).all (fun j => (A j).1 == 1) = false) : rnd nxt A d i = A i := by unfold rnd; rw [if_neg (by omega), if_neg (by rw [h1]; simp), if_neg (by rw [h2]; simp)]
/-- One more is looked at. -/
theorem any_take {f : Nat → Bool} {l : List Nat} {k x : Nat} (h : l[k]? = some x) : (l.take (k + 1)).any f = ((l.take k).any f || f x) := by
  rw [List.take_add_one, h]
  simp
theorem all_take {f : Nat → Bool} {l : List Nat} {k x : Nat} (h : l[k]? = some x) : (l.take (k + 1)).all f = ((l.take k).all f && f x) := by
  rw [List.take_add_one, h]
  simp
end
end Go.Proofs.YtbijadnekoeofaaGreatDoor

namespace Go.Proofs.YtbijadnekoeofaaGreatDoor
open Go.RowKit

theorem infoPo : (Tryz.prog.info? 24).map (fun i => (i.zero, i.size, i.bytes)) = some (some (.agg #[.int .i64 0, .int .i64 0, .string ⟨#[]⟩, .int .i64 0, .string ⟨#[]⟩, .string ⟨#[]⟩]), 6, 72) := by kernel_rfl
theorem infoInts : (Tryz.prog.info? 52).map (fun i => (i.zero, i.size, i.bytes)) = some (some (.slice none 0 0), 1, 24) := by kernel_rfl

/-- append of what stands in a box of its own. -/
theorem app_box {u : World} {base : Nat} {t e : TypeId} {i : TypeInfo} {z : Value} {size bytes : Nat} (ht : Tryz.prog.underlying t = some (.slice e)) (hi : Tryz.prog.info? e = some i) (hz : i.zero = some z) (hsize : i.size = size) (hby : i.bytes = bytes) (hzs : z.cells.size = size) (hsz : 0 < size)
    {v : Value} {n : Nat} {xs : List Value} (h : u.ownsRow base e size v n xs) (news : List Value) (hl : news.length = size) (h1 : ∀ x ∈ news, x.oneCell' = true) (h63 : n + 1 ≤ maxLen) (hbytes : (n + 1) * bytes ≤ 140737488355328) (hbase : base ≤ u.heap.size) :
    ∃ v' u', (Builtin.append_ #[t, t] t #[v, .slice (some ⟨u.heap.size, 0, none⟩) 1 1]).run Tryz.prog (u.alloc (.cells news.toArray e (0, 0))) = .ok v' u' ∧ u'.ownsRow base e size v' (n + 1) (xs ++ news) ∧ (∀ k, k < u.heap.size → v.ownBlock ≠ some k → u'.heap[k]? = u.heap[k]?) ∧ u.heap.size ≤ u'.heap.size ∧ u'.os = u.os ∧ u'.tape = u.tape ∧ u'.output = u.output ∧
      (v'.ownBlock = v.ownBlock ∨ ∃ g, v'.ownBlock = some g ∧ u.heap.size ≤ g) := by
  have hba : Below u.heap.size u (u.alloc (.cells news.toArray e (0, 0))) := (Below.refl _ _).alloc (Nat.le_refl _) _
  have hr : (u.alloc (.cells news.toArray e (0, 0))).ownsRow base e size v n xs := row_same h (fun g hg => hba.block g (row_block h hg).2)
  obtain ⟨v', u', hrun, hrow, hg, -, hob⟩ := run_append_own_at (P := Tryz.prog) (u.alloc (.cells news.toArray e (0, 0))) base t t e i z size bytes ht hi hz hsize hby hzs hsz v n xs hr ⟨u.heap.size, 0, none⟩ 1 1 news (by omega)
    (fun a x hx => by
      have hh := heap_alloc_new u (.cells news.toArray e (0, 0))
      rw [show (⟨u.heap.size, 0, none⟩ : Addr).add a = ⟨u.heap.size, a, none⟩ by (simp [Addr.add]; try omega)]
      unfold World.cell?
      rw [hh]
      simpa using hx)
    h1 h63 hbytes (Nat.le_trans hbase hba.size)
  refine ⟨v', u', hrun, hrow, fun k hk hne => (hg.block k (Nat.lt_of_lt_of_le hk hba.size) (fun e => hne e.symm)).trans (hba.block k hk), Nat.le_trans hba.size hg.size, hg.os.trans hba.os, hg.tape.trans hba.tape, hg.output.trans hba.output, ?_⟩
  rcases hob with hob | hob
  · exact .inl hob
  · exact .inr ⟨_, hob, hba.size⟩

theorem numM.ne_row {u : World} {b s base n size : Nat} {all : List Po} {e : TypeId} {v : Value} {xs : List Value} (h : numM u b all s) (hr : u.ownsRow base e size v n xs) : v.ownBlock ≠ some b := by
  obtain ⟨es, ck, hb⟩ := h.is
  exact row_map hr hb

/-- While what one leads to is gone through. (w7: the world behind Moves; gA: where the row of positions lay then.) -/
structure TbI (base b gA : Nat) (w1 w7 : World) (acc : List Po) (av tv : Value) (tl : List Nat) (u : World) : Prop where
  all : u.ownsRow base 24 6 av acc.length (povs acc)
  ab : ∀ g, av.ownBlock = some g → g = gA ∨ w7.heap.size ≤ g
  nm : numM u b acc 1
  bb : base ≤ b ∧ b < w7.heap.size
  gb : base ≤ gA ∧ gA < w7.heap.size
  tow : u.ownsRow w7.heap.size 3 1 tv tl.length (ivs tl)
  fr : ∀ k, k < w7.heap.size → k ≠ gA → k ≠ b → u.heap[k]? = w7.heap[k]?
  sz : w7.heap.size ≤ u.heap.size
  bw : Below base w1 u
section
variable {base b gA : Nat} {w1 w7 u u' : World} {acc : List Po} {av tv : Value} {tl : List Nat}
theorem TbI.below (h : TbI base b gA w1 w7 acc av tv tl u) (hb : Below u.heap.size u u') : TbI base b gA w1 w7 acc av tv tl u' :=
  ⟨row_same h.all (fun g hg => hb.block g (row_block h.all hg).2), h.ab, h.nm.of_block (hb.block b h.nm.lt), h.bb, h.gb, row_same h.tow (fun g hg => hb.block g (row_block h.tow hg).2), fun k hk h1 h2 => (hb.block k (Nat.lt_of_lt_of_le hk h.sz)).trans (h.fr k hk h1 h2), Nat.le_trans h.sz hb.size,
    h.bw.trans (hb.mono (by have := h.bb; have := h.sz; omega))⟩
/-- A new position. -/
theorem TbI.new (h : TbI base b gA w1 w7 acc av tv tl u) {q : Po} (hq : q.ok) (hn : q ∉ acc) (hlen : acc.length < 100000) :
    ∃ v' u1 u2, (Builtin.append_ #[58, 58] 58 #[av, .slice (some ⟨u.heap.size, 0, none⟩) 1 1]).run Tryz.prog (u.alloc (.cells #[.int .i64 q.W, .int .i64 q.H, .string q.C, .int .i64 q.T, .string q.A, .string q.B] 24 (0, 0))) = .ok v' u1 ∧
      (Instr.mapUpdate 36 (.map (some b)) (.agg #[.int .i64 q.W, .int .i64 q.H, .string q.C, .int .i64 q.T, .string q.A, .string q.B]) (.int .i64 ((acc.length + 1 : Nat) : Int))).run Tryz.prog u1 = .ok () u2 ∧
      TbI base b gA w1 w7 (acc ++ [q]) v' tv tl u2 ∧ (∃ g c, v' = .slice (some ⟨g, 0, none⟩) (acc.length + 1) c) ∧ (∀ k, k < u.heap.size → av.ownBlock ≠ some k → u1.heap[k]? = u.heap[k]?) ∧ u.heap.size ≤ u1.heap.size ∧
      (∀ k, k < u.heap.size → av.ownBlock ≠ some k → k ≠ b → u2.heap[k]? = u.heap[k]?) ∧ u.heap.size ≤ u2.heap.size := by
  obtain ⟨i0, hinfo, hz0, hz1, hz2⟩ := info_parts infoPo
  have hus : base ≤ u.heap.size := by have := h.bb; have := h.sz; omega
  obtain ⟨v', u1, hrun, hrow, hk, hs, ho, ht, hp, hob⟩ := app_box (u := u) (base := base) Tryz.underlying58 hinfo hz0 hz1 hz2 rfl (by omega) h.all [.int .i64 q.W, .int .i64 q.H, .string q.C, .int .i64 q.T, .string q.A, .string q.B] rfl
    (fun x hx => by
      simp only [List.mem_cons, List.not_mem_nil, or_false] at hx
      rcases hx with rfl | rfl | rfl | rfl | rfl | rfl <;> rfl) (by unfold maxLen; omega) (by omega) hus
  have hnb := h.nm.ne_row h.all
  have hnm1 : numM u1 b acc 1 := h.nm.of_block (hk b h.nm.lt hnb)
  obtain ⟨u2, hrun2, hnm2, hg2⟩ := hnm1.put (p := q) (by omega) hq hn
  have hrow' : u1.ownsRow base 24 6 v' (acc ++ [q]).length (povs (acc ++ [q])) := by
    rw [List.length_append, povs_app]
    exact hrow
  have hav : ∀ g, av.ownBlock = some g → base ≤ g := fun g hg => (row_block h.all hg).1
  have hblk : ∀ k, k < u.heap.size → av.ownBlock ≠ some k → k ≠ b → u2.heap[k]? = u.heap[k]? := fun k hk1 h1 h2 => (hg2.block k (Nat.lt_of_lt_of_le hk1 hs) (by simpa using h2)).trans (hk k hk1 h1)
  have hto : ∀ g, tv.ownBlock = some g → av.ownBlock ≠ some g ∧ g ≠ b := fun g hg => ⟨row_types h.all h.tow (by decide) hg, fun e => by have := (row_block h.tow hg).1; have := h.bb.2; omega⟩
  refine ⟨v', u1, u2, hrun, hrun2, ⟨row_off hrow' hg2 (hnm1.ne_row hrow'), fun g hg => ?_, hnm2, h.bb, h.gb, row_same h.tow (fun g hg => hblk g (row_block h.tow hg).2 (hto g hg).1 (hto g hg).2), fun k hk1 h1 h2 => (hblk k (Nat.lt_of_lt_of_le hk1 h.sz) (fun e => by
      rcases h.ab k e with e1 | e1
      · exact h1 e1
      · omega) h2).trans (h.fr k hk1 h1 h2), Nat.le_trans h.sz (Nat.le_trans hs hg2.size), ?_⟩, ?_, fun k hk1 h1 => hk k hk1 h1, hs, hblk, Nat.le_trans hs hg2.size⟩
  · rcases hob with e | ⟨g', e, hg'⟩
    · exact h.ab g (e ▸ hg)
    · rw [e] at hg
      simp only [Option.some.injEq] at hg
      have := h.sz
      exact .inr (by omega)
  · have hb := h.bw
    refine ⟨hg2.os.trans (ho.trans hb.os), hg2.tape.trans (ht.trans hb.tape), hg2.output.trans (hp.trans hb.output), Nat.le_trans hb.size (Nat.le_trans hs hg2.size), fun k hk1 => ?_⟩
    exact (hblk k (by omega) (fun e => by have := hav k e; omega) (by have := h.bb.1; omega)).trans (hb.block k hk1)
  · rcases hrow.2 with ⟨_, h0⟩ | ⟨g, cp, cur, e, _⟩
    · omega
    · exact ⟨g, cp, e⟩
/-- One number more. -/
theorem TbI.num (h : TbI base b gA w1 w7 acc av tv tl u) (x : Nat) (hlen : tl.length < 100000) :
    ∃ v' u1, (Builtin.append_ #[52, 52] 52 #[tv, .slice (some ⟨u.heap.size, 0, none⟩) 1 1]).run Tryz.prog (u.alloc (.cells #[.int .i64 (x : Int)] 3 (0, 0))) = .ok v' u1 ∧ TbI base b gA w1 w7 acc av v' (tl ++ [x]) u1 ∧ (∃ g c, v' = .slice (some ⟨g, 0, none⟩) (tl.length + 1) c) ∧
      (∀ k, k < w7.heap.size → u1.heap[k]? = u.heap[k]?) := by
  obtain ⟨i0, hinfo, hz0, hz1, hz2⟩ := info_parts infoInt
  have hus := h.sz
  obtain ⟨v', u1, hrun, hrow, hk, hs, ho, ht, hp, hob⟩ := app_box (u := u) (base := w7.heap.size) Tryz.underlying52 hinfo hz0 hz1 hz2 rfl (by omega) h.tow [.int .i64 (x : Int)] rfl (fun y hy => by rw [List.mem_singleton.1 hy]; rfl) (by unfold maxLen; omega) (by omega) hus
  have hrow' : u1.ownsRow w7.heap.size 3 1 v' (tl ++ [x]).length (ivs (tl ++ [x])) := by
    rw [List.length_append, show ivs (tl ++ [x]) = ivs tl ++ [.int .i64 (x : Int)] by simp [ivs]]
    exact hrow
  have hlow : ∀ k, k < w7.heap.size → u1.heap[k]? = u.heap[k]? := fun k hk1 => hk k (by omega) (fun e => by have := (row_block h.tow e).1; omega)
  refine ⟨v', u1, hrun, ⟨row_same h.all (fun g hg => hk g (row_block h.all hg).2 (row_types h.tow h.all (by decide) hg)), h.ab, h.nm.of_block (hlow b h.bb.2), h.bb, h.gb, hrow', fun k hk1 h1 h2 => (hlow k hk1).trans (h.fr k hk1 h1 h2), Nat.le_trans h.sz hs, ?_⟩, ?_, hlow⟩
  · have hb := h.bw
    have := h.bb
    exact ⟨ho.trans hb.os, ht.trans hb.tape, hp.trans hb.output, Nat.le_trans hb.size hs, fun k hk1 => (hlow k (by omega)).trans (hb.block k hk1)⟩
  · rcases hrow.2 with ⟨_, h0⟩ | ⟨g, cp, cur, e, _⟩
    · omega
    · exact ⟨g, cp, e⟩
end

/-- One row more. -/
theorem NxR.more {u : World} {base base' : Nat} {v x : Value} {L : List (List Nat)} {l : List Nat} (h : NxR u base v L) (hx : u.ownsRow base' 3 1 x l.length (ivs l)) (hbb : base ≤ base') (hlen : L.length < 100000) (hb : base ≤ u.heap.size) :
    ∃ v' u', (Builtin.append_ #[59, 59] 59 #[v, .slice (some ⟨u.heap.size, 0, none⟩) 1 1]).run Tryz.prog (u.alloc (.cells #[x] 52 (0, 0))) = .ok v' u' ∧ NxR u' base v' (L ++ [l]) ∧ (∃ g c, v' = .slice (some ⟨g, 0, none⟩) (L.length + 1) c ∧ L.length + 1 ≤ c ∧ c ≤ maxLen) ∧ (∀ k, k < u.heap.size → v.ownBlock ≠ some k → u'.heap[k]? = u.heap[k]?) ∧ u.heap.size ≤ u'.heap.size ∧ u'.os = u.os ∧ u'.tape = u.tape ∧ u'.output = u.output := by
  obtain ⟨i0, hinfo, hz0, hz1, hz2⟩ := info_parts infoInts
  obtain ⟨vs, hr, hl⟩ := h
  have hx1 : x.oneCell' = true := by
    rcases hx.2 with ⟨e, _⟩ | ⟨g, cp, cur, e, _⟩
    · rw [e]; rfl
    · rw [e]; rfl
  obtain ⟨v', u', hrun, hrow, hk, hs, ho, ht, hp, hob⟩ := app_box (u := u) (base := base) Tryz.underlying59 hinfo hz0 hz1 hz2 rfl (by omega) hr [x] rfl (fun y hy => by rw [List.mem_singleton.1 hy]; exact hx1) (by unfold maxLen; omega) (by omega) hb
  have hvl : vs.length = L.length := by have := hr.1; omega
  have hkeep : ∀ {b : Nat} {y : Value} {m : List Nat}, u.ownsRow b 3 1 y m.length (ivs m) → base ≤ b → u'.ownsRow base 3 1 y m.length (ivs m) := fun {b y m} hy hb2 => rowBaseT (row_same hy (fun g hg => hk g (row_block hy hg).2 (row_types hr hy (by decide) hg))) hb2
  refine ⟨v', u', hrun, ⟨vs ++ [x], by rw [List.length_append]; exact hrow, fun j m hj => ?_⟩, ?_, hk, hs, ho, ht, hp⟩
  · by_cases hjl : j < L.length
    · rw [List.getElem?_append_left hjl] at hj
      obtain ⟨y, hy1, hy2⟩ := hl j m hj
      exact ⟨y, by rw [List.getElem?_append_left (by omega)]; exact hy1, hkeep hy2 (Nat.le_refl _)⟩
    · have hje : j = L.length := by
        have := (List.getElem?_eq_some_iff.1 hj).1
        simp at this
        omega
      subst hje
      rw [List.getElem?_append_right (Nat.le_refl _), Nat.sub_self] at hj
      simp only [List.getElem?_cons_zero, Option.some.injEq] at hj
      subst hj
      exact ⟨x, by rw [← hvl, List.getElem?_append_right (Nat.le_refl _), Nat.sub_self]; rfl, hkeep hx hbb⟩
  · rcases hrow.2 with ⟨_, h0⟩ | ⟨g, cp, cur, e, _, _, h1, h2, _⟩
    · omega
    · exact ⟨g, cp, e, h1, h2⟩
theorem row_movT {w : World} {base n : Nat} {v : Value} {ms : List Mv} (hr : w.ownsRow base 45 3 v n (mvals ms)) : ∃ o c, v = .slice o n c ∧ n ≤ c ∧ c ≤ maxLen ∧ ∀ (j : Nat) (m : Mv), ms[j]? = some m → ∃ g, o = some ⟨g, 0, none⟩ ∧ base ≤ g ∧ g < w.heap.size ∧ ∀ u : World, u.heap[g]? = w.heap[g]? → u.cell? ⟨g, j * 3, none⟩ = some (.int .i64 m.f) ∧ u.cell? ⟨g, j * 3 + 1, none⟩ = some (.int .i64 (m.t : Int)) ∧ u.cell? ⟨g, j * 3 + 2, none⟩ = some (.int .u8 (m.c : Int)) := by
  have hl : ms.length = n := by
    have h1 := hr.1
    rw [show (mvals ms).length = ms.length * 3 from fm_len (f := fun m : Mv => [Value.int .i64 m.f, .int .i64 (m.t : Int), .int .u8 (m.c : Int)]) (fun _ => rfl) ms] at h1
    omega
  rcases hr.2 with ⟨e, h0⟩ | ⟨g, cap, cur, e, hb, hg, h1, h2, _⟩
  · refine ⟨none, 0, by rw [e, h0], by omega, by unfold maxLen; omega, fun j m hm => ?_⟩
    have := (List.getElem?_eq_some_iff.1 hm).1
    omega
  · subst e
    refine ⟨_, cap, rfl, h1, h2, fun j m hm => ⟨g, rfl, hb, (Array.getElem?_eq_some_iff.1 hg).1, fun u hu => ?_⟩⟩
    have hj := (List.getElem?_eq_some_iff.1 hm).1
    have key : ∀ k, k < 3 → u.cell? ⟨g, j * 3 + k, none⟩ = [Value.int .i64 m.f, .int .i64 (m.t : Int), .int .u8 (m.c : Int)][k]? := fun k hk => by
      rw [World.cell?_of_block (a := ⟨g, j * 3 + k, none⟩) hu, hr.cellAt (j * 3 + k) (by omega)]
      exact fm_at (f := fun m : Mv => [Value.int .i64 m.f, .int .i64 (m.t : Int), .int .u8 (m.c : Int)]) (fun _ => rfl) ms j k m hm hk
    exact ⟨key 0 (by omega), key 1 (by omega), key 2 (by omega)⟩

/-- The positions have been gone through as far as i. -/
structure TbO (nx : Po → List Po) (s : Po) (b : Nat) (w1 : World) (i gN cN n : Nat) (nv : Value) (u : World) : Prop where
  len : (bfsN nx s i).length = n
  all : u.ownsRow w1.heap.size 24 6 (.slice (some ⟨gN, 0, none⟩) n cN) n (povs (bfsN nx s i))
  nm : numM u b (bfsN nx s i) 1
  bb : w1.heap.size ≤ b
  nr : NxR u w1.heap.size nv (nxL nx s i)
  bw : Below w1.heap.size w1 u
  bl : ∀ a, a < i → a < (bfsN nx s a).length
section
variable {nx : Po → List Po} {s : Po} {b : Nat} {w1 : World} {i gN cN n : Nat} {nv : Value} {u u' : World}
theorem TbO.below (h : TbO nx s b w1 i gN cN n nv u) (hb : Below u.heap.size u u') : TbO nx s b w1 i gN cN n nv u' :=
  ⟨h.len, row_same h.all (fun g hg => hb.block g (row_block h.all hg).2), h.nm.of_block (hb.block b h.nm.lt), h.bb, h.nr.below hb, h.bw.trans (hb.mono h.bw.size), h.bl⟩
/-- What one leads to is gone through now. -/
theorem TbO.inner (h : TbO nx s b w1 i gN cN n nv u) : TbI w1.heap.size b gN w1 u (extL (bfsN nx s i) []) (.slice (some ⟨gN, 0, none⟩) n cN) (.slice none 0 0) [] u := by
  have hg := row_block h.all (g := gN) rfl
  refine ⟨by rw [ext_nil, h.len]; exact h.all, fun g hg2 => by simp only [Value.ownBlock, Option.some.injEq] at hg2; exact .inl hg2.symm, h.nm, ⟨h.bb, h.nm.lt⟩, hg, ⟨rfl, .inl ⟨rfl, rfl⟩⟩, fun _ _ _ _ => rfl, Nat.le_refl _, h.bw⟩
/-- All that it leads to has been gone through. -/
theorem TbO.next (h : TbO nx s b w1 i gN cN n nv u) {p : Po} (hp : (bfsN nx s i)[i]? = some p) {gQ cQ n2 : Nat} {tv : Value} {wq : World} (hI : TbI w1.heap.size b gN w1 u (extL (bfsN nx s i) (nx p)) (.slice (some ⟨gQ, 0, none⟩) n2 cQ) tv ((nx p).map (extL (bfsN nx s i) (nx p)).idxOf) wq) (hn2 : (extL (bfsN nx s i) (nx p)).length = n2) (hi : i < 100000) :
    ∃ v' u', (Builtin.append_ #[59, 59] 59 #[nv, .slice (some ⟨wq.heap.size, 0, none⟩) 1 1]).run Tryz.prog (wq.alloc (.cells #[tv] 52 (0, 0))) = .ok v' u' ∧ TbO nx s b w1 (i + 1) gQ cQ n2 v' u' ∧ ∃ g c, v' = .slice (some ⟨g, 0, none⟩) (i + 1) c := by
  have hb1 := bfs_step hp
  have hil := (List.getElem?_eq_some_iff.1 hp).1
  have hus := h.bw.size
  have hnr : NxR wq w1.heap.size nv (nxL nx s i) := by
    refine h.nr.same (P := fun g => g ≠ gN ∧ g ≠ b) (fun g hg ⟨h1, h2⟩ => hI.fr g hg h1 h2) (fun m y ys hr g hg => ⟨fun e => ?_, fun e => ?_⟩) (fun m y ys hr g hg => ⟨fun e => ?_, fun e => ?_⟩)
    · exact row_types hr h.all (by decide) rfl (by rw [hg, e])
    · exact h.nm.ne_row hr (by rw [hg, e])
    · exact row_types hr h.all (by decide) rfl (by rw [hg, e])
    · exact h.nm.ne_row hr (by rw [hg, e])
  have hto : wq.ownsRow u.heap.size 3 1 tv ((nx p).map (extL (bfsN nx s i) (nx p)).idxOf).length (ivs ((nx p).map (extL (bfsN nx s i) (nx p)).idxOf)) := hI.tow
  obtain ⟨v', u', hrun, hnr', hv', hk, hs, ho, ht, hpp⟩ := hnr.more hto hus (by rw [nxL_len]; exact hi) (Nat.le_trans hus hI.sz)
  rw [← hb1] at hnr' hn2
  have hL : nxL nx s i ++ [(nx p).map (bfsN nx s (i + 1)).idxOf] = nxL nx s (i + 1) := (nxL_step h.bl hp).symm
  rw [hL] at hnr'
  rw [nxL_len] at hv'
  have hnvb : ∀ g, nv.ownBlock = some g → w1.heap.size ≤ g := fun g hg => by
    obtain ⟨vs, hr, -⟩ := hnr
    exact (row_block hr hg).1
  have hall := hI.all
  rw [← hb1, hn2] at hall
  refine ⟨v', u', hrun, ⟨hn2, ?_, ?_, h.bb, hnr', ?_, fun a ha => ?_⟩, ?_⟩
  · exact row_same hall (fun g hg => hk g (row_block hall hg).2 (by
      obtain ⟨vs, hr, -⟩ := hnr
      exact row_types hr hall (by decide) hg))
  · have hnm := hI.nm
    rw [← hb1] at hnm
    refine hnm.of_block (hk b hnm.lt ?_)
    obtain ⟨vs, hr, -⟩ := hnr
    exact hnm.ne_row hr
  · have hb := hI.bw
    exact ⟨ho.trans hb.os, ht.trans hb.tape, hpp.trans hb.output, Nat.le_trans hb.size hs, fun k hk1 => (hk k (by have := hI.sz; omega) (fun e => by have := hnvb k e; omega)).trans (hb.block k hk1)⟩
  · by_cases hai : a < i
    · exact h.bl a hai
    · have : a = i := by omega
      rw [this]; exact hil
  · obtain ⟨g, c, e, -⟩ := hv'
    exact ⟨g, c, e⟩
end
end Go.Proofs.YtbijadnekoeofaaGreatDoor

namespace Go.Proofs.YtbijadnekoeofaaGreatDoor
open Go.Sort

theorem bfs_still {nx : Po → List Po} {s : Po} {n : Nat} (h : (bfsN nx s n).length ≤ n) : ∀ {j : Nat}, n ≤ j → bfsN nx s j = bfsN nx s n := by
  intro j hj
  induction hj with
  | refl => rfl
  | step h3 ih => rw [bfs_stop (by rw [ih]; exact Nat.le_trans h h3), ih]
theorem bfs_fix {nx : Po → List Po} {s : Po} {n m : Nat} (h : (bfsN nx s n).length = n) (h' : (bfsN nx s m).length = m) : n = m := by
  rcases Nat.le_total n m with hl | hl
  · have := bfs_still (nx := nx) (s := s) (n := n) (by omega) hl
    rw [this] at h'
    omega
  · have := bfs_still (nx := nx) (s := s) (n := m) (by omega) hl
    rw [this] at h
    omega
/-- Where it ends within a bound it is never beyond it. -/
theorem bfs_never {nx : Po → List Po} {s : Po} {n most : Nat} (h : (bfsN nx s n).length = n) (hm : n ≤ most) (i : Nat) : ¬ most < (bfsN nx s i).length := by
  rcases Nat.le_total i n with hl | hl
  · obtain ⟨r, hr⟩ := bfs_le (nx := nx) (s := s) hl
    have := congrArg List.length hr
    rw [List.length_append] at this
    omega
  · rw [bfs_still (n := n) (by omega) hl]
    omega
theorem en_same {nds : List Nd} (hnn : ∀ (i : Nat) (n : Nd), nds[i]? = some n → 0 ≤ n.v ∧ 0 ≤ n.d) : nds.map enN = enF (nds.map Nd.p) (aOf nds) := by
  apply List.ext_getElem?
  intro i
  rw [List.getElem?_map, enF_get, List.getElem?_map]
  cases hi : nds[i]? with
  | none => rfl
  | some n =>
    obtain ⟨h1, h2⟩ := hnn i n hi
    rw [aOf_at hi]
    simp only [Option.map_some, Option.some.injEq, enN, Prod.mk.injEq, true_and]
    omega
def ltE (x y : Po × Int × Int) : Prop := cmpP x.1 y.1 < 0
theorem ltE_irr (x : Po × Int × Int) : ¬ ltE x x := by
  unfold ltE
  rw [cmpP_K, cmpK_TO.same]
  omega
theorem ltE_tr (x y z : Po × Int × Int) (h1 : ltE x y) (h2 : ltE y z) : ltE x z := by
  unfold ltE at *
  rw [cmpP_K] at *
  exact cmpK_TO.trans _ _ _ h1 h2
/-- Unlike keys: one is ahead. -/
theorem ltE_or {x y : Po × Int × Int} (h : keyP x.1 ≠ keyP y.1) : ltE x y ∨ ltE y x := by
  unfold ltE
  rw [cmpP_K, cmpP_K]
  by_cases h0 : cmpK (keyP x.1) (keyP y.1) < 0
  · exact .inl h0
  · right
    by_cases h1 : cmpK (keyP x.1) (keyP y.1) = 0
    · exact absurd (cmpK_TO.one _ _ h1) h
    · exact cmpK_TO.back _ _ (by omega)

/-- What both come to. -/
theorem tables_same {nx : Po → List Po} {ev : Po → Int} {s : Po} {ok : Po → Prop} {nds : List Nd} {ts ts' : List (Po × Int × Int)} {N D : Nat} (hs : ok s) (hstay : ∀ p, ok p → ∀ q ∈ nx p, ok q) (hkey : ∀ p q, ok p → ok q → keyP p = keyP q → p = q) (hev : ∀ p, ok p → nx p = [] → 1 ≤ ev p)
    (hpos : nds.map Nd.p = bfsN nx s nds.length) (hco : Cons nds.length (nxtG nx (bfsN nx s nds.length)) (v0G nx ev (bfsN nx s nds.length)) (aOf nds)) (hnn : ∀ (i : Nat) (n : Nd), nds[i]? = some n → 0 ≤ n.v ∧ 0 ≤ n.d)
    (hpm : PermIn 0 (nds.map enN).toArray.size (nds.map enN).toArray ts.toArray) (hsd : SortedIn (ltOf fun x y : Po × Int × Int => cmpP x.1 y.1) 0 (nds.map enN).toArray.size ts.toArray)
    (hN : (bfsN nx s N).length = N) (hD : ∀ i, i < N → rds (nxtG nx (bfsN nx s N)) (v0G nx ev (bfsN nx s N)) (D + 1) i = rds (nxtG nx (bfsN nx s N)) (v0G nx ev (bfsN nx s N)) D i)
    (hp' : ts'.Perm (enF (bfsN nx s N) (finR (rds (nxtG nx (bfsN nx s N)) (v0G nx ev (bfsN nx s N)) D)))) (hs' : ts'.Pairwise ltE) : ts = ts' := by
  have hn : (bfsN nx s nds.length).length = nds.length := by rw [← hpos, List.length_map]
  have hnN : nds.length = N := bfs_fix hn hN
  have hall : ∀ p ∈ bfsN nx s N, ok p := bfs_ok hs hstay N
  have hnd : (bfsN nx s N).Nodup := bfs_nodup N
  rw [hnN] at hpos hco
  obtain ⟨all, hal⟩ : ∃ all, all = bfsN nx s N := ⟨_, rfl⟩
  rw [← hal] at hpos hco hN hD hp' hall hnd
  have hcl : ∀ p ∈ all, ∀ q ∈ nx p, q ∈ all := by
    rw [hal]
    exact fun p hp2 q hq => bfs_closed (by rw [← hal, hN]; exact Nat.le_refl _) hp2 hq
  have hat : ∀ i, i < N → ∃ p, all[i]? = some p ∧ p ∈ all := fun i hi => ⟨all[i]'(by omega), List.getElem?_eq_getElem (by omega), List.getElem_mem _⟩
  have hne : ∀ i, i < N → v0G nx ev all i = 0 → nxtG nx all i ≠ [] := fun i hi h0 => by
    obtain ⟨p, hp1, hp2⟩ := hat i hi
    unfold v0G at h0
    rw [hp1] at h0
    unfold nxtG sucL
    rw [hp1]
    intro hh
    have hx : nx p = [] := List.map_eq_nil_iff.1 hh
    have := hev p (hall p hp2) hx
    simp only [hx, if_true] at h0
    omega
  have hin : ∀ i, i < N → ∀ j ∈ nxtG nx all i, j < N := fun i hi j hj => by
    obtain ⟨p, hp1, hp2⟩ := hat i hi
    unfold nxtG sucL at hj
    rw [hp1] at hj
    obtain ⟨q, hq, rfl⟩ := List.mem_map.1 hj
    rw [← hN]
    exact List.idxOf_lt_length_iff.2 (hcl p hp2 q hq)
  have hone := cons_one hin hco (rds_cons hne hD)
  have hen : nds.map enN = enF all (finR (rds (nxtG nx all) (v0G nx ev all) D)) := by
    rw [en_same hnn, hpos]
    exact enF_cong (fun i hi => hone i (by omega))
  have hkn : ((nds.map enN).map fun x => keyP x.1).Nodup := by
    rw [hen, show (fun x : Po × Int × Int => keyP x.1) = keyP ∘ (fun x => x.1) from rfl, ← List.map_map, enF_pos]
    rw [List.nodup_iff_pairwise_ne] at hnd ⊢
    rw [List.pairwise_map]
    refine hnd.imp_of_mem (fun {a b} ha hb hab e => hab (hkey a b (hall a ha) (hall b hb) e))
  obtain ⟨h1, h2⟩ := sortedE hpm hsd hkn
  have h1' : ts.Perm (nds.map enN) := h1
  rw [hen] at h1'
  exact sorted_one (lt := ltE) ltE_irr ltE_tr (h1'.trans hp'.symm) h2 hs'
end Go.Proofs.YtbijadnekoeofaaGreatDoor
