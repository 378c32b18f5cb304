/-
  gameref.before, walked: the same order as table.compare's.
  gameref.Tabled, walked.
  gamelaw.TableMakes, walked for whatever comes in.
  Plain mathematics: what a table says of each of its positions (for gamekeep.TableTrue).
  append leaves what the elder slice reads; maps that tell, of positions, what a table says of each (for table.Best).
-/
import Derived.Test.YtbijadnekoeofaaGreatDoorJ26
import Derived.Test.YtbijadnekoeofaaGreatDoorJ36
import Derived.Test.YtbijadnekoeofaaGreatDoorJ37
import Derived.Test.YtbijadnekoeofaaGreatDoorJ5
import Derived.Test.YtbijadnekoeofaaGreatDoorJ8
import Derived.Deep.RegionHeld3
import Derived.Deep.DeepCutAuto
import Derived.BigQuiet
import Derived.Deep.Cut
import Derived.Test.YtbijadnekoeofaaGreatDoorJ21
import Derived.Test.YtbijadnekoeofaaGreatDoorJ22
import Derived.Test.YtbijadnekoeofaaGreatDoorJ23
import Derived.Test.YtbijadnekoeofaaGreatDoorJ35
namespace Go.Proofs.YtbijadnekoeofaaGreatDoor
open Go.RowKit

end Go.Proofs.YtbijadnekoeofaaGreatDoor

namespace Go.Proofs.YtbijadnekoeofaaGreatDoor
open Go.RowKit
attribute [local go_sem ↓] Go.wp_at_zero Go.wp_at_succ

theorem cutForT (R : Nat → World → Prop) {T : Nat → World → Prop} {G : Prop} (k : Hid (∀ b v, R b v → T b v) → G) (p : ∀ b v, R b v → T b v) : G := k (hide p)
theorem isPb.setAllT {w : World} {b : Nat} {W H T : Int} {C A B : ByteArray} (h : isPb w b W H T C A B) (W' H' T' : Int) (C' A' B' : ByteArray) : isPb ((((((w.setCell ⟨b, 0, none⟩ (.int .i64 W')).setCell ⟨b, 1, none⟩ (.int .i64 H')).setCell ⟨b, 2, none⟩ (.string C')).setCell ⟨b, 3, none⟩ (.int .i64 T')).setCell ⟨b, 4, none⟩ (.string A')).setCell ⟨b, 5, none⟩ (.string B')) b W' H' T' C' A' B' := by
  unfold isPb at h ⊢
  simp [World.setCell, Array.getElem?_modify, h]
theorem isPb.frozenT {w : World} {b : Nat} {W H T : Int} {C A B : ByteArray} (h : isPb w b W H T C A B) (k : Nat) : w.frozen? ⟨b, k, none⟩ = false := frozen_of_row w b k _ _ h
theorem below_setT {B : Nat} {w u : World} {b : Nat} (h : Below B w u) (hb : B ≤ b) (x0 x1 x2 x3 x4 x5 : Value) : Below B w ((((((u.setCell ⟨b, 0, none⟩ x0).setCell ⟨b, 1, none⟩ x1).setCell ⟨b, 2, none⟩ x2).setCell ⟨b, 3, none⟩ x3).setCell ⟨b, 4, none⟩ x4).setCell ⟨b, 5, none⟩ x5) :=
  (((((h.setCell (p := ⟨b, 0, none⟩) hb x0).setCell (p := ⟨b, 1, none⟩) hb x1).setCell (p := ⟨b, 2, none⟩) hb x2).setCell (p := ⟨b, 3, none⟩) hb x3).setCell (p := ⟨b, 4, none⟩) hb x4).setCell (p := ⟨b, 5, none⟩) hb x5


end Go.Proofs.YtbijadnekoeofaaGreatDoor

namespace Go.Proofs.YtbijadnekoeofaaGreatDoor
open Go.RowKit Go.Sort

theorem data_tstrT (C : ByteArray) (W H k : Nat) : (tstr C W H k).data.toList = tcells C.data.toList W H k (twd W H k) (W * H) := by simp [tstr]
/-- The whole board, not turned. -/
theorem tstr_none (C : ByteArray) (W H : Nat) (hC : C.size = W * H) : tstr C W H 0 = C := by
  apply ByteArray.ext
  apply Array.toList_inj.1
  rw [data_tstrT]
  apply List.ext_getElem?
  intro i
  unfold tcells
  rw [List.getElem?_map]
  by_cases hi : i < W * H
  · rw [List.getElem?_range hi]
    have hw : twd W H 0 = W := rfl
    have hl : i < C.data.toList.length := by rw [len_data, hC]; exact hi
    show some (tcell C.data.toList W H 0 (twd W H 0) i) = _
    unfold tcell
    rw [hw]
    have e : (srcY H 0 (i % W : Nat) (i / W : Nat) * W + srcX W 0 (i % W : Nat) (i / W : Nat)).toNat = i := by
      have h1 : srcY H 0 (i % W : Nat) (i / W : Nat) = (i / W : Nat) := rfl
      have h2 : srcX W 0 (i % W : Nat) (i / W : Nat) = (i % W : Nat) := rfl
      rw [h1, h2, ← Int.natCast_mul, ← Int.natCast_add, Int.toNat_natCast, Nat.mul_comm]
      exact Nat.div_add_mod _ _
    rw [e, List.getD_eq_getElem?_getD, List.getElem?_eq_getElem hl]
    rfl
  · rw [List.getElem?_eq_none (by simpa using hi), List.getElem?_eq_none (by rw [len_data, hC]; omega)]
    rfl
theorem wonI_12 (T : Int) : wonI T = 1 ∨ wonI T = 2 := by unfold wonI; split <;> simp
theorem dec_range (W H T : Nat) (C : ByteArray) (lo : Nat) (li : Int) (re : Nat) : decO W H T C lo li re = 0 ∨ decO W H T C lo li re = 1 ∨ decO W H T C lo li re = 2 := by
  unfold decO
  have h1 := wonI_12 (1 - (T : Int))
  have h2 := wonI_12 (T : Int)
  repeat' split
  all_goals first | (rcases h1 with h | h <;> rw [h] <;> simp; done) | (rcases h2 with h | h <;> rw [h] <;> simp; done) | simp
theorem out_range (W H T : Nat) (C A B : ByteArray) (ps : List Pc) (dr st : Bool) (lo : Nat) (li : Int) (re : Nat) : 0 ≤ outO W H T C A B ps dr st lo li re ∧ outO W H T C A B ps dr st lo li re ≤ 3 := by
  unfold outO
  have h1 := dec_range W H T C lo li re
  have h2 := wonI_12 (1 - (T : Int))
  repeat' split
  all_goals omega
theorem end_same {o T : Int} (h0 : o ≠ 0) (h1 : 0 ≤ o ∧ o ≤ 3) (hT : T = 0 ∨ T = 1) : endW o T = endV o T ∧ 1 ≤ endV o T := by
  unfold endW endV
  rcases hT with rfl | rfl <;> repeat' split
  all_goals omega
theorem ba_eq {a b : ByteArray} (h : a.data.toList = b.data.toList) : a = b := by
  cases a with | mk x => cases b with | mk y => simp only at h; rw [Array.toList_inj.1 h]
theorem okP_key {W0 H0 T0 : Int} {C0 A0 B0 : List UInt8} {ps : List Pc} {lo re : Nat} {li pl : Int} {p q : Po} (hp : OkP W0 H0 T0 C0 A0 B0 ps lo re li pl p) (hq : OkP W0 H0 T0 C0 A0 B0 ps lo re li pl q) (h : keyP p = keyP q) : p = q := by
  unfold OkP atB at hp hq
  simp only [Bool.and_eq_true, decide_eq_true_eq] at hp hq
  obtain ⟨⟨⟨⟨-, -⟩, h1⟩, h2⟩, -⟩ := hp
  obtain ⟨⟨⟨⟨-, -⟩, h3⟩, h4⟩, -⟩ := hq
  simp only [keyP, Prod.mk.injEq] at h
  obtain ⟨e1, e2, e3, e4⟩ := h
  have f1 := ba_eq e1
  have f3 := ba_eq e3
  have f4 := ba_eq e4
  cases p
  cases q
  simp only at *
  subst h1 h2 f1 e2 f3 f4
  subst h3 h4
  rfl

end Go.Proofs.YtbijadnekoeofaaGreatDoor

namespace Go.Proofs.YtbijadnekoeofaaGreatDoor
open Go.Sort

/-- There are no more rounds than positions. -/
theorem rds_ends {n : Nat} (nxt : Nat → List Nat) (v0 : Nat → Nat) : ∃ D, D ≤ n ∧ ∀ i, i < n → rds nxt v0 (D + 1) i = rds nxt v0 D i := by
  have key : ∀ d, (∃ D, D ≤ n ∧ ∀ i, i < n → rds nxt v0 (D + 1) i = rds nxt v0 D i) ∨ d + opn (rds nxt v0 d) n ≤ n := by
    intro d
    induction d with
    | zero => exact .inr (by have := opn_le (rds nxt v0 0) n; omega)
    | succ d ih =>
      rcases ih with h | h
      · exact .inl h
      · cases hf : fndN nxt (rds nxt v0 d) (d + 1) n with
        | false => exact .inl ⟨d, by omega, rds_still hf⟩
        | true =>
          right
          have h2 := opn_rnd (nxt := nxt) (A := rds nxt v0 d) (d := d + 1) n
          rw [if_pos hf] at h2
          have e : opn (rds nxt v0 (d + 1)) n = opn (rnd nxt (rds nxt v0 d) (d + 1)) n := rfl
          omega
  rcases key (n + 1) with h | h
  · exact h
  · omega
/-- A table of positions. -/
structure Tab (nx : Po → List Po) (ev : Po → Int) (s : Po) (ts : List (Po × Int × Int)) (V : Po → Int × Int) : Prop where
  nd : (ts.map (fun x => x.1)).Nodup
  st : s ∈ ts.map (fun x => x.1)
  cl : ∀ p ∈ ts.map (fun x => x.1), ∀ q ∈ nx p, q ∈ ts.map (fun x => x.1)
  val : ∀ x ∈ ts, x.2 = V x.1
  over : ∀ p ∈ ts.map (fun x => x.1), nx p = [] → V p = (ev p, 0)
  play : ∀ p ∈ ts.map (fun x => x.1), nx p ≠ [] →
    ((V p).1 = 1 ∧ (∃ q ∈ nx p, (V q).1 = 2 ∧ (V p).2 = (V q).2 + 1) ∧ ∀ q ∈ nx p, (V q).1 = 2 → (V p).2 ≤ (V q).2 + 1) ∨
    ((V p).1 = 2 ∧ (∀ q ∈ nx p, (V q).1 = 1 ∧ (V q).2 + 1 ≤ (V p).2) ∧ ∃ q ∈ nx p, (V p).2 = (V q).2 + 1) ∨
    (V p = (3, 0) ∧ (∀ q ∈ nx p, (V q).1 ≠ 2) ∧ ∃ q ∈ nx p, (V q).1 ≠ 1)
  bd : ∀ p ∈ ts.map (fun x => x.1), 1 ≤ (V p).1 ∧ (V p).1 ≤ 3 ∧ 0 ≤ (V p).2 ∧ (V p).2 ≤ 5000
  len : ts.length ≤ 5000 ∧ 0 < ts.length

theorem tab_of {nx : Po → List Po} {ev : Po → Int} {s : Po} {ok : Po → Prop} {nds : List Nd} {ts : List (Po × Int × Int)} (hs : ok s) (hstay : ∀ p, ok p → ∀ q ∈ nx p, ok q) (hev : ∀ p, ok p → nx p = [] → 1 ≤ ev p ∧ ev p ≤ 3) (hm : nds.length ≤ 5000)
    (hpos : nds.map Nd.p = bfsN nx s nds.length) (hco : Cons nds.length (nxtG nx (bfsN nx s nds.length)) (v0G nx ev (bfsN nx s nds.length)) (aOf nds)) (hnn : ∀ (i : Nat) (n : Nd), nds[i]? = some n → 0 ≤ n.v ∧ 0 ≤ n.d)
    (hpm : PermIn 0 (nds.map enN).toArray.size (nds.map enN).toArray ts.toArray) : ∃ V, Tab nx ev s ts V := by
  obtain ⟨n, hn⟩ : ∃ n, n = nds.length := ⟨_, rfl⟩
  rw [← hn] at hpos hco hm
  obtain ⟨all, hal⟩ : ∃ all, all = bfsN nx s n := ⟨_, rfl⟩
  rw [← hal] at hpos hco
  have hN : all.length = n := by rw [← hpos, List.length_map, hn]
  have hall : ∀ p ∈ all, ok p := by rw [hal]; exact bfs_ok hs hstay n
  have hnd : all.Nodup := by rw [hal]; exact bfs_nodup n
  have hsa : s ∈ all := by
    obtain ⟨r, hr⟩ := bfs_le (nx := nx) (s := s) (Nat.zero_le n)
    rw [hal, hr]
    simp [bfsN]
  have hcl : ∀ p ∈ all, ∀ q ∈ nx p, q ∈ all := by
    rw [hal]
    exact fun p hp2 q hq => bfs_closed (by rw [← hal, hN]; exact Nat.le_refl _) hp2 hq
  have hper : ts.Perm (nds.map enN) := by
    obtain ⟨h1, -, h3⟩ := hpm
    have e1 : ts.toArray.extract 0 (nds.map enN).toArray.size = ts.toArray := by rw [← h1]; exact Array.extract_size
    have e2 : (nds.map enN).toArray.extract 0 (nds.map enN).toArray.size = (nds.map enN).toArray := Array.extract_size
    rw [e1, e2] at h3
    exact h3
  have hen : nds.map enN = enF all (aOf nds) := by rw [en_same hnn, hpos]
  rw [hen] at hper
  have hmp : (ts.map (fun x => x.1)).Perm all := by
    have := hper.map (fun x : Po × Int × Int => x.1)
    rw [enF_pos] at this
    exact this
  have hmem : ∀ p, p ∈ ts.map (fun x => x.1) ↔ p ∈ all := fun p => hmp.mem_iff
  let V : Po → Int × Int := fun p => (((aOf nds (all.idxOf p)).1 : Int), ((aOf nds (all.idxOf p)).2 : Int))
  -- distances
  have hne : ∀ i, i < n → v0G nx ev all i = 0 → nxtG nx all i ≠ [] := fun i hi h0 => by
    obtain ⟨p, hp1⟩ : ∃ p, all[i]? = some p := ⟨_, List.getElem?_eq_getElem (by omega)⟩
    unfold v0G at h0
    rw [hp1] at h0
    unfold nxtG sucL
    rw [hp1]
    intro hh
    have hx : nx p = [] := List.map_eq_nil_iff.1 hh
    have := (hev p (hall p (List.mem_of_getElem? hp1)) hx).1
    simp only [hx, if_true] at h0
    omega
  have hin : ∀ i, i < n → ∀ j ∈ nxtG nx all i, j < n := fun i hi j hj => by
    obtain ⟨p, hp1⟩ : ∃ p, all[i]? = some p := ⟨_, List.getElem?_eq_getElem (by omega)⟩
    unfold nxtG sucL at hj
    rw [hp1] at hj
    obtain ⟨q, hq, rfl⟩ := List.mem_map.1 hj
    rw [← hN]
    exact List.idxOf_lt_length_iff.2 (hcl p (List.mem_of_getElem? hp1) q hq)
  obtain ⟨D, hDn, hD⟩ := rds_ends (n := n) (nxtG nx all) (v0G nx ev all)
  have hone := cons_one hin hco (rds_cons hne hD)
  have hdist : ∀ i, i < n → (aOf nds i).2 ≤ n := fun i hi => by
    rw [hone i hi]
    unfold finR
    split
    · exact Nat.zero_le _
    · rename_i h
      have := rds_dist (nxt := nxtG nx all) (v0 := v0G nx ev all) (d := D) (i := i) h
      omega
  have hidx : ∀ p ∈ all, all.idxOf p < n := fun p hp => by rw [← hN]; exact List.idxOf_lt_length_iff.2 hp
  have hsu : ∀ p ∈ all, nxtG nx all (all.idxOf p) = (nx p).map all.idxOf := fun p hp => by unfold nxtG sucL; rw [idx_at hp]
  have hv0 : ∀ p ∈ all, v0G nx ev all (all.idxOf p) = if nx p = [] then (ev p).toNat else 0 := fun p hp => by unfold v0G; rw [idx_at hp]
  have hplay : ∀ p ∈ all, nx p ≠ [] →
    ((V p).1 = 1 ∧ (∃ q ∈ nx p, (V q).1 = 2 ∧ (V p).2 = (V q).2 + 1) ∧ ∀ q ∈ nx p, (V q).1 = 2 → (V p).2 ≤ (V q).2 + 1) ∨
    ((V p).1 = 2 ∧ (∀ q ∈ nx p, (V q).1 = 1 ∧ (V q).2 + 1 ≤ (V p).2) ∧ ∃ q ∈ nx p, (V p).2 = (V q).2 + 1) ∨
    (V p = (3, 0) ∧ (∀ q ∈ nx p, (V q).1 ≠ 2) ∧ ∃ q ∈ nx p, (V q).1 ≠ 1) := fun p hp hx => by
    have h0 : v0G nx ev all (all.idxOf p) = 0 := by rw [hv0 p hp, if_neg hx]
    have hc := hco.play _ (hidx p hp) h0
    rw [hsu p hp] at hc
    have mm : ∀ {r : Po}, r ∈ nx p → all.idxOf r ∈ (nx p).map all.idxOf := fun {r} hr => List.mem_map.2 ⟨r, hr, rfl⟩
    rcases hc with ⟨a, ⟨j, hj, b, c⟩, d⟩ | ⟨a, b, j, hj, c⟩ | ⟨a, b, j, hj, c⟩ <;> obtain ⟨q, hq, rfl⟩ := List.mem_map.1 hj
    · exact .inl ⟨by show ((aOf nds (all.idxOf p)).1 : Int) = 1; omega, ⟨q, hq, by show ((aOf nds (all.idxOf q)).1 : Int) = 2; omega, by show ((aOf nds (all.idxOf p)).2 : Int) = ((aOf nds (all.idxOf q)).2 : Int) + 1; omega⟩, fun r hr h2 => by
        have h3 : (aOf nds (all.idxOf r)).1 = 2 := by have : ((aOf nds (all.idxOf r)).1 : Int) = 2 := h2; omega
        have := d _ (mm hr) h3
        show ((aOf nds (all.idxOf p)).2 : Int) ≤ ((aOf nds (all.idxOf r)).2 : Int) + 1
        omega⟩
    · exact .inr (.inl ⟨by show ((aOf nds (all.idxOf p)).1 : Int) = 2; omega, fun r hr => by
        have := b _ (mm hr)
        exact ⟨by show ((aOf nds (all.idxOf r)).1 : Int) = 1; omega, by show ((aOf nds (all.idxOf r)).2 : Int) + 1 ≤ ((aOf nds (all.idxOf p)).2 : Int); omega⟩, q, hq, by show ((aOf nds (all.idxOf p)).2 : Int) = ((aOf nds (all.idxOf q)).2 : Int) + 1; omega⟩)
    · exact .inr (.inr ⟨by show (((aOf nds (all.idxOf p)).1 : Int), ((aOf nds (all.idxOf p)).2 : Int)) = (3, 0); rw [a]; rfl, fun r hr h2 => by
        have : ((aOf nds (all.idxOf r)).1 : Int) = 2 := h2
        exact b _ (mm hr) (by omega), q, hq, fun h1 => by
        have : ((aOf nds (all.idxOf q)).1 : Int) = 1 := h1
        exact c (by omega)⟩)
  have hover : ∀ p ∈ all, nx p = [] → V p = (ev p, 0) := fun p hp hx => by
    have he := hev p (hall p hp) hx
    have h0 := hv0 p hp
    rw [if_pos hx] at h0
    have hc := hco.over _ (hidx p hp) (by rw [h0]; omega)
    show (((aOf nds (all.idxOf p)).1 : Int), ((aOf nds (all.idxOf p)).2 : Int)) = (ev p, 0)
    rw [hc, h0]
    simp
    omega
  refine ⟨V, ⟨hmp.nodup_iff.2 hnd, (hmem s).2 hsa, fun p hp q hq => (hmem q).2 (hcl p ((hmem p).1 hp) q hq), fun x hx => ?_, fun p hp => hover p ((hmem p).1 hp), fun p hp => hplay p ((hmem p).1 hp), fun p hp => ?_, ?_⟩⟩
  · have hx2 := hper.subset hx
    obtain ⟨i, hi⟩ := List.getElem?_of_mem hx2
    rw [enF_get] at hi
    obtain ⟨p, hp, rfl⟩ := Option.map_eq_some_iff.1 hi
    show (((aOf nds i).1 : Int), ((aOf nds i).2 : Int)) = (((aOf nds (all.idxOf p)).1 : Int), ((aOf nds (all.idxOf p)).2 : Int))
    rw [idx_of hnd hp]
  · have hp' := (hmem p).1 hp
    have hd := hdist _ (hidx p hp')
    have hd2 : (V p).2 ≤ 5000 := by show ((aOf nds (all.idxOf p)).2 : Int) ≤ 5000; omega
    have hd0 : 0 ≤ (V p).2 := Int.natCast_nonneg _
    by_cases hx : nx p = []
    · have he := hev p (hall p hp') hx
      have := hover p hp' hx
      rw [this]
      exact ⟨he.1, he.2, by simp, by simp⟩
    · rcases hplay p hp' hx with ⟨a, -⟩ | ⟨a, -⟩ | ⟨a, -⟩
      · omega
      · omega
      · rw [a]; simp
  · have h1 := hper.length_eq
    rw [enF_len, hN] at h1
    have h2 := bfs_pos (nx := nx) (s := s) n
    rw [← hal, hN] at h2
    omega
/-- Where an entry stands. -/
theorem Tab.at_ {nx : Po → List Po} {ev : Po → Int} {s : Po} {ts : List (Po × Int × Int)} {V : Po → Int × Int} (h : Tab nx ev s ts V) {p : Po} (hp : p ∈ ts.map (fun x => x.1)) : ts[(ts.map (fun x => x.1)).idxOf p]? = some (p, (V p).1, (V p).2) := by
  have h1 := idx_at hp
  rw [List.getElem?_map, Option.map_eq_some_iff] at h1
  obtain ⟨x, hx, rfl⟩ := h1
  rw [hx]
  have := h.val x (List.mem_of_getElem? hx)
  obtain ⟨a, b⟩ := x
  simp only at this
  rw [this]
end Go.Proofs.YtbijadnekoeofaaGreatDoor

namespace Go.Proofs.YtbijadnekoeofaaGreatDoor
open Go.Maps (Keyed)
open Go.RowKit

theorem app_keep {u : World} {base : Nat} {t e : TypeId} {i : TypeInfo} {z : Value} {size bytes : Nat} (ht : Tryz.prog.underlying t = some (.slice e)) (hi : Tryz.prog.info? e = some i) (hz : i.zero = some z) (hsize : i.size = size) (hby : i.bytes = bytes) (hzs : z.cells.size = size) (hsz : 0 < size)
    {g n cap : Nat} {xs : List Value} (h : u.ownsRow base e size (.slice (some ⟨g, 0, none⟩) n cap) n xs) (news : List Value) (hl : news.length = size) (h1 : ∀ x ∈ news, x.oneCell' = true) (h63 : n + 1 ≤ maxLen) (hbytes : (n + 1) * bytes ≤ 140737488355328) (hbase : base ≤ u.heap.size) :
    ∃ v' u', (Builtin.append_ #[t, t] t #[.slice (some ⟨g, 0, none⟩) n cap, .slice (some ⟨u.heap.size, 0, none⟩) 1 1]).run Tryz.prog (u.alloc (.cells news.toArray e (0, 0))) = .ok v' u' ∧ u'.ownsRow base e size v' (n + 1) (xs ++ news) ∧ (∀ k, k < u.heap.size → k ≠ g → u'.heap[k]? = u.heap[k]?) ∧ u.heap.size ≤ u'.heap.size ∧ u'.os = u.os ∧ u'.tape = u.tape ∧ u'.output = u.output ∧
      (∀ j, j < n * size → u'.cell? ⟨g, j, none⟩ = xs[j]?) ∧ g < u'.heap.size := by
  obtain ⟨v', u', hrun, hrow, hk, hs, ho, hta, hp, hob⟩ := app_box ht hi hz hsize hby hzs hsz h news hl h1 h63 hbytes hbase
  have hgl : g < u.heap.size := (row_block h (g := g) rfl).2
  refine ⟨v', u', hrun, hrow, fun k hk1 hne => hk k hk1 (by simp only [Value.ownBlock, ne_eq, Option.some.injEq]; exact fun e => hne e.symm), hs, ho, hta, hp, fun j hj => ?_, by omega⟩
  have hxl : xs.length = n * size := h.1
  rcases hob with hob | ⟨g', hob, hg'⟩
  · rcases hrow.2 with ⟨_, h0⟩ | ⟨g2, c2, cur, e2, _⟩
    · omega
    · subst e2
      simp only [Value.ownBlock, Option.some.injEq] at hob
      subst hob
      rw [hrow.cellAt j (by rw [Nat.add_mul]; omega), List.getElem?_append_left (by omega)]
  · have hba : Below u.heap.size u (u.alloc (.cells news.toArray e (0, 0))) := (Below.refl _ _).alloc (Nat.le_refl _) _
    have hr : (u.alloc (.cells news.toArray e (0, 0))).ownsRow base e size (.slice (some ⟨g, 0, none⟩) n cap) n xs := row_same h (fun g hg => hba.block g (row_block h hg).2)
    have hnews : ∀ (a : Nat) (x : Value), news[a]? = some x → (u.alloc (.cells news.toArray e (0, 0))).cell? ((⟨u.heap.size, 0, none⟩ : Addr).add a) = some x := fun a x hx => by
      have hh := heap_alloc_new u (.cells news.toArray e (0, 0))
      rw [show (⟨u.heap.size, 0, none⟩ : Addr).add a = ⟨u.heap.size, a, none⟩ by (simp [Addr.add]; try omega)]
      unfold World.cell?
      rw [hh]
      simpa using hx
    by_cases hc : n + 1 ≤ cap
    · obtain ⟨w2, hr2, -, -⟩ := run_append_fits (P := Tryz.prog) (w := u.alloc (.cells news.toArray e (0, 0))) base t t e i size ht hi hsize g n cap xs hr ⟨u.heap.size, 0, none⟩ 1 1 news (by omega) hnews h1 hc
      rw [hrun] at hr2
      simp only [Result.ok.injEq] at hr2
      rw [hr2.1] at hob
      simp only [Value.ownBlock, Option.some.injEq] at hob
      omega
    · have hr2 := run_append_grow (P := Tryz.prog) (w := u.alloc (.cells news.toArray e (0, 0))) t t e i z ht hi hz ⟨g, 0, none⟩ n cap xs (by rw [hsize]; exact hxl) (fun a x hx => by
        have hal : a < n * size := by have := (List.getElem?_eq_some_iff.1 hx).1; omega
        rw [show (⟨g, 0, none⟩ : Addr).add a = ⟨g, a, none⟩ by (simp [Addr.add]; try omega), hr.cellAt a hal]
        exact hx) ⟨u.heap.size, 0, none⟩ 1 1 news (by rw [hsize]; omega) hnews (by omega) (by unfold maxLen at h63; omega) (growslice_fits (by omega) (by rw [hby]; exact hbytes))
      rw [hrun] at hr2
      simp only [Result.ok.injEq] at hr2
      have hblk : u'.heap[g]? = u.heap[g]? := by
        rw [hr2.2]
        exact (Go.heap_alloc_old _ _ g (Nat.lt_of_lt_of_le hgl hba.size)).trans (hba.block g hgl)
      rw [World.cell?_of_block (a := ⟨g, j, none⟩) hblk, h.cellAt j hj]

/-- How a claim reads. -/
def clD (c : Int × Int × Bool) : DataW Unit := .agg [.lit (.int .i64 c.1), .lit (.int .i64 c.2.1), .lit (.int .i64 (if c.2.2 then 1 else 0))]
def clV (c : Int × Int × Bool) : Value := .agg #[.int .i64 c.1, .int .i64 c.2.1, .bool c.2.2]
def clR (v : Value) : Option (DataW Unit × List MemPlace) :=
  match v with
  | .agg cs =>
    match cs.toList with
    | [.int k n, .int k' d, .bool s] => if k = .i64 ∧ k' = .i64 then some (clD (n, d, s), []) else none
    | _ => none
  | _ => none
theorem clR_of (c : Int × Int × Bool) : clR (clV c) = some (clD c, []) := rfl
theorem clD_inj {c d : Int × Int × Bool} (h : clD c = clD d) : c = d := by
  obtain ⟨a, b, s⟩ := c
  obtain ⟨a', b', s'⟩ := d
  simp only [clD, DataW.agg.injEq, List.cons.injEq, DataW.lit.injEq, Lit.int.injEq, true_and, and_true] at h
  obtain ⟨h1, h2, h3⟩ := h
  subst h1 h2
  have : s = s' := by cases s <;> cases s' <;> simp at h3 <;> rfl
  rw [this]
theorem clR_inv {v : Value} {d : DataW Unit} {ps : List MemPlace} (h : clR v = some (d, ps)) : ∃ c, v = clV c ∧ d = clD c := by
  unfold clR at h
  split at h
  · rename_i cs
    split at h
    · rename_i k n k' e s hcs
      split at h
      · rename_i hk
        obtain ⟨rfl, rfl⟩ := hk
        simp only [Option.some.injEq, Prod.mk.injEq] at h
        refine ⟨(n, e, s), ?_, h.1.symm⟩
        have : cs = #[.int .i64 n, .int .i64 e, .bool s] := Array.ext' hcs
        rw [this]
        rfl
      · exact absurd h (by simp)
    · exact absurd h (by simp)
  · exact absurd h (by simp)
theorem clMap : Tryz.prog.underlying 108 = some (.map 24 112) := Tryz.underlying108
theorem clZ (w : World) : (zeroValue 112).run Tryz.prog w = .ok (clV (0, 0, false)) w := by kernel_rfl
/-- The map in block b: which positions it knows, and what it tells of each. -/
def sdM (w : World) (b N : Nat) (dom : List Po) (G : Po → Int × Int × Bool) : Prop :=
  ∃ D : DataW Unit, w.ownsMap Tryz.prog 24 clR b N D ∧ ∀ p : Po, p.ok → Maps.has D (litP p) = decide (p ∈ dom) ∧ D.atKey (litP p) (clD (0, 0, false)) = clD (G p)
section
variable {w w' : World} {b N : Nat} {dom : List Po} {G : Po → Int × Int × Bool}
theorem sdM.lt (h : sdM w b N dom G) : b < w.heap.size := by
  obtain ⟨D, hown, _⟩ := h
  exact hown.lt
theorem sdM.of_block (h : sdM w b N dom G) (hb : w'.heap[b]? = w.heap[b]?) : sdM w' b N dom G := by
  obtain ⟨D, ⟨es, clock, h3, h4⟩, h2⟩ := h
  exact ⟨D, ⟨es, clock, hb.trans h3, h4⟩, h2⟩
theorem sdM_made (w : World) : sdM (w.alloc (.map #[] 0)) w.heap.size 0 [] (fun _ => (0, 0, false)) :=
  ⟨.map [], World.ownsMap_made w Tryz.prog 24 clR, fun p _ => ⟨by simp [Maps.has], by simp [DataW.atKey]⟩⟩
theorem sdM.look (h : sdM w b N dom G) {p : Po} (hp : p.ok) : ∀ u : World, u.heap[b]? = w.heap[b]? → (Instr.lookup 108 (.map (some b)) (.agg #[.int .i64 p.W, .int .i64 p.H, .string p.C, .int .i64 p.T, .string p.A, .string p.B]) false).run Tryz.prog u = .ok (.agg #[.int .i64 (G p).1, .int .i64 (G p).2.1, .bool (G p).2.2]) u := by
  intro u hu
  obtain ⟨D, hown, h2⟩ := h.of_block hu
  obtain ⟨v, ps, hrun, hv⟩ := hown.lookup (Keyed.of_law posLaw) clMap (clZ u) (zd := clD (0, 0, false)) (zp := []) (clR_of _) ((poKey posT posKT posD).key p hp)
  have hat' : D.atKey ((poKey posT posKT posD).lit p) (clD (0, 0, false)) = clD (G p) := (h2 p hp).2
  rw [hat'] at hv
  obtain ⟨c, rfl, hd⟩ := clR_inv hv
  rw [clD_inj hd]
  exact hrun
theorem sdM.look_ok (h : sdM w b N dom G) {p : Po} (hp : p.ok) : ∀ u : World, u.heap[b]? = w.heap[b]? → (Instr.lookup 108 (.map (some b)) (.agg #[.int .i64 p.W, .int .i64 p.H, .string p.C, .int .i64 p.T, .string p.A, .string p.B]) true).run Tryz.prog u = .ok (.tuple #[.agg #[.int .i64 (G p).1, .int .i64 (G p).2.1, .bool (G p).2.2], .bool (decide (p ∈ dom))]) u := by
  intro u hu
  obtain ⟨D, hown, h2⟩ := h.of_block hu
  obtain ⟨v, ps, hrun, hv⟩ := hown.look_ok (Keyed.of_law posLaw) clMap (clZ u) (zd := clD (0, 0, false)) (zp := []) (clR_of _) ((poKey posT posKT posD).key p hp)
  have hat' : D.atKey ((poKey posT posKT posD).lit p) (clD (0, 0, false)) = clD (G p) := (h2 p hp).2
  have hh : Maps.has D ((poKey posT posKT posD).lit p) = decide (p ∈ dom) := (h2 p hp).1
  rw [hat'] at hv
  rw [hh] at hrun
  obtain ⟨c, rfl, hd⟩ := clR_inv hv
  rw [clD_inj hd]
  exact hrun
theorem sdM.put (h : sdM w b N dom G) (hN : N < 1000000) {p : Po} (hp : p.ok) (c : Int × Int × Bool) : ∃ w', (Instr.mapUpdate 108 (.map (some b)) (.agg #[.int .i64 p.W, .int .i64 p.H, .string p.C, .int .i64 p.T, .string p.A, .string p.B]) (.agg #[.int .i64 c.1, .int .i64 c.2.1, .bool c.2.2])).run Tryz.prog w = .ok () w' ∧ sdM w' b (N + 1) (p :: dom) (fun q => if q = p then c else G q) ∧ w.grownBy w' (some b) := by
  obtain ⟨D, hown, h2⟩ := h
  have hk := (poKey posT posKT posD).key p hp
  obtain ⟨w', hrun, ho, hg⟩ := hown.update (Keyed.of_law posLaw) clMap (by unfold maxLen; omega) hk (val := clV c) (d := clD c) (ps := []) (clR_of _)
  refine ⟨w', hrun, ⟨_, ho, fun q hq => ?_⟩, hg⟩
  have hkl := (Keyed.of_law posLaw).key hk
  by_cases hqp : q = p
  · subst hqp
    refine ⟨?_, ?_⟩
    · rw [show decide (q ∈ q :: dom) = true by simp]
      exact Maps.has_put_same hown.isMap hkl _
    · show _ = clD (if q = q then c else G q)
      rw [if_pos rfl]
      exact Maps.atKey_put_same hown.isMap hkl _ _
  · have hne : litP q ≠ litP p := fun e1 => hqp (KeyMk.lit_inj (M := poKey posT posKT posD) posLaw hq hp e1)
    obtain ⟨h3, h4⟩ := h2 q hq
    refine ⟨?_, ?_⟩
    · rw [show decide (q ∈ p :: dom) = decide (q ∈ dom) from decide_eq_decide.2 (by simp [hqp]), ← h3]
      exact Maps.has_put_other hne _
    · show _ = clD (if q = p then c else G q)
      rw [if_neg hqp, ← h4]
      exact Maps.atKey_put_other hne _ _
end
end Go.Proofs.YtbijadnekoeofaaGreatDoor
