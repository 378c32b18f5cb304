/-
  package tourney, walked: join.
-/
import Derived.Test.YtppkejblhkbkjaaZ13
import Derived.Deep.MidRow
namespace Go.Proofs.Ytppkejblhkbkjaa
open Go.RowKit Tu
attribute [local go_sem ↓] Go.wp_at_zero Go.wp_at_succ

theorem index60 (cs : Array Value) (v : Value) (i : Nat) (hi : i < 60) (hx : cs[i]? = some v) (w : World) : (Instr.index 60 (.agg cs) (.int .i64 (i : Int))).run Try.prog w = .ok v w := by
  simp [Instr.index, run_underlying Try.underlying60, asIntOf, go_sem, hi, hx]
theorem pair2_0 (a b : Int) (w : World) : (Instr.index 45 (.agg #[.int .i64 a, .int .i64 b]) (.int .i64 0)).run Try.prog w = .ok (.int .i64 a) w := by kernel_rfl
theorem pair2_1 (a b : Int) (w : World) : (Instr.index 45 (.agg #[.int .i64 a, .int .i64 b]) (.int .i64 1)).run Try.prog w = .ok (.int .i64 b) w := by kernel_rfl

def kL (M : Nat → Option Nat) (xs : List Nat) : Nat → Bool := fun y => decide (y ∈ xs.map (mate M))
def jL (xs : List Nat) : Nat → Bool := fun x => decide (x ∈ xs)
/-- Who has been joined so far. -/
def bL (M : Nat → Option Nat) (xs : List Nat) : Nat → Bool := fun y => jL xs y || kL M xs y
section
variable {M : Nat → Option Nat} {S : Nat → Bool} {tn : Nat → Tn} {xs : List Nat} {x a b : Nat}
theorem kL_S : updT (jS S (kL M xs)) (mate M x) true = jS S (kL M (xs ++ [x])) := by
  funext z
  by_cases e : z = mate M x
  · subst e
    rw [updT_same]
    simp [jS, kL]
  · rw [updT_other _ _ e]
    simp [jS, kL, e]
theorem kL_T : updT (jT tn (kL M xs) a b) (mate M x) (.edge a b) = jT tn (kL M (xs ++ [x])) a b := by
  funext z
  by_cases e : z = mate M x
  · subst e
    rw [updT_same]
    simp [jT, kL]
  · rw [updT_other _ _ e]
    simp [jT, kL, e]
theorem kL_B : updT (updT (bL M xs) x true) (mate M x) true = bL M (xs ++ [x]) := by
  funext z
  by_cases e : z = mate M x
  · subst e
    rw [updT_same]
    simp [bL, kL]
  · rw [updT_other _ _ e]
    by_cases e' : z = x
    · subst e'
      rw [updT_same]
      simp [bL, jL]
    · rw [updT_other _ _ e']
      simp [bL, jL, kL, e, e']
end
theorem Fr.trans {t : Nat} {qv qv' : Value} {U V W : World} (h : Fr t qv U V) (hn : Nx U qv qv') (k : Fr t qv' V W) : Fr t qv U W := by
  refine ⟨k.os.trans h.os, k.tape.trans h.tape, k.output.trans h.output, Nat.le_trans h.size k.size, fun i hi h1 h2 => (k.block i (Nat.lt_of_lt_of_le hi h.size) h1 (fun e => ?_)).trans (h.block i hi h1 h2)⟩
  rcases hn with hn | ⟨q, hn, hq⟩
  · exact h2 (by rw [← hn]; exact e)
  · rw [hn] at e
    have := Option.some.inj e
    omega
theorem Fr.of_below {t : Nat} {qv : Value} {W W' : World} (h : Below W.heap.size W W') : Fr t qv W W' := ⟨h.os, h.tape, h.output, h.size, fun k hk _ _ => h.block k hk⟩
theorem Nx.trans {U V : World} {q1 q2 q3 : Value} (hs : U.heap.size ≤ V.heap.size) (h : Nx U q1 q2) (k : Nx V q2 q3) : Nx U q1 q3 := by
  rcases k with k | ⟨q, k, hq⟩
  · rcases h with h | ⟨q, h, hq⟩
    · exact .inl (k.trans h)
    · exact .inr ⟨q, k.trans h, hq⟩
  · exact .inr ⟨q, k, by omega⟩
/-- Writing into a young block leaves the frame. -/
theorem Fr.young {t : Nat} {qv : Value} {U V : World} {jb : Nat} (h : Fr t qv U V) (hj : U.heap.size ≤ jb) (o : Nat) (v : Value) : Fr t qv U (V.setCell ⟨jb, o, none⟩ v) := by
  have hg : Gb jb V (V.setCell ⟨jb, o, none⟩ v) := Gb.set _ _
  exact ⟨hg.os.trans h.os, hg.tape.trans h.tape, hg.output.trans h.output, Nat.le_trans h.size hg.size, fun k hk h1 h2 => (hg.block (Nat.lt_of_lt_of_le hk h.size) (by omega)).trans (h.block k hk h1 h2)⟩
theorem isTq.keep {W W' : World} {t g r : Nat} {S : Nat → Bool} {tn : Nat → Tn} {B : Nat → Nat} {Q : List Nat} {qv : Value} (h : isTq W t g r S tn B Q qv) (hk : ∀ k, k < W.heap.size → k = t ∨ qv.ownBlock = some k → W'.heap[k]? = W.heap[k]?) : isTq W' t g r S tn B Q qv := by
  refine ⟨h.te.keep (hk t h.te.lt (.inl rfl)), ?_, h.fm⟩
  obtain ⟨h1, h2⟩ := h.row
  refine ⟨h1, ?_⟩
  rcases h2 with h2 | ⟨q, cap', cur, e1, hb, hg', r'⟩
  · exact .inl h2
  · exact .inr ⟨q, cap', cur, e1, hb, (hk q (Array.getElem?_eq_some_iff.1 hg').1 (.inr (by rw [e1]; rfl))).trans hg', r'⟩
theorem isTq.below {W W' : World} {t g r : Nat} {S : Nat → Bool} {tn : Nat → Tn} {B : Nat → Nat} {Q : List Nat} {qv : Value} (h : isTq W t g r S tn B Q qv) (hb : Below W.heap.size W W') : isTq W' t g r S tn B Q qv := h.keep fun k hk _ => hb.block k hk

/-- What holds while groups are joined: xs are the bases so far. -/
structure JI (W : World) (t g r jb n : Nat) (bar : Nat → Nat → Bool) (M : Nat → Option Nat) (S : Nat → Bool) (tn : Nat → Tn) (B : Nat → Nat) (Q : List Nat) (q0 : Value) (a b : Nat) (xs : List Nat) (u : World) (qv : Value) : Prop where
  tq : isTq u t g r (jS S (kL M xs)) (jT tn (kL M xs) a b) B (Q ++ xs.map (mate M)) qv
  pr : isPr u g n bar M
  bl : isBl u jb (bL M xs)
  nx : Nx W q0 qv
  fr : Fr t q0 W u
  jq : qv.ownBlock ≠ some jb
  jw : W.heap.size ≤ jb
theorem JI.more {W u u1 : World} {t g r jb n : Nat} {bar : Nat → Nat → Bool} {M : Nat → Option Nat} {S : Nat → Bool} {tn : Nat → Tn} {B : Nat → Nat} {Q : List Nat} {q0 qv q1 : Value} {a b : Nat} {xs : List Nat} {x : Nat} (h : JI W t g r jb n bar M S tn B Q q0 a b xs u qv) (hgt : g < t) (htj : t < jb) (hx : x < 60) (hy : mate M x < 60)
    (h1 : isTq u1 t g r (updT (jS S (kL M xs)) (mate M x) true) (updT (jT tn (kL M xs) a b) (mate M x) (.edge a b)) B (Q ++ xs.map (mate M) ++ [mate M x]) q1) (h2 : Nx u qv q1) (h3 : Fr t qv u u1) :
    JI W t g r jb n bar M S tn B Q q0 a b (xs ++ [x]) ((u1.setCell ⟨jb, x, none⟩ (.bool true)).setCell ⟨jb, mate M x, none⟩ (.bool true)) q1 ∧ isBl u1 jb (bL M xs) := by
  have hown := h.tq.row.lt
  have hbl1 : isBl u1 jb (bL M xs) := h.bl.keep (h3.block jb h.bl.lt (by omega) h.jq)
  have hjq : q1.ownBlock ≠ some jb := fun e => by
    rcases h2 with h2 | ⟨q, h2, hq⟩
    · exact h.jq (by rw [← h2]; exact e)
    · rw [h2] at e
      have := Option.some.inj e
      have := h.bl.lt
      omega
  have hgs : Gb jb u1 ((u1.setCell ⟨jb, x, none⟩ (.bool true)).setCell ⟨jb, mate M x, none⟩ (.bool true)) := (Gb.set _ _).trans (Gb.set _ _)
  have hpr1 : isPr u1 g n bar M := h.pr.keep (h3.block g h.pr.lt (by omega) (fun e => by have := hown g e; omega))
  refine ⟨⟨?_, hpr1.keep (hgs.block hpr1.lt (by omega)), ?_, h.nx.trans h.fr.size h2, ((h.fr.trans h.nx h3).young h.jw _ _).young h.jw _ _, hjq, h.jw⟩, hbl1⟩
  · rw [kL_S, kL_T, List.append_assoc] at h1
    rw [List.map_append]
    exact h1.keep fun k hk e => hgs.block hk (fun e' => by
      subst e'
      rcases e with e | e
      · omega
      · exact hjq e)
  · have := (hbl1.put hx).put hy
    rw [kL_B] at this
    exact this

/-- The bases when i have been looked at. -/
def Bi (B : Nat → Nat) (J K : Nat → Bool) (m i : Nat) : Nat → Nat := fun y => if y < i then jB B J K m y else B y
theorem Bi_t {B : Nat → Nat} {J K : Nat → Bool} {m i : Nat} (h : (J (B i) || K (B i)) = true) : updT (Bi B J K m i) i m = Bi B J K m (i + 1) := by
  funext y
  unfold Bi
  by_cases e : y = i
  · subst e
    rw [updT_same, if_pos (by omega)]
    unfold jB
    rw [if_pos h]
  · rw [updT_other _ _ e]
    by_cases h1 : y < i
    · rw [if_pos h1, if_pos (by omega)]
    · rw [if_neg h1, if_neg (by omega)]
theorem Bi_f {B : Nat → Nat} {J K : Nat → Bool} {m i : Nat} (h : (J (B i) || K (B i)) = false) : Bi B J K m i = Bi B J K m (i + 1) := by
  funext y
  unfold Bi
  by_cases e : y = i
  · subst e
    rw [if_neg (by omega), if_pos (by omega)]
    unfold jB
    rw [h, if_neg (by simp)]
  · by_cases h1 : y < i
    · rw [if_pos h1, if_pos (by omega)]
    · rw [if_neg h1, if_neg (by omega)]
theorem isTq.bases {W : World} {t g r : Nat} {S : Nat → Bool} {tn : Nat → Tn} {B B' : Nat → Nat} {Q : List Nat} {qv : Value} (h : isTq W t g r S tn B Q qv) (hB : ∀ i, i < 60 → B' i = B i) : isTq W t g r S tn B' Q qv :=
  ⟨⟨h.te.lt, h.te.fz, h.te.p_, h.te.r_, h.te.sp, h.te.ta, h.te.tb, fun i hi => by rw [hB i hi]; exact h.te.ba i hi, h.te.q_⟩, h.row, h.fm⟩
theorem isTq.putB {W : World} {t g r : Nat} {S : Nat → Bool} {tn : Nat → Tn} {B : Nat → Nat} {Q : List Nat} {qv : Value} (h : isTq W t g r S tn B Q qv) {v : Nat} (hv : v < 60) (m : Nat) : isTq (W.setCell ⟨t, 182 + v, none⟩ (.int .i64 (m : Int))) t g r S tn (updT B v m) Q qv :=
  ⟨h.te.putB hv m, ownsRow_setCell_below h.row (show t < t + 1 by omega) _, h.fm⟩
theorem Fr.tree {t : Nat} {qv : Value} {U V : World} (h : Fr t qv U V) (o : Nat) (v : Value) : Fr t qv U (V.setCell ⟨t, o, none⟩ v) := by
  have hg : Gb t V (V.setCell ⟨t, o, none⟩ v) := Gb.set _ _
  exact ⟨hg.os.trans h.os, hg.tape.trans h.tape, hg.output.trans h.output, Nat.le_trans h.size hg.size, fun k hk h1 h2 => (hg.block (Nat.lt_of_lt_of_le hk h.size) h1).trans (h.block k hk h1 h2)⟩

/-- What join leaves. -/
def JoE (t g r n : Nat) (bar : Nat → Nat → Bool) (M : Nat → Option Nat) (S : Nat → Bool) (tn : Nat → Tn) (B : Nat → Nat) (Q : List Nat) (q0 : Value) (a b : Nat) (W : World) (e : Ending) (W' : World) : Prop :=
  e = .returned (.tuple #[]) ∧ ∃ (m : Nat) (J K : Nat → Bool) (L : List Nat) (qv : Value), Jn M r S tn B a b m J K ∧ L.Nodup ∧ (∀ y, y ∈ L ↔ K y = true) ∧ isTq W' t g r (jS S K) (jT tn K a b) (jB B J K m) (Q ++ L) qv ∧ isPr W' g n bar M ∧ Nx W q0 qv ∧ Fr t q0 W W'

theorem lit60j : (#[Value.bool false, Value.bool false, Value.bool false, Value.bool false, Value.bool false, Value.bool false, Value.bool false, Value.bool false, Value.bool false, Value.bool false, Value.bool false, Value.bool false, Value.bool false, Value.bool false, Value.bool false, Value.bool false, Value.bool false, Value.bool false, Value.bool false, Value.bool false, Value.bool false, Value.bool false, Value.bool false, Value.bool false, Value.bool false, Value.bool false, Value.bool false, Value.bool false, Value.bool false, Value.bool false, Value.bool false, Value.bool false, Value.bool false, Value.bool false, Value.bool false, Value.bool false, Value.bool false, Value.bool false, Value.bool false, Value.bool false, Value.bool false, Value.bool false, Value.bool false, Value.bool false, Value.bool false, Value.bool false, Value.bool false, Value.bool false, Value.bool false, Value.bool false, Value.bool false, Value.bool false, Value.bool false, Value.bool false, Value.bool false, Value.bool false, Value.bool false, Value.bool false, Value.bool false, Value.bool false] : Array Value) = Array.replicate 60 (Value.bool false) := rfl
theorem bl_new (W : World) : isBl (W.alloc (Obj.cells #[Value.bool false, Value.bool false, Value.bool false, Value.bool false, Value.bool false, Value.bool false, Value.bool false, Value.bool false, Value.bool false, Value.bool false, Value.bool false, Value.bool false, Value.bool false, Value.bool false, Value.bool false, Value.bool false, Value.bool false, Value.bool false, Value.bool false, Value.bool false, Value.bool false, Value.bool false, Value.bool false, Value.bool false, Value.bool false, Value.bool false, Value.bool false, Value.bool false, Value.bool false, Value.bool false, Value.bool false, Value.bool false, Value.bool false, Value.bool false, Value.bool false, Value.bool false, Value.bool false, Value.bool false, Value.bool false, Value.bool false, Value.bool false, Value.bool false, Value.bool false, Value.bool false, Value.bool false, Value.bool false, Value.bool false, Value.bool false, Value.bool false, Value.bool false, Value.bool false, Value.bool false, Value.bool false, Value.bool false, Value.bool false, Value.bool false, Value.bool false, Value.bool false, Value.bool false, Value.bool false] 58 (0, 0))) W.heap.size (fun _ => false) := by
  have key : ∀ W1 : World, W1.heap[W.heap.size]? = some (Obj.cells (Array.replicate 60 (Value.bool false)) 58 (0, 0)) → isBl W1 W.heap.size (fun _ => false) := fun W1 hblk => by
    refine ⟨(Array.getElem?_eq_some_iff.1 hblk).1, fun o => by simp [World.frozen?, hblk], fun i hi => ?_⟩
    unfold World.cell?
    rw [hblk]
    simp [hi]
  exact key _ (by rw [lit60j]; exact heap_alloc_new _ _)
theorem bL_nil (M : Nat → Option Nat) : bL M [] = fun _ => false := by funext z; simp [bL, jL, kL]
theorem jS_nil (M : Nat → Option Nat) (S : Nat → Bool) : jS S (kL M []) = S := by funext z; simp [jS, kL]
theorem jT_nil (M : Nat → Option Nat) (tn : Nat → Tn) (a b : Nat) : jT tn (kL M []) a b = tn := by funext z; simp [jT, kL]

set_option maxHeartbeats 4000000 in
set_option maxRecDepth 100000 in
theorem join_any {n : Nat} {ok : Nat → Nat → Bool} {M : Nat → Option Nat} {r : Nat} {S : Nat → Bool} {tn : Nat → Tn} {B ρ : Nat → Nat} (hn : n ≤ 60) (h : TI n ok M r S tn B ρ) (W : World) (t g a b : Nat) (bar : Nat → Nat → Bool) (Q : List Nat) (q0 : Value) (hT : isTq W t g r S tn B Q q0) (hP : isPr W g n bar M) (hgt : g < t) (ha : S a = true) (hb : S b = true) (hQ : Q.Nodup) (hQS : ∀ x, x ∈ Q ↔ S x = true) :
    Calls Try.prog 43 #[.pointer (some ⟨t, 0, none⟩), .int .i64 (a : Int), .int .i64 (b : Int)] W (JoE t g r n bar M S tn B Q q0 a b W) := by
  have hlt : ∀ x, S x = true → x < 60 := fun x hx => Nat.lt_of_lt_of_le (h.lt x hx) hn
  obtain ⟨a1, a2⟩ := h.bs a ha
  obtain ⟨b1, b2⟩ := h.bs b hb
  have ha60 := hlt a ha
  have hb60 := hlt b hb
  have hai : (a : Int) < 60 := by omega
  have ha0 : (0 : Int) ≤ (a : Int) := by omega
  have hbi : (b : Int) < 60 := by omega
  have hb0 : (0 : Int) ≤ (b : Int) := by omega
  have HME := hide (meeting_any hn h W t g a b q0 hT.te ha hb)
  have HTI := hide h
  have HTQ := hide hT
  have HPR := hide hP
  have HLT := hide hlt
  have HSA := hide ha
  have HSB := hide hb
  have HQN := hide hQ
  have HQS := hide hQS
  have htl := hT.te.lt
  clear h hT hP hlt ha hb a1 a2 b1 b2 hQ hQS
  go_enter Try.func43, Try.ntmps43
  go_wp2_with fail
  refine (unhide HME).mono ?_
  rintro e w1 ⟨hb1, m, hm60, rfl, hma, hmb, hlow⟩
  obtain ⟨la, hla⟩ := Chn.of_up hma
  obtain ⟨lb, hlb⟩ := Chn.of_up hmb
  obtain ⟨hjn, hnd, hmt⟩ := Jn.of_lists (unhide HTI) (unhide HSA) (unhide HSB) hla hlb hlow
  obtain ⟨w2, hw2⟩ : ∃ w2, w2 = w1.alloc (Obj.cells #[Value.bool false, Value.bool false, Value.bool false, Value.bool false, Value.bool false, Value.bool false, Value.bool false, Value.bool false, Value.bool false, Value.bool false, Value.bool false, Value.bool false, Value.bool false, Value.bool false, Value.bool false, Value.bool false, Value.bool false, Value.bool false, Value.bool false, Value.bool false, Value.bool false, Value.bool false, Value.bool false, Value.bool false, Value.bool false, Value.bool false, Value.bool false, Value.bool false, Value.bool false, Value.bool false, Value.bool false, Value.bool false, Value.bool false, Value.bool false, Value.bool false, Value.bool false, Value.bool false, Value.bool false, Value.bool false, Value.bool false, Value.bool false, Value.bool false, Value.bool false, Value.bool false, Value.bool false, Value.bool false, Value.bool false, Value.bool false, Value.bool false, Value.bool false, Value.bool false, Value.bool false, Value.bool false, Value.bool false, Value.bool false, Value.bool false, Value.bool false, Value.bool false, Value.bool false, Value.bool false] 58 (0, 0)) := ⟨_, rfl⟩
  have hb2 : Below w1.heap.size w1 w2 := by rw [hw2]; exact (Below.refl _ _).alloc (Nat.le_refl _) _
  have hbb : Below W.heap.size W w2 := hb1.trans (hb2.mono hb1.size)
  have hs1 := hb1.size
  obtain ⟨jb, hjb⟩ : ∃ jb, jb = w1.heap.size := ⟨_, rfl⟩
  have HJ0 : Hid (JI W t g r jb n bar M S tn B Q q0 a b [] w2 q0) := hide (by
    refine ⟨?_, (unhide HPR).keep (hbb.block g (unhide HPR).lt), ?_, .inl rfl, Fr.of_below hbb, fun e => ?_, by omega⟩
    · rw [jS_nil, jT_nil, List.map_nil, List.append_nil]
      exact (unhide HTQ).below hbb
    · rw [bL_nil, hjb, hw2]; exact bl_new w1
    · have := (unhide HTQ).row.lt jb e; omega)
  have HW2 := hide hw2
  have HJB := hide hjb
  have HLA := hide hla
  have HLB := hide hlb
  have HJN := hide hjn
  have HND := hide hnd
  have HMT := hide hmt
  have hm0 : (0 : Int) ≤ (m : Int) := by omega
  have hmi : (m : Int) < 60 := by omega
  have htj : t < jb := by omega
  clear hw2 hb2 hbb hla hlb hjn hnd hmt hma hmb hlow hb1 hjb HME HTQ HPR
  go_wp2_with fail
  rw [← unhide HW2, ← unhide HJB]
  clear HW2 HJB
  have hp0 := pair2_0 (a : Int) (b : Int)
  have hp1 := pair2_1 (a : Int) (b : Int)
  go_loopw [21] (fun iv wr => ∃ (e : Nat) (qv : Value), e ≤ 2 ∧ iv = .int .i64 (e : Int) ∧ Hid (JI W t g r jb n bar M S tn B Q q0 a b (if e = 0 then [] else if e = 1 then la else la ++ lb) wr qv)) (fun iv _ => 2 - (intOf iv).toNat)
  case atStart => exact ⟨0, q0, by omega, rfl, HJ0⟩
  case round =>
    obtain ⟨e, qv, he, rfl, HJ⟩ := hrel
    rename World => wr
    clear HJ0
    by_cases he0 : e = 0
    · subst he0
      have HJ1 : Hid (JI W t g r jb n bar M S tn B Q q0 a b [] wr qv) := HJ
      rw [show (((0 : Nat) : Int)) = 0 from rfl]
      have c1 := (unhide HJ1).tq.te.ba a ha60
      clear HJ
      go_wp2
      clear c1
      go_loopw [10] (fun iv wq => ∃ (x : Nat) (p l : List Nat) (qv : Value), Hid (p ++ l = la) ∧ Hid (Chn r tn B m x l) ∧ iv = .int .i64 (x : Int) ∧ Hid (S x = true ∧ B x = x) ∧ Hid (JI W t g r jb n bar M S tn B Q q0 a b ([] ++ p) wq qv)) (fun iv _ => msr ρ iv)
      case atStart => exact ⟨B a, [], la, qv, hide rfl, HLA, rfl, hide ((unhide HTI).bs a (unhide HSA)), hide (by rw [List.append_nil]; exact unhide HJ1)⟩
      case round =>
        obtain ⟨x, p, l, q1, HPL, HCH, rfl, HX, HJI⟩ := hrel
        rename World => wq
        clear HJ1
        have hx60 := unhide HLT x (unhide HX).1
        have hxi : (x : Int) < 60 := by omega
        have hx0 : (0 : Int) ≤ (x : Int) := by omega
        by_cases hxm : x = m
        · have hxb : ((x : Int) == (m : Int)) = true := by simp [hxm]
          have hl : l = [] := by
            cases unhide HCH with
            | here => rfl
            | step h1 _ _ _ => exact absurd hxm h1
          have hpf : p = la := by have := unhide HPL; rw [hl, List.append_nil] at this; exact this
          have HJN2 : Hid (JI W t g r jb n bar M S tn B Q q0 a b ([] ++ la) wq q1) := hide (by rw [← hpf]; exact unhide HJI)
          clear hl hpf hxm
          go_wp2
          go_roundw
          case rel => exact ⟨1, q1, by omega, by go_num, HJN2⟩
          case measure => simp only [intOf]; omega
        · have hxb : ((x : Int) == (m : Int)) = false := by simp; omega
          obtain ⟨c, l', hc1, hc2, hc3, hc4⟩ : ∃ c l', l = x :: l' ∧ x ≠ r ∧ tn x = .vert c ∧ Chn r tn B m (B c) l' := by
            cases unhide HCH with
            | here => exact absurd rfl hxm
            | step _ h2 h3 h4 => exact ⟨_, _, rfl, h2, h3, h4⟩
          have hxf : x ∈ la ++ lb := by
            have : x ∈ la := by rw [← unhide HPL, hc1]; simp
            simp [this]
          obtain ⟨y, hy1, hy2, -, -, hy5⟩ := unhide HMT x hxf
          have hy60 : y < 60 := Nat.lt_of_lt_of_le ((unhide HTI).mt.lt2 hy1) hn
          obtain ⟨_, c', _, _, k3, k4, _, k6⟩ := (unhide HTI).bas x (unhide HX).1 (unhide HX).2 hc2
          rw [hc3] at k3
          obtain rfl : c = c' := by injection k3
          have d1 := (unhide HJI).tq.te.p_
          have d2 := (unhide HJI).pr.par x hx60
          rw [hy1] at d2
          have d2' : wq.cell? ⟨g, 3601 + x, none⟩ = some (.int .i64 (y : Int)) := d2
          have hlen : ([] ++ p).length ≤ (la ++ lb).length := by
            have := unhide HPL
            rw [hc1] at this
            have h2 := congrArg List.length this
            simp at h2 ⊢
            omega
          have hRE := reach_any wq t g r y (.edge a b) _ _ B _ q1 (unhide HJI).tq hy60 (by
            rw [List.length_append, List.length_map]
            have h1 := nodup_le (k := List.range n) (unhide HQN) (fun z hz => List.mem_range.2 ((unhide HTI).lt z ((unhide HQS z).1 hz)))
            have h2 := nodup_le (k := List.range 60) (unhide HND) (fun z hz => by
              obtain ⟨z', hz1, hz2⟩ := List.mem_map.1 hz
              obtain ⟨y', g1, g2, -⟩ := unhide HMT z' hz1
              rw [← hz2, g2]
              exact List.mem_range.2 (Nat.lt_of_lt_of_le ((unhide HTI).mt.lt2 g1) hn))
            simp only [List.length_range, List.length_map] at h1 h2
            omega)
          have e1 : tA (.edge a b) = (a : Int) := rfl
          have e2 : tB (.edge a b) = (b : Int) := rfl
          rw [e1, e2] at hRE
          have HRE := hide hRE
          have HNX : Hid ((p ++ [x]) ++ l' = la) := hide (by have := unhide HPL; rw [hc1] at this; simpa using this)
          have HCN := hide hc4
          have HK := hide (And.intro k4 k6)
          have HY := hide (And.intro hy2 hy5)
          have HC3 := hide (And.intro hc2 hc3)
          clear hRE d2 e1 e2 hlen hc1 hc2 hc3 hc4 hxf hy1 hy2 hy5 k4 k6
          go_wp2_with fail
          refine (unhide HRE).mono ?_
          rintro e' w4 ⟨rfl, q2, g1, g2, g3⟩
          have hgt' := (unhide HJI).tq.te.ne (unhide HJI).pr
          obtain ⟨hji, hbl⟩ := (unhide HJI).more hgt htj hx60 (by rw [(unhide HY).1]; exact hy60) (by rw [(unhide HY).1]; exact g1) g2 g3
          rw [(unhide HY).1] at hji
          have f1 := hbl.at_ x hx60
          have f2 := hbl.fz x
          have f3 : (w4.setCell ⟨jb, x, none⟩ (.bool true)).cell? ⟨jb, y, none⟩ = some (.bool (updT (bL M ([] ++ p)) x true y)) := (hbl.put hx60).at_ y hy60
          have f4 := (hbl.put hx60).fz y
          have hyi : (y : Int) < 60 := by omega
          have hy0 : (0 : Int) ≤ (y : Int) := by omega
          obtain ⟨w6, hw6⟩ : ∃ w6, w6 = (w4.setCell ⟨jb, x, none⟩ (.bool true)).setCell ⟨jb, y, none⟩ (.bool true) := ⟨_, rfl⟩
          rw [← hw6] at hji
          generalize bL M ([] ++ p) x = v1 at f1
          generalize updT (bL M ([] ++ p)) x true y = v2 at f3
          have htx : jT tn (kL M ([] ++ p ++ [x])) a b x = .vert c := by
            unfold jT
            rw [if_neg, (unhide HC3).2]
            unfold kL
            simp only [decide_eq_true_eq, List.mem_map]
            rintro ⟨z, hz, e⟩
            have hzf : z ∈ la ++ lb := by
              have h1 : z ∈ [] ∨ z ∈ p ∨ z = x := by simpa [or_assoc] using hz
              have h2 := unhide HNX
              rcases h1 with h1 | h1 | h1
              · first | (simp at h1; done) | simp [h1]
              · have : z ∈ la := by rw [← h2]; simp [h1]
                simp [this]
              · have : z ∈ la := by rw [← h2]; simp [h1]
                simp [this]
            obtain ⟨y', g1, g2, -, -, g5⟩ := unhide HMT z hzf
            rw [g2] at e
            rw [e, (unhide HX).1] at g5; cases g5
          have hAV := above_any w6 t g r x _ _ B q2 hji.tq.te hx60 (fun _ => ⟨c, htx, unhide HLT c (unhide HK).1⟩)
          rw [if_neg (unhide HC3).1, htx] at hAV
          have HAV := hide hAV
          have HJI6 := hide hji
          have HW6 := hide hw6
          clear hji hbl g1 g2 g3 hAV hw6 htx HRE HJI d1 d2' hgt'
          go_wp2_with fail
          rw [← unhide HW6]
          clear HW6 f1 f2 f3 f4
          refine (unhide HAV).mono ?_
          rintro e' w7 ⟨rfl, hb7⟩
          have HJI7 : Hid (JI W t g r jb n bar M S tn B Q q0 a b ([] ++ (p ++ [x])) w7 q2) := hide (by
            have k := unhide HJI6
            rw [List.append_assoc] at k
            exact ⟨k.tq.below hb7, k.pr.keep (hb7.block g k.pr.lt), k.bl.keep (hb7.block jb k.bl.lt), k.nx, k.fr.trans (.inl rfl) (Fr.of_below hb7), k.jq, k.jw⟩)
          have HXC := hide ((unhide HTI).bs c (unhide HK).1)
          clear hb7 HAV HJI6
          go_wp2
          go_roundw
          case rel => exact ⟨B c, p ++ [x], l', q2, HNX, HCN, rfl, HXC, HJI7⟩
          case measure =>
            have := (unhide HK).2
            rw [msr_some, msr_some]
            omega
    · by_cases he1 : e = 1
      · subst he1
        have HJ1 : Hid (JI W t g r jb n bar M S tn B Q q0 a b la wr qv) := HJ
        rw [show (((1 : Nat) : Int)) = 1 from rfl]
        have c1 := (unhide HJ1).tq.te.ba b hb60
        clear HJ he0
        go_wp2
        clear c1
        go_loopw [10] (fun iv wq => ∃ (x : Nat) (p l : List Nat) (qv : Value), Hid (p ++ l = lb) ∧ Hid (Chn r tn B m x l) ∧ iv = .int .i64 (x : Int) ∧ Hid (S x = true ∧ B x = x) ∧ Hid (JI W t g r jb n bar M S tn B Q q0 a b (la ++ p) wq qv)) (fun iv _ => msr ρ iv)
        case atStart => exact ⟨B b, [], lb, qv, hide rfl, HLB, rfl, hide ((unhide HTI).bs b (unhide HSB)), hide (by rw [List.append_nil]; exact unhide HJ1)⟩
        case round =>
          obtain ⟨x, p, l, q1, HPL, HCH, rfl, HX, HJI⟩ := hrel
          rename World => wq
          clear HJ1
          have hx60 := unhide HLT x (unhide HX).1
          have hxi : (x : Int) < 60 := by omega
          have hx0 : (0 : Int) ≤ (x : Int) := by omega
          by_cases hxm : x = m
          · have hxb : ((x : Int) == (m : Int)) = true := by simp [hxm]
            have hl : l = [] := by
              cases unhide HCH with
              | here => rfl
              | step h1 _ _ _ => exact absurd hxm h1
            have hpf : p = lb := by have := unhide HPL; rw [hl, List.append_nil] at this; exact this
            have HJN2 : Hid (JI W t g r jb n bar M S tn B Q q0 a b (la ++ lb) wq q1) := hide (by rw [← hpf]; exact unhide HJI)
            clear hl hpf hxm
            go_wp2
            go_roundw
            case rel => exact ⟨2, q1, by omega, by go_num, HJN2⟩
            case measure => simp only [intOf]; omega
          · have hxb : ((x : Int) == (m : Int)) = false := by simp; omega
            obtain ⟨c, l', hc1, hc2, hc3, hc4⟩ : ∃ c l', l = x :: l' ∧ x ≠ r ∧ tn x = .vert c ∧ Chn r tn B m (B c) l' := by
              cases unhide HCH with
              | here => exact absurd rfl hxm
              | step _ h2 h3 h4 => exact ⟨_, _, rfl, h2, h3, h4⟩
            have hxf : x ∈ la ++ lb := by
              have : x ∈ lb := by rw [← unhide HPL, hc1]; simp
              simp [this]
            obtain ⟨y, hy1, hy2, -, -, hy5⟩ := unhide HMT x hxf
            have hy60 : y < 60 := Nat.lt_of_lt_of_le ((unhide HTI).mt.lt2 hy1) hn
            obtain ⟨_, c', _, _, k3, k4, _, k6⟩ := (unhide HTI).bas x (unhide HX).1 (unhide HX).2 hc2
            rw [hc3] at k3
            obtain rfl : c = c' := by injection k3
            have d1 := (unhide HJI).tq.te.p_
            have d2 := (unhide HJI).pr.par x hx60
            rw [hy1] at d2
            have d2' : wq.cell? ⟨g, 3601 + x, none⟩ = some (.int .i64 (y : Int)) := d2
            have hlen : (la ++ p).length ≤ (la ++ lb).length := by
              have := unhide HPL
              rw [hc1] at this
              have h2 := congrArg List.length this
              simp at h2 ⊢
              omega
            have hRE := reach_any wq t g r y (.edge a b) _ _ B _ q1 (unhide HJI).tq hy60 (by
              rw [List.length_append, List.length_map]
              have h1 := nodup_le (k := List.range n) (unhide HQN) (fun z hz => List.mem_range.2 ((unhide HTI).lt z ((unhide HQS z).1 hz)))
              have h2 := nodup_le (k := List.range 60) (unhide HND) (fun z hz => by
                obtain ⟨z', hz1, hz2⟩ := List.mem_map.1 hz
                obtain ⟨y', g1, g2, -⟩ := unhide HMT z' hz1
                rw [← hz2, g2]
                exact List.mem_range.2 (Nat.lt_of_lt_of_le ((unhide HTI).mt.lt2 g1) hn))
              simp only [List.length_range, List.length_map] at h1 h2
              omega)
            have e1 : tA (.edge a b) = (a : Int) := rfl
            have e2 : tB (.edge a b) = (b : Int) := rfl
            rw [e1, e2] at hRE
            have HRE := hide hRE
            have HNX : Hid ((p ++ [x]) ++ l' = lb) := hide (by have := unhide HPL; rw [hc1] at this; simpa using this)
            have HCN := hide hc4
            have HK := hide (And.intro k4 k6)
            have HY := hide (And.intro hy2 hy5)
            have HC3 := hide (And.intro hc2 hc3)
            clear hRE d2 e1 e2 hlen hc1 hc2 hc3 hc4 hxf hy1 hy2 hy5 k4 k6
            go_wp2_with fail
            refine (unhide HRE).mono ?_
            rintro e' w4 ⟨rfl, q2, g1, g2, g3⟩
            have hgt' := (unhide HJI).tq.te.ne (unhide HJI).pr
            obtain ⟨hji, hbl⟩ := (unhide HJI).more hgt htj hx60 (by rw [(unhide HY).1]; exact hy60) (by rw [(unhide HY).1]; exact g1) g2 g3
            rw [(unhide HY).1] at hji
            have f1 := hbl.at_ x hx60
            have f2 := hbl.fz x
            have f3 : (w4.setCell ⟨jb, x, none⟩ (.bool true)).cell? ⟨jb, y, none⟩ = some (.bool (updT (bL M (la ++ p)) x true y)) := (hbl.put hx60).at_ y hy60
            have f4 := (hbl.put hx60).fz y
            have hyi : (y : Int) < 60 := by omega
            have hy0 : (0 : Int) ≤ (y : Int) := by omega
            obtain ⟨w6, hw6⟩ : ∃ w6, w6 = (w4.setCell ⟨jb, x, none⟩ (.bool true)).setCell ⟨jb, y, none⟩ (.bool true) := ⟨_, rfl⟩
            rw [← hw6] at hji
            generalize bL M (la ++ p) x = v1 at f1
            generalize updT (bL M (la ++ p)) x true y = v2 at f3
            have htx : jT tn (kL M (la ++ p ++ [x])) a b x = .vert c := by
              unfold jT
              rw [if_neg, (unhide HC3).2]
              unfold kL
              simp only [decide_eq_true_eq, List.mem_map]
              rintro ⟨z, hz, e⟩
              have hzf : z ∈ la ++ lb := by
                have h1 : z ∈ la ∨ z ∈ p ∨ z = x := by simpa [or_assoc] using hz
                have h2 := unhide HNX
                rcases h1 with h1 | h1 | h1
                · first | (simp at h1; done) | simp [h1]
                · have : z ∈ lb := by rw [← h2]; simp [h1]
                  simp [this]
                · have : z ∈ lb := by rw [← h2]; simp [h1]
                  simp [this]
              obtain ⟨y', g1, g2, -, -, g5⟩ := unhide HMT z hzf
              rw [g2] at e
              rw [e, (unhide HX).1] at g5; cases g5
            have hAV := above_any w6 t g r x _ _ B q2 hji.tq.te hx60 (fun _ => ⟨c, htx, unhide HLT c (unhide HK).1⟩)
            rw [if_neg (unhide HC3).1, htx] at hAV
            have HAV := hide hAV
            have HJI6 := hide hji
            have HW6 := hide hw6
            clear hji hbl g1 g2 g3 hAV hw6 htx HRE HJI d1 d2' hgt'
            go_wp2_with fail
            rw [← unhide HW6]
            clear HW6 f1 f2 f3 f4
            refine (unhide HAV).mono ?_
            rintro e' w7 ⟨rfl, hb7⟩
            have HJI7 : Hid (JI W t g r jb n bar M S tn B Q q0 a b (la ++ (p ++ [x])) w7 q2) := hide (by
              have k := unhide HJI6
              rw [List.append_assoc] at k
              exact ⟨k.tq.below hb7, k.pr.keep (hb7.block g k.pr.lt), k.bl.keep (hb7.block jb k.bl.lt), k.nx, k.fr.trans (.inl rfl) (Fr.of_below hb7), k.jq, k.jw⟩)
            have HXC := hide ((unhide HTI).bs c (unhide HK).1)
            clear hb7 HAV HJI6
            go_wp2
            go_roundw
            case rel => exact ⟨B c, p ++ [x], l', q2, HNX, HCN, rfl, HXC, HJI7⟩
            case measure =>
              have := (unhide HK).2
              rw [msr_some, msr_some]
              omega
      · obtain rfl : e = 2 := by omega
        have HJ2 : Hid (JI W t g r jb n bar M S tn B Q q0 a b (la ++ lb) wr qv) := HJ
        clear HJ he0 he1
        have d0 := (unhide HJ2).tq.te
        have hrg : wr.rangeAt t 182 ((List.range 60).map fun i => Value.int .i64 (B i : Int)) := by
          intro j v hv
          have hj : j < 60 := by have := (List.getElem?_eq_some_iff.1 hv).1; simpa using this
          simp [hj] at hv
          rw [← hv]
          exact d0.ba j hj
        have HRG := hide hrg
        clear hrg d0
        rw [show (((2 : Nat) : Int)) = 2 from rfl]
        have ht0 := (unhide HJ2).tq.te.p_
        obtain ⟨cs, hcs⟩ : ∃ cs, cs = (List.range 60).map fun i => Value.int .i64 (B i : Int) := ⟨_, rfl⟩
        rw [← hcs] at HRG
        have HCS := hide hcs
        have hcl : (Try.prog.info? 60).map (·.size) = some cs.length := by rw [hcs, List.length_map, List.length_range]; kernel_rfl
        have HCL := hide hcl
        clear hcs hcl
        go_wp2_with (refine wpList_load_mid rfl 60 _ rfl t 182 rfl cs _ (unhide HRG) Try.underlying60 rfl (unhide HCL) ?_)
        obtain ⟨J, hJ⟩ : ∃ J : Nat → Bool, J = fun x => decide (x ∈ la ++ lb) := ⟨_, rfl⟩
        obtain ⟨K, hK⟩ : ∃ K : Nat → Bool, K = fun y => decide (y ∈ (la ++ lb).map (mate M)) := ⟨_, rfl⟩
        have HB60 : Hid (∀ i, i < 60 → B i < 60) := hide (fun i hi => by
          cases hsi : S i with
          | true => exact unhide HLT _ ((unhide HTI).bs i hsi).1
          | false => rw [(unhide HTI).nb i hsi]; exact hi)
        have HBI : Hid (isTq wr t g r (jS S K) (jT tn K a b) (Bi B J K m 0) (Q ++ (la ++ lb).map (mate M)) qv ∧ isPr wr g n bar M ∧ isBl wr jb (fun y => J y || K y) ∧ Fr t q0 W wr) := hide (by
          have k := unhide HJ2
          refine ⟨?_, k.pr, ?_, k.fr⟩
          · rw [hK]
            exact k.tq.bases fun i _ => by unfold Bi; rw [if_neg (by omega)]
          · rw [hJ, hK]; exact k.bl)
        have HJN : Hid (Jn M r S tn B a b m J K) := hide (by rw [hJ, hK]; exact unhide HJN)
        have HLK : Hid (∀ y, y ∈ (la ++ lb).map (mate M) ↔ K y = true) := hide (fun y => by rw [hK]; simp only [decide_eq_true_eq])
        have HNXQ := hide (unhide HJ2).nx
        have htg := (unhide HJ2).tq.te.ne (unhide HJ2).pr
        have HOWN := hide (unhide HJ2).tq.row.lt
        clear hJ hK HRG HCL HJ2 ht0 HMT
        go_loopw [60] (fun iv wq => ∃ i : Nat, i ≤ 60 ∧ iv = .int .i64 (i : Int) ∧ Hid (isTq wq t g r (jS S K) (jT tn K a b) (Bi B J K m i) (Q ++ (la ++ lb).map (mate M)) qv ∧ isPr wq g n bar M ∧ isBl wq jb (fun y => J y || K y) ∧ Fr t q0 W wq)) (fun iv _ => 60 - (intOf iv).toNat)
        case atStart => exact ⟨0, by omega, rfl, HBI⟩
        case round =>
          obtain ⟨i, hi, rfl, HI⟩ := hrel
          rename World => wq
          clear HBI
          by_cases hil : i < 60
          · have hii : (i : Int) < 60 := by omega
            have hi0 : (0 : Int) ≤ (i : Int) := by omega
            have hb60' := unhide HB60 i hil
            have hx := index60 cs.toArray (.int .i64 (B i : Int)) i hil (by rw [unhide HCS]; simp [hil])
            have c1 := (unhide HI).2.2.1.at_ (B i) hb60'
            have c2 := (unhide HI).1.te.ba i hil
            have c3 := (unhide HI).1.te.fz (182 + i)
            have hBi : Bi B J K m i i = B i := by unfold Bi; rw [if_neg (by omega)]
            rw [hBi] at c2
            obtain ⟨z, hz⟩ : ∃ z, B i = z := ⟨_, rfl⟩
            cases hjk : (J (B i) || K (B i)) with
            | true =>
              have HN : Hid (isTq (wq.setCell ⟨t, 182 + i, none⟩ (.int .i64 (m : Int))) t g r (jS S K) (jT tn K a b) (Bi B J K m (i + 1)) (Q ++ (la ++ lb).map (mate M)) qv ∧ isPr (wq.setCell ⟨t, 182 + i, none⟩ (.int .i64 (m : Int))) g n bar M ∧ isBl (wq.setCell ⟨t, 182 + i, none⟩ (.int .i64 (m : Int))) jb (fun y => J y || K y) ∧ Fr t q0 W (wq.setCell ⟨t, 182 + i, none⟩ (.int .i64 (m : Int)))) := hide (by
                obtain ⟨k1, k2, k3, k4⟩ := unhide HI
                have hg : Gb t wq (wq.setCell ⟨t, 182 + i, none⟩ (.int .i64 (m : Int))) := Gb.set _ _
                refine ⟨?_, k2.keep (hg.block k2.lt (fun e => htg e.symm)), k3.keep (hg.block k3.lt (by omega)), k4.tree _ _⟩
                rw [← Bi_t hjk]
                exact k1.putB hil m)
              rw [hjk] at c1
              rw [hz] at c1 c2 hx hb60'
              have hzi : (z : Int) < 60 := by omega
              have hz0 : (0 : Int) ≤ (z : Int) := by omega
              clear hjk hBi hz
              go_wp2
              go_roundw
              case rel => exact ⟨i + 1, by omega, by go_num, HN⟩
              case measure => simp only [intOf]; omega
            | false =>
              have HN : Hid (isTq wq t g r (jS S K) (jT tn K a b) (Bi B J K m (i + 1)) (Q ++ (la ++ lb).map (mate M)) qv ∧ isPr wq g n bar M ∧ isBl wq jb (fun y => J y || K y) ∧ Fr t q0 W wq) := hide (by
                rw [← Bi_f hjk]
                exact unhide HI)
              rw [hjk] at c1
              rw [hz] at c1 c2 hx hb60'
              have hzi : (z : Int) < 60 := by omega
              have hz0 : (0 : Int) ≤ (z : Int) := by omega
              clear hjk hBi hz
              go_wp2
              go_roundw
              case rel => exact ⟨i + 1, by omega, by go_num, HN⟩
              case measure => simp only [intOf]; omega
          · obtain rfl : i = 60 := by omega
            have HE : Hid (JoE t g r n bar M S tn B Q q0 a b W (.returned (.tuple #[])) wq) := hide (by
              obtain ⟨k1, k2, -, k4⟩ := unhide HI
              refine ⟨rfl, m, J, K, _, qv, unhide HJN, unhide HND, unhide HLK, k1.bases (fun i hi => by unfold Bi; rw [if_pos hi]), k2, unhide HNXQ, k4⟩)
            rw [show (((60 : Nat) : Int)) = 60 from rfl]
            clear HI
            go_wp2
            refine bodyPost_end (v := .tuple #[]) (by simp [results, Try.results43]) rfl ?_
            exact unhide HE
end Go.Proofs.Ytppkejblhkbkjaa
