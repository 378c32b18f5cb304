/-
  parlourbig's fractions as texts: IsInt, String, RatString.
  Trees with chance, as plain data and in memory.
-/
import Derived.Test.YthplbfjpmnpjmaaDoorB12
import Derived.Test.YthplbfjpmnpjmaaDoorJ15
import Derived.Test.YthplbfjpmnpjmaaDoorJ1
namespace Go.Proofs.YthplbfjpmnpjmaaDoor
open Go.RowKit
attribute [local go_sem ↓] Go.wp_at_zero Go.wp_at_succ

theorem itoa_len (z : Int) (n : Nat) (hz : z.natAbs < 4294967296 ^ n) (hn : n ≤ 20000) : (Lib.itoa z).length ≤ 200002 := by
  unfold Lib.itoa
  by_cases h0 : z.natAbs = 0
  · have : z = 0 := by omega
    subst this
    rw [if_neg (by omega)]
    simp [Lib.decDigits]
  · have h1 := dgs_words _ n hz
    rw [dgs_dec _ h0] at h1
    split
    · simp; omega
    · have : z.toNat = z.natAbs := by omega
      rw [this]; omega

set_option maxHeartbeats 1000000 in
theorem String_z (b o n : Nat) (z : Int) (w : World) (h : isI w b o z) (hn : n ≤ 20000) (hz : z.natAbs < 4294967296 ^ n) :
    Calls Tryd.prog 46 #[.pointer (some ⟨b, o, none⟩)] w (StrE (Lib.itoa z) w) := by
  have HT := hide (Text_any b o n z w h hn hz)
  clear h hz
  go_enter Tryd.func46, Tryd.ntmps46
  go_wp2_with fail
  refine (unhide HT).mono ?_
  rintro e w1 ⟨rfl, hb⟩
  go_wp2
  go_ret
  exact ⟨rfl, hb⟩

set_option maxHeartbeats 1000000 in
theorem IsInt_q (b : Nat) (q : Rat) (w : World) (h : isR w b q) :
    Calls Tryd.prog 45 #[.pointer (some ⟨b, 0, none⟩)] w fun e w' => e = .returned (.bool (decide (q.den = 1))) ∧ Below w.heap.size w w' := by
  have HD := hide (den_any b q w h)
  have hdn := q.den_nz
  clear h
  by_cases hd : q.den = 1
  · have hc : cmpI (q.den : Int) 1 = 0 := by unfold cmpI; rw [hd]; simp
    have hdd : decide (q.den = 1) = true := by simpa using hd
    rw [hdd]
    have HC := hide hc
    clear hd hc hdd
    go_enter Tryd.func45, Tryd.ntmps45
    go_wp2_with fail
    refine (unhide HD).mono ?_
    rintro e w1 ⟨c, o, rfl, i1, _, b1⟩
    go_wp2_with fail
    refine (NewInt_z 1 w1 (by omega) (by omega)).mono ?_
    rintro e w2 ⟨rfl, i2, b2⟩
    have hcm := Cmp_z c o w1.heap.size 0 (q.den : Int) 1 w2 (i1.below b2 (Nat.le_refl _)) i2
    rw [unhide HC] at hcm
    have HCM := hide hcm
    have hb := b1.trans (b2.mono b1.size)
    clear hcm HC i1 i2 b1 b2 HD
    go_wp2_with fail
    refine (unhide HCM).mono ?_
    rintro e w3 ⟨rfl, d, rfl⟩
    go_wp2
    go_ret
    exact ⟨rfl, below_drewN hb _⟩
  · have hc : ¬ cmpI (q.den : Int) 1 = 0 := by unfold cmpI; rw [if_neg (by omega), if_pos (by omega)]; omega
    have hdd : decide (q.den = 1) = false := by simpa using hd
    rw [hdd]
    obtain ⟨C, hC⟩ : ∃ C, C = cmpI (q.den : Int) 1 := ⟨_, rfl⟩
    rw [← hC] at hc
    have HC := hide hC
    clear hd hdd hC
    go_enter Tryd.func45, Tryd.ntmps45
    go_wp2_with fail
    refine (unhide HD).mono ?_
    rintro e w1 ⟨c, o, rfl, i1, _, b1⟩
    go_wp2_with fail
    refine (NewInt_z 1 w1 (by omega) (by omega)).mono ?_
    rintro e w2 ⟨rfl, i2, b2⟩
    have hcm := Cmp_z c o w1.heap.size 0 (q.den : Int) 1 w2 (i1.below b2 (Nat.le_refl _)) i2
    rw [← unhide HC] at hcm
    have HCM := hide hcm
    have hb := b1.trans (b2.mono b1.size)
    clear hcm HC i1 i2 b1 b2 HD
    go_wp2_with fail
    refine (unhide HCM).mono ?_
    rintro e w3 ⟨rfl, d, rfl⟩
    go_wp2
    go_ret
    exact ⟨ret_bool (by simpa using hc), below_drewN hb _⟩

/-- A fraction's text. -/
def ratS (q : Rat) : List UInt8 := if q.den = 1 then Lib.itoa q.num else Lib.itoa q.num ++ 47 :: Lib.itoa (q.den : Int)

set_option maxHeartbeats 1000000 in
theorem RString_q (b n : Nat) (q : Rat) (w : World) (h : isR w b q) (hn : n ≤ 20000) (h1 : q.num.natAbs < 4294967296 ^ n) (h2 : q.den < 4294967296 ^ n) :
    Calls Tryd.prog 47 #[.pointer (some ⟨b, 0, none⟩)] w (StrE (Lib.itoa q.num ++ 47 :: Lib.itoa (q.den : Int)) w) := by
  have HD := hide (fun u (hu : Below w.heap.size w u) => den_any b q u (h.below hu (Nat.le_refl _)))
  have HS1 := hide (String_z b 0 n q.num w h.num hn h1)
  have HS2 := hide (fun c o u (i : isI u c o (q.den : Int)) => String_z c o n (q.den : Int) u i hn (by simpa using h2))
  have l1 := itoa_len q.num n h1 hn
  have l2 := itoa_len (q.den : Int) n (by simpa using h2) hn
  obtain ⟨S1, hS1⟩ : ∃ S1 : ByteArray, S1 = ⟨(Lib.itoa q.num).toArray⟩ := ⟨_, rfl⟩
  obtain ⟨S2, hS2⟩ : ∃ S2 : ByteArray, S2 = ⟨(Lib.itoa (q.den : Int)).toArray⟩ := ⟨_, rfl⟩
  have z1 : S1.size ≤ 200002 := by rw [hS1]; simpa [ByteArray.size] using l1
  have z2 : S2.size ≤ 200002 := by rw [hS2]; simpa [ByteArray.size] using l2
  have hfin : (S1 ++ ⟨#[47]⟩ ++ S2 : ByteArray) = ⟨(Lib.itoa q.num ++ 47 :: Lib.itoa (q.den : Int)).toArray⟩ := by
    rw [hS1, hS2]
    apply ByteArray.ext
    simp [ByteArray.data_append]
  have HF := hide hfin
  have HE1 := hide hS1
  have HE2 := hide hS2
  have b1 : S1.size + 1 ≤ 9223372036854775807 := by omega
  have b2 : S1.size + 1 + S2.size ≤ 9223372036854775807 := by omega
  clear h h1 h2 l1 l2 hS1 hS2 hfin
  go_enter Tryd.func47, Tryd.ntmps47
  go_wp2_with fail
  refine (unhide HS1).mono ?_
  rintro e w1 ⟨rfl, hb1⟩
  rw [← unhide HE1]
  go_wp2_with fail
  refine (unhide HD w1 hb1).mono ?_
  rintro e w2 ⟨c, o, rfl, i2, _, hb2⟩
  go_wp2_with fail
  refine (unhide HS2 c o w2 i2).mono ?_
  rintro e w3 ⟨rfl, hb3⟩
  rw [← unhide HE2]
  have hbw := (hb1.trans (hb2.mono hb1.size)).trans (hb3.mono (Nat.le_trans hb1.size hb2.size))
  clear HD HS1 HS2 i2 hb1 hb2 hb3
  go_wp2
  go_ret
  refine ⟨?_, hbw⟩
  rw [← unhide HF]
  rfl

set_option maxHeartbeats 1000000 in
theorem RatString_q (b n : Nat) (q : Rat) (w : World) (h : isR w b q) (hn : n ≤ 20000) (h1 : q.num.natAbs < 4294967296 ^ n) (h2 : q.den < 4294967296 ^ n) :
    Calls Tryd.prog 22 #[.pointer (some ⟨b, 0, none⟩)] w (StrE (ratS q) w) := by
  have HI := hide (IsInt_q b q w h)
  have HS1 := hide (fun u (hu : Below w.heap.size w u) => String_z b 0 n q.num u ((h.below hu (Nat.le_refl _)).num) hn h1)
  have HS2 := hide (fun u (hu : Below w.heap.size w u) => RString_q b n q u (h.below hu (Nat.le_refl _)) hn h1 h2)
  unfold ratS
  by_cases hd : q.den = 1
  · rw [if_pos hd]
    have hdd : decide (q.den = 1) = true := by simpa using hd
    rw [hdd] at HI
    clear h h1 h2 hd hdd HS2
    go_enter Tryd.func22, Tryd.ntmps22
    go_wp2_with fail
    refine (unhide HI).mono ?_
    rintro e w1 ⟨rfl, hb1⟩
    go_wp2_with fail
    refine (unhide HS1 w1 hb1).mono ?_
    rintro e w2 ⟨rfl, hb2⟩
    go_wp2
    go_ret
    exact ⟨rfl, hb1.trans (hb2.mono hb1.size)⟩
  · rw [if_neg hd]
    have hdd : decide (q.den = 1) = false := by simpa using hd
    rw [hdd] at HI
    obtain ⟨T, hT⟩ : ∃ T, T = Lib.itoa q.num ++ 47 :: Lib.itoa (q.den : Int) := ⟨_, rfl⟩
    rw [← hT] at HS2 ⊢
    clear h h1 h2 hd hdd HS1 hT
    go_enter Tryd.func22, Tryd.ntmps22
    go_wp2_with fail
    refine (unhide HI).mono ?_
    rintro e w1 ⟨rfl, hb1⟩
    go_wp2_with fail
    refine (unhide HS2 w1 hb1).mono ?_
    rintro e w2 ⟨rfl, hb2⟩
    go_wp2
    go_ret
    exact ⟨rfl, hb1.trans (hb2.mono hb1.size)⟩
end Go.Proofs.YthplbfjpmnpjmaaDoor

namespace Go.Proofs.YthplbfjpmnpjmaaDoor
open Go.RowKit

/-- A tree: its kind, its number, its weights, its kids. -/
inductive Tr where
  | mk (k n : Int) (ws : List Int) (ks : List Tr)
def Tr.k : Tr → Int | .mk k _ _ _ => k
def Tr.n : Tr → Int | .mk _ n _ _ => n
def Tr.ws : Tr → List Int | .mk _ _ ws _ => ws
def Tr.ks : Tr → List Tr | .mk _ _ _ ks => ks
instance : Inhabited Tr := ⟨.mk 0 0 [] []⟩
def i64B (x : Int) : Prop := -9223372036854775808 ≤ x ∧ x ≤ 9223372036854775807
/-- Ints in memory, in a block below B. -/
structure isWl (w : World) (B : Nat) (ao : Option Addr) (cap : Nat) (l : List Int) : Prop where
  le : l.length ≤ cap
  most : cap ≤ maxLen
  nil : ao = none → cap = 0
  fit : ∀ x ∈ l, i64B x
  cells : l ≠ [] → ∃ g off, ao = some ⟨g, off, none⟩ ∧ g < B ∧ ∀ (i : Nat) (x : Int), l[i]? = some x → w.cell? ⟨g, off + i, none⟩ = some (.int .i64 x)
theorem isWl.below {w w' : World} {B B' : Nat} {ao : Option Addr} {cap : Nat} {l : List Int} (h : isWl w B ao cap l) (hb : Below B' w w') (hB : B ≤ B') : isWl w' B ao cap l := by
  refine ⟨h.le, h.most, h.nil, h.fit, fun hl => ?_⟩
  obtain ⟨g, off, e, hg, hc⟩ := h.cells hl
  exact ⟨g, off, e, hg, fun i x hx => (hb.cell (p := ⟨g, off + i, none⟩) (Nat.lt_of_lt_of_le hg hB)).trans (hc i x hx)⟩
/-- Trees in memory, all in blocks below B, no more than so many within one another. -/
def isTrs : Nat → World → Nat → Option Addr → Nat → List Tr → Prop
  | 0, _, _, ao, cap, l => l = [] ∧ cap ≤ maxLen ∧ (ao = none → cap = 0)
  | d + 1, w, B, ao, cap, l => l.length ≤ cap ∧ cap ≤ maxLen ∧ (ao = none → cap = 0) ∧ (l ≠ [] → ∃ g off, ao = some ⟨g, off, none⟩ ∧ g < B ∧ ∀ (i : Nat) (t : Tr), l[i]? = some t →
      i64B t.k ∧ i64B t.n ∧ ∃ wo wc no nc, w.cell? ⟨g, off + i * 4, none⟩ = some (.int .i64 t.k) ∧ w.cell? ⟨g, off + i * 4 + 1, none⟩ = some (.int .i64 t.n) ∧ w.cell? ⟨g, off + i * 4 + 2, none⟩ = some (.slice wo t.ws.length wc) ∧ w.cell? ⟨g, off + i * 4 + 3, none⟩ = some (.slice no t.ks.length nc) ∧ isWl w B wo wc t.ws ∧ isTrs d w B no nc t.ks)
theorem isTrs.below {w w' : World} {B B' : Nat} (hb : Below B' w w') (hB : B ≤ B') : ∀ (d : Nat) (ao : Option Addr) (cap : Nat) (l : List Tr), isTrs d w B ao cap l → isTrs d w' B ao cap l
  | 0, _, _, _, h => h
  | d + 1, ao, cap, l, h => by
    obtain ⟨h1, h2, h3, h4⟩ := h
    refine ⟨h1, h2, h3, fun hl => ?_⟩
    obtain ⟨g, off, e, hg, hc⟩ := h4 hl
    refine ⟨g, off, e, hg, fun i t ht => ?_⟩
    obtain ⟨s1, s2, wo, wc, no, nc, c0, c1, c2, c3, c4, c5⟩ := hc i t ht
    refine ⟨s1, s2, wo, wc, no, nc, ?_, ?_, ?_, ?_, c4.below hb hB, isTrs.below hb hB d no nc t.ks c5⟩
    · rw [hb.cell (p := ⟨g, off + i * 4, none⟩) (Nat.lt_of_lt_of_le hg hB)]; exact c0
    · rw [hb.cell (p := ⟨g, off + i * 4 + 1, none⟩) (Nat.lt_of_lt_of_le hg hB)]; exact c1
    · rw [hb.cell (p := ⟨g, off + i * 4 + 2, none⟩) (Nat.lt_of_lt_of_le hg hB)]; exact c2
    · rw [hb.cell (p := ⟨g, off + i * 4 + 3, none⟩) (Nat.lt_of_lt_of_le hg hB)]; exact c3
/-- A tree as a value, its weights and kids in blocks below B. -/
structure isT (d : Nat) (w : World) (B : Nat) (t : Tr) (v : Value) (wo no : Option Addr) (wc nc : Nat) : Prop where
  is : v = .agg #[.int .i64 t.k, .int .i64 t.n, .slice wo t.ws.length wc, .slice no t.ks.length nc]
  k : i64B t.k
  n : i64B t.n
  ws : isWl w B wo wc t.ws
  ks : isTrs d w B no nc t.ks
theorem isT.below {d : Nat} {w w' : World} {B B' : Nat} {t : Tr} {v : Value} {wo no : Option Addr} {wc nc : Nat} (h : isT d w B t v wo no wc nc) (hb : Below B' w w') (hB : B ≤ B') : isT d w' B t v wo no wc nc :=
  ⟨h.is, h.k, h.n, h.ws.below hb hB, isTrs.below hb hB _ _ _ _ h.ks⟩
theorem isTrs.len {d : Nat} {w : World} {B : Nat} {ao : Option Addr} {cap : Nat} {l : List Tr} (h : isTrs d w B ao cap l) : l.length ≤ cap ∧ cap ≤ maxLen ∧ (ao = none → cap = 0) := by
  cases d with
  | zero => obtain ⟨rfl, h2, h3⟩ := h; exact ⟨Nat.zero_le _, h2, h3⟩
  | succ d => exact ⟨h.1, h.2.1, h.2.2.1⟩
/-- The i-th kid. -/
theorem isTrs.kid {d : Nat} {w : World} {B : Nat} {ao : Option Addr} {cap : Nat} {l : List Tr} (h : isTrs d w B ao cap l) {i : Nat} {t : Tr} (ht : l[i]? = some t) :
    ∃ d' g off wo wc no nc, d = d' + 1 ∧ ao = some ⟨g, off, none⟩ ∧ g < B ∧ w.cell? ⟨g, off + i * 4, none⟩ = some (.int .i64 t.k) ∧ w.cell? ⟨g, off + i * 4 + 1, none⟩ = some (.int .i64 t.n) ∧ w.cell? ⟨g, off + i * 4 + 2, none⟩ = some (.slice wo t.ws.length wc) ∧ w.cell? ⟨g, off + i * 4 + 3, none⟩ = some (.slice no t.ks.length nc) ∧
      isT d' w B t (.agg #[.int .i64 t.k, .int .i64 t.n, .slice wo t.ws.length wc, .slice no t.ks.length nc]) wo no wc nc := by
  cases d with
  | zero => obtain ⟨rfl, _⟩ := h; simp at ht
  | succ d =>
    obtain ⟨_, _, _, h4⟩ := h
    obtain ⟨g, off, e, hg, hc⟩ := h4 (by rintro rfl; simp at ht)
    obtain ⟨s1, s2, wo, wc, no, nc, c0, c1, c2, c3, c4, c5⟩ := hc i t ht
    exact ⟨d, g, off, wo, wc, no, nc, rfl, e, hg, c0, c1, c2, c3, rfl, s1, s2, c4, c5⟩

/-- Is a node right, whatever its kids are? -/
def okN (k n : Int) (ws : List Int) (nk : Nat) : Bool :=
  if k = 1 then decide (nk = 0) && decide (ws.length = 0) && decide (-1000 ≤ n) && decide (n ≤ 1000)
  else if k = 2 ∨ k = 3 then decide (n = 0) && decide (1 ≤ nk) && decide (nk ≤ 20) && decide (ws.length = 0)
  else if k = 4 then decide (n = 0) && decide (1 ≤ nk) && decide (nk ≤ 20) && decide (ws.length = nk) && ws.all fun x => decide (1 ≤ x) && decide (x ≤ 100)
  else false
mutual
  /-- How many nodes. -/
  def cntT : Tr → Nat
    | .mk _ _ _ ks => cntL ks + 1
  def cntL : List Tr → Nat
    | [] => 0
    | t :: l => cntT t + cntL l
end
mutual
  /-- How deep. -/
  def depT : Tr → Nat
    | .mk _ _ _ ks => depL ks + 1
  def depL : List Tr → Nat
    | [] => 0
    | t :: l => max (depT t) (depL l)
end
mutual
  /-- Are all nodes right? -/
  def okT : Tr → Bool
    | .mk k n ws ks => okN k n ws ks.length && okL ks
  def okL : List Tr → Bool
    | [] => true
    | t :: l => okT t && okL l
end
theorem cntL_snoc (l : List Tr) (t : Tr) : cntL (l ++ [t]) = cntL l + cntT t := by
  induction l with
  | nil => simp [cntL]
  | cons x l ih => simp [cntL, ih]; omega
theorem depL_snoc (l : List Tr) (t : Tr) : depL (l ++ [t]) = max (depL l) (depT t) := by
  induction l with
  | nil => simp [depL]
  | cons x l ih => simp [depL, ih]
theorem okL_snoc (l : List Tr) (t : Tr) : okL (l ++ [t]) = (okL l && okT t) := by
  induction l with
  | nil => simp [okL]
  | cons x l ih => simp [okL, ih, Bool.and_assoc]
theorem cntL_take (l : List Tr) (k : Nat) : cntL (l.take k) ≤ cntL l := by
  induction l generalizing k with
  | nil => simp
  | cons x l ih =>
    cases k with
    | zero => simp [cntL]
    | succ k => simp only [List.take_succ_cons, cntL]; have := ih k; omega
theorem dep_cnt : (∀ t, depT t ≤ cntT t) ∧ ∀ l, depL l ≤ cntL l := by
  suffices h : ∀ n, (∀ t, cntT t ≤ n → depT t ≤ cntT t) ∧ ∀ l, cntL l ≤ n → depL l ≤ cntL l from ⟨fun t => (h _).1 t (Nat.le_refl _), fun l => (h _).2 l (Nat.le_refl _)⟩
  intro n
  induction n using Nat.strongRecOn with
  | ind n ih =>
    have hL : ∀ l, cntL l ≤ n → (∀ t ∈ l, depT t ≤ cntT t) → depL l ≤ cntL l := by
      intro l
      induction l with
      | nil => intro _ _; simp [depL]
      | cons x l ihl =>
        intro hn ht
        have h1 := ht x (by simp)
        have h2 := ihl (by simp only [cntL] at hn; omega) (fun t h => ht t (by simp [h]))
        simp only [depL, cntL]; omega
    have hT : ∀ t, cntT t ≤ n → depT t ≤ cntT t := by
      intro t ht
      cases t with
      | mk k m ws ks =>
        simp only [cntT] at ht
        have := (ih (cntL ks) (by omega)).2 ks (Nat.le_refl _)
        simp only [depT, cntT]; omega
    refine ⟨hT, fun l hl => hL l hl fun t h => hT t ?_⟩
    have : cntT t ≤ cntL l := by
      clear hl
      induction l with
      | nil => simp at h
      | cons x l ihl =>
        simp only [cntL]
        rcases List.mem_cons.1 h with rfl | h
        · omega
        · have := ihl h; omega
    omega
end Go.Proofs.YthplbfjpmnpjmaaDoor
