/-
  Plain mathematics of records: the reader part by part; notes as trees, their text, what is kept of it: what is written is read.
-/
import Derived.Test.YtdibjdpnleepmacDoorN10
import Derived.Test.YtdibjdpnleepmacDoorM24
namespace Go.Proofs.YtdibjdpnleepmacDoor
open Go.Lib
def ofL (l : List UInt8) : ByteArray := ⟨l.toArray⟩
theorem ofL_list (l : List UInt8) : (ofL l).data.toList = l := by simp [ofL]
theorem ofL_of (s : ByteArray) : ofL s.data.toList = s := by cases s; simp [ofL]
/-- The reader, in plain form. -/
structure Ps where
  c : Cur
  d : Int
  here : Pl
  O : List Pl
  E : List En
/-- What comes next (none: the text ends here). -/
def partL (s : Ps) : Except Int (Option Ps) :=
  let c := skp s.c
  if mvR (pkL c.1) = true then
    match noteL c with
    | .error a => .error a
    | .ok (c', mv, cm) => .ok (some { c := c', d := max s.d (s.here.deep + 1), here := ⟨s.E.length, s.here.deep + 1, s.here.main, true⟩, O := s.O, E := s.E ++ [⟨ofL mv, ofL cm, s.here.main⟩] })
  else if pkL c.1 = 40 ∧ s.here.others = true then
    let b := skp (onL c.1, c.2 + 1)
    if mvR (pkL b.1) = false then .error b.2
    else match noteL b with
      | .error a => .error a
      | .ok (c', mv, cm) => .ok (some { c := c', d := max s.d s.here.deep, here := ⟨s.E.length, s.here.deep, s.here.of_, false⟩, O := s.O ++ [s.here], E := s.E ++ [⟨ofL mv, ofL cm, s.here.of_⟩] })
  else if pkL c.1 = 41 ∧ s.O ≠ [] then
    .ok (some { c := (onL c.1, c.2 + 1), d := s.d, here := s.O.getLast?.getD ⟨0, 0, 0, false⟩, O := s.O.dropLast, E := s.E })
  else if pkL c.1 = -1 ∧ s.O = [] then .ok none
  else .error c.2
def wholeL : Nat → Ps → Except Int (List En × Int)
  | 0, _ => .error 0
  | f + 1, s => match partL s with
    | .error a => .error a
    | .ok none => .ok (s.E, s.d)
    | .ok (some s') => wholeL f s'
theorem part_len (s s' : Ps) (h : partL s = .ok (some s')) : s'.c.1.length < s.c.1.length := by
  have hl := skp_len s.c
  unfold partL at h
  simp only at h
  split at h
  · rename_i hp
    split at h
    · cases h
    · rename_i c' mv cm hn
      simp only [Except.ok.injEq, Option.some.injEq] at h
      subst h
      have := (note_back (skp s.c).1 (skp s.c).2 c' mv cm hp hn).2.2
      exact Nat.lt_of_lt_of_le this hl
  · split at h
    · rename_i hp
      have h1 := on_len (skp s.c).1 (pk_ne (by omega))
      have h2 := skp_len (onL (skp s.c).1, (skp s.c).2 + 1)
      split at h
      · cases h
      · rename_i hm
        obtain ⟨b, hb⟩ : ∃ b, b = skp (onL (skp s.c).1, (skp s.c).2 + 1) := ⟨_, rfl⟩
        rw [← hb] at h h2 hm
        split at h
        · cases h
        · rename_i c' mv cm hn
          simp only [Except.ok.injEq, Option.some.injEq] at h
          subst h
          have := (note_back b.1 b.2 c' mv cm (by simpa using hm) hn).2.2
          simp only at h2 ⊢
          omega
    · split at h
      · rename_i hp
        simp only [Except.ok.injEq, Option.some.injEq] at h
        subst h
        have h1 := on_len (skp s.c).1 (pk_ne (by omega))
        simp only
        omega
      · split at h <;> simp at h
theorem whole_fuel : ∀ (f f' : Nat) (s : Ps), s.c.1.length < f → s.c.1.length < f' → wholeL f s = wholeL f' s := by
  intro f
  induction f with
  | zero => intro f' s h; omega
  | succ f ih =>
    intro f' s h h'
    cases f' with
    | zero => omega
    | succ f' =>
      rw [wholeL, wholeL]
      cases hp : partL s with
      | error a => rfl
      | ok o =>
        cases o with
        | none => rfl
        | some s' =>
          have := part_len s s' hp
          exact ih f' s' (by omega) (by omega)
def whole (s : Ps) : Except Int (List En × Int) := wholeL (s.c.1.length + 1) s
theorem whole_step {s s' : Ps} (h : partL s = .ok (some s')) : whole s = whole s' := by
  have := part_len s s' h
  unfold whole
  rw [wholeL, h]
  exact whole_fuel _ _ _ (by omega) (by omega)
theorem part_skp (s : Ps) (c' : Cur) (h : skp s.c = skp c') : partL { s with c := c' } = partL s := by
  unfold partL
  simp only [h]
theorem whole_skp (s : Ps) (c' : Cur) (h : skp s.c = skp c') : whole s = whole { s with c := c' } := by
  have hp := part_skp s c' h
  unfold whole
  rw [wholeL, wholeL, hp]
  cases hq : partL s with
  | error a => rfl
  | ok o =>
    cases o with
    | none => rfl
    | some s' =>
      have h1 := part_len s s' hq
      have h2 := part_len _ s' (hp.trans hq)
      exact whole_fuel _ _ _ (by omega) (by omega)

/-! ### trees -/
/-- Notes: a note, what comes behind it, the others beside it. -/
inductive Fo where
  | nil
  | cons (mv cm : ByteArray) (nx r : Fo)
mutual
def Nt.fo : Nt → Fo → Fo
  | .mk mv cm nx, r => .cons mv cm (foL nx) r
def foL : List Nt → Fo
  | [] => .nil
  | t :: l => t.fo (foL l)
end
def toL : Fo → List Nt
  | .nil => []
  | .cons mv cm nx r => .mk mv cm (toL nx) :: toL r
theorem foL_nil : foL [] = .nil := by rw [foL]
theorem foL_cons (mv cm : ByteArray) (nx l : List Nt) : foL (.mk mv cm nx :: l) = .cons mv cm (foL nx) (foL l) := by rw [foL, Nt.fo]
theorem foL_toL : ∀ F : Fo, foL (toL F) = F
  | .nil => by rw [toL, foL_nil]
  | .cons mv cm nx r => by rw [toL, foL_cons, foL_toL nx, foL_toL r]
mutual
theorem toL_fo : ∀ (t : Nt) (r : Fo), toL (t.fo r) = t :: toL r
  | .mk mv cm nx, r => by rw [Nt.fo, toL, toL_foL nx]
theorem toL_foL : ∀ l : List Nt, toL (foL l) = l
  | [] => by rw [foL_nil, toL]
  | t :: l => by rw [foL, toL_fo t, toL_foL l]
end
def cnt : Fo → Nat
  | .nil => 0
  | .cons _ _ nx r => 1 + cnt nx + cnt r
def hg : Fo → Nat
  | .nil => 0
  | .cons _ _ nx r => max (1 + hg nx) (hg r)
/-- A note's own texts are right. -/
def okN (mv cm : ByteArray) : Prop := (∃ n, Tx mvR mv.data.toList n ∧ 1 ≤ n ∧ n ≤ 20) ∧ (∃ k, Tx cmR cm.data.toList k ∧ k ≤ 200)
def OkF : Fo → Prop
  | .nil => True
  | .cons mv cm nx r => okN mv cm ∧ OkF nx ∧ OkF r
def Fo.isN : Fo → Bool
  | .nil => true
  | .cons _ _ _ _ => false
mutual
/-- The text of notes. -/
def textL : Fo → List UInt8
  | .nil => []
  | .cons mv cm nx r => mv.data.toList ++ (cmT cm.data.toList ++ (othersL r ++ (if nx.isN then [] else 32 :: textL nx)))
/-- Those beside. -/
def othersL : Fo → List UInt8
  | .nil => []
  | .cons mv cm nx r => 32 :: 40 :: (mv.data.toList ++ (cmT cm.data.toList ++ ((if nx.isN then [] else 32 :: textL nx) ++ 41 :: othersL r)))
end
/-- What comes behind a note. -/
def nxT (nx : Fo) : List UInt8 := if nx.isN then [] else 32 :: textL nx
theorem textL_cons (mv cm : ByteArray) (nx r : Fo) : textL (.cons mv cm nx r) = mv.data.toList ++ (cmT cm.data.toList ++ (othersL r ++ nxT nx)) := by rw [textL]; rfl
theorem othersL_cons (mv cm : ByteArray) (nx r : Fo) : othersL (.cons mv cm nx r) = 32 :: 40 :: (mv.data.toList ++ (cmT cm.data.toList ++ (nxT nx ++ 41 :: othersL r))) := by rw [othersL]; rfl
theorem othersL_nil : othersL .nil = [] := by rw [othersL]
mutual
/-- The notes as they are kept, those that come of number p, the first of them being number k. -/
def flat (p k : Int) : Fo → List En
  | .nil => []
  | .cons mv cm nx r => ⟨mv, cm, p⟩ :: (flatO p (k + 1) r ++ flat k (k + 1 + cnt r) nx)
def flatO (p k : Int) : Fo → List En
  | .nil => []
  | .cons mv cm nx r => ⟨mv, cm, p⟩ :: (flat k (k + 1) nx ++ flatO p (k + 1 + cnt nx) r)
end
theorem flat_nil (p k : Int) : flat p k .nil = [] := by rw [flat]
theorem flatO_nil (p k : Int) : flatO p k .nil = [] := by rw [flatO]
theorem flat_cons (p k : Int) (mv cm : ByteArray) (nx r : Fo) : flat p k (.cons mv cm nx r) = ⟨mv, cm, p⟩ :: (flatO p (k + 1) r ++ flat k (k + 1 + cnt r) nx) := by rw [flat]
theorem flatO_cons (p k : Int) (mv cm : ByteArray) (nx r : Fo) : flatO p k (.cons mv cm nx r) = ⟨mv, cm, p⟩ :: (flat k (k + 1) nx ++ flatO p (k + 1 + cnt nx) r) := by rw [flatO]
theorem flat_len : ∀ (F : Fo), (∀ p k, (flat p k F).length = cnt F) ∧ (∀ p k, (flatO p k F).length = cnt F)
  | .nil => ⟨fun p k => by rw [flat_nil]; rfl, fun p k => by rw [flatO_nil]; rfl⟩
  | .cons mv cm nx r => by
    obtain ⟨h1, h2⟩ := flat_len nx
    obtain ⟨h3, h4⟩ := flat_len r
    refine ⟨fun p k => ?_, fun p k => ?_⟩
    · rw [flat_cons, List.length_cons, List.length_append, h4, h1, cnt]; omega
    · rw [flatO_cons, List.length_cons, List.length_append, h2' h1, h4, cnt]; omega
where h2' {nx : Fo} (h1 : ∀ p k, (flat p k nx).length = cnt nx) {p k : Int} : (flat p k nx).length = cnt nx := h1 p k
/-- What may stand behind a note. -/
def Gt (t : List UInt8) : Prop := mvR (pkL t) = false ∧ pkL (skp (t, 0)).1 ≠ 123
theorem Gt.nil : Gt [] := ⟨rfl, by rw [skp_stop _ (by rw [pk_nil]; omega), pk_nil]; omega⟩
theorem Gt.shut (t : List UInt8) : Gt (41 :: t) := by
  have h := pk_byte 41 t (by decide)
  refine ⟨by rw [h]; decide, ?_⟩
  rw [skp_stop _ (by rw [h]; decide), h]; decide
theorem Gt.blank (t : List UInt8) (h : ¬ (pkL t = 32 ∨ pkL t = 10)) (h1 : pkL t ≠ 123) : Gt (32 :: t) := by
  refine ⟨by rw [pk_byte 32 t (by decide)]; decide, ?_⟩
  rw [skp_blank, skp_stop _ h]; exact h1
theorem Gt.mv {m : List UInt8} {n : Nat} (h : Tx mvR m n) (hn : 1 ≤ n) (t : List UInt8) : Gt (32 :: (m ++ t)) := by
  have hp := h.pk hn t
  exact Gt.blank _ (mv_blank hp) (fun e => by rw [e] at hp; cases hp)
theorem Gt.others {F : Fo} {t : List UInt8} (h : Gt t) : Gt (othersL F ++ t) := by
  cases F with
  | nil => rw [othersL_nil]; exact h
  | cons mv cm nx r =>
    rw [othersL_cons, List.cons_append, List.cons_append]
    refine Gt.blank _ ?_ ?_ <;> rw [pk_byte 40 _ (by decide)] <;> decide
theorem Gt.next {F : Fo} (hF : OkF F) {t : List UInt8} (h : Gt t) : Gt (nxT F ++ t) := by
  cases F with
  | nil => exact h
  | cons mv cm nx r =>
    obtain ⟨⟨⟨n, h1, h2, h3⟩, -⟩, -⟩ := hF
    show Gt (32 :: textL (.cons mv cm nx r) ++ t)
    rw [textL_cons, List.cons_append, List.append_assoc]
    exact Gt.mv h1 h2 _
/-- What is written is read: a list of notes, and those beside a note. -/
theorem text_there : ∀ F : Fo, OkF F →
    (F ≠ .nil → ∀ (s : Ps) (tail : List UInt8) (a : Int), s.c = (textL F ++ tail, a) → (tail = [] ∨ ∃ t, tail = 41 :: t) → ∃ a' d' h', whole s = whole ⟨(tail, a'), d', h', s.O, s.E ++ flat s.here.main s.E.length F⟩ ∧ d' ≤ max s.d (s.here.deep + hg F)) ∧
    (∀ (s : Ps) (tail : List UInt8) (a : Int), s.c = (othersL F ++ tail, a) → s.here.others = true → Gt tail → ∃ a' d', whole s = whole ⟨(tail, a'), d', s.here, s.O, s.E ++ flatO s.here.of_ s.E.length F⟩ ∧ d' ≤ max s.d (s.here.deep - 1 + hg F))
  | .nil, _ => by
    refine ⟨fun h => absurd rfl h, fun s tail a hc _ _ => ⟨a, s.d, ?_, by omega⟩⟩
    rw [othersL_nil, List.nil_append] at hc
    rw [flatO_nil, List.append_nil, ← hc]
  | .cons mv cm nx r, hF => by
    obtain ⟨⟨⟨n, m1, m2, m3⟩, ⟨k, c1, c2⟩⟩, hnx, hr⟩ := hF
    obtain ⟨t1, -⟩ := text_there nx hnx
    obtain ⟨-, t2⟩ := text_there r hr
    have next_there : ∀ (s : Ps) (tail : List UInt8) (a : Int), s.c = (nxT nx ++ tail, a) → (tail = [] ∨ ∃ t, tail = 41 :: t) → ∃ a' d' h', whole s = whole ⟨(tail, a'), d', h', s.O, s.E ++ flat s.here.main s.E.length nx⟩ ∧ d' ≤ max s.d (s.here.deep + hg nx) := by
      intro s tail a hc ht
      by_cases hn : nx = .nil
      · subst hn
        refine ⟨a, s.d, s.here, ?_, by omega⟩
        rw [show nxT .nil ++ tail = tail from rfl] at hc
        rw [flat_nil, List.append_nil, ← hc]
      · have hnt : nxT nx = 32 :: textL nx := by cases nx with | nil => exact absurd rfl hn | cons => rfl
        have hk : whole s = whole { s with c := (textL nx ++ tail, a + 1) } := whole_skp s _ (by rw [hc, hnt, List.cons_append, skp_blank])
        obtain ⟨a', d', h', e1, e2⟩ := t1 hn { s with c := (textL nx ++ tail, a + 1) } tail (a + 1) rfl ht
        exact ⟨a', d', h', hk.trans e1, e2⟩
    refine ⟨fun _ s tail a hc ht => ?_, fun s tail a hc ho ht => ?_⟩
    · have hgt : Gt tail := ht.elim (fun e => e ▸ Gt.nil) (fun ⟨t, e⟩ => e ▸ Gt.shut t)
      have hgr : Gt (othersL r ++ (nxT nx ++ tail)) := Gt.others (Gt.next hnx hgt)
      obtain ⟨c', hnote, a1, hsk⟩ := note_there mv.data.toList cm.data.toList (othersL r ++ (nxT nx ++ tail)) n k a m1 m3 c1 c2 hgr.1 hgr.2
      have htx : textL (.cons mv cm nx r) ++ tail = mv.data.toList ++ (cmT cm.data.toList ++ (othersL r ++ (nxT nx ++ tail))) := by rw [textL_cons]; simp only [List.append_assoc]
      rw [htx] at hc
      have hpk := m1.pk m2 (cmT cm.data.toList ++ (othersL r ++ (nxT nx ++ tail)))
      have hsc : skp s.c = s.c := by rw [hc]; exact skp_stop _ (mv_blank hpk)
      obtain ⟨s1, hs1⟩ : ∃ s1 : Ps, s1 = ⟨c', max s.d (s.here.deep + 1), ⟨s.E.length, s.here.deep + 1, s.here.main, true⟩, s.O, s.E ++ [⟨mv, cm, s.here.main⟩]⟩ := ⟨_, rfl⟩
      have hp : partL s = .ok (some s1) := by
        unfold partL
        simp only [hsc]
        rw [hc, if_pos hpk, hnote, hs1]
        simp only [ofL_of]
      obtain ⟨s2, hs2⟩ : ∃ s2 : Ps, s2 = { s1 with c := (othersL r ++ (nxT nx ++ tail), a1) } := ⟨_, rfl⟩
      have hk2 : whole s1 = whole s2 := by rw [hs2]; exact whole_skp s1 _ (by rw [hs1]; exact hsk)
      obtain ⟨a3, d3, e3, b3⟩ := t2 s2 (nxT nx ++ tail) a1 (by rw [hs2]) (by rw [hs2, hs1]) (Gt.next hnx hgt)
      obtain ⟨a4, d4, h4, e4, b4⟩ := next_there ⟨(nxT nx ++ tail, a3), d3, s2.here, s2.O, s2.E ++ flatO s2.here.of_ s2.E.length r⟩ tail a3 rfl ht
      refine ⟨a4, d4, h4, ?_, ?_⟩
      · rw [whole_step hp, hk2, e3, e4, hs2, hs1]
        have q1 : ((s.E ++ [(⟨mv, cm, s.here.main⟩ : En)]).length : Int) = (s.E.length : Int) + 1 := by simp
        have q2 : ((s.E ++ [(⟨mv, cm, s.here.main⟩ : En)] ++ flatO s.here.main ((s.E.length : Int) + 1) r).length : Int) = (s.E.length : Int) + 1 + cnt r := by rw [List.length_append, (flat_len r).2]; simp
        simp only
        rw [q1, q2, flat_cons]
        simp only [List.append_assoc, List.cons_append, List.nil_append]
      · rw [hs2, hs1] at b3 b4
        simp only at b3 b4
        rw [hg]
        omega
    · have hgr : Gt (nxT nx ++ 41 :: (othersL r ++ tail)) := Gt.next hnx (Gt.shut _)
      have htx : othersL (.cons mv cm nx r) ++ tail = 32 :: 40 :: (mv.data.toList ++ (cmT cm.data.toList ++ (nxT nx ++ 41 :: (othersL r ++ tail)))) := by rw [othersL_cons]; simp only [List.append_assoc, List.cons_append]
      rw [htx] at hc
      obtain ⟨X, hX⟩ : ∃ X, X = mv.data.toList ++ (cmT cm.data.toList ++ (nxT nx ++ 41 :: (othersL r ++ tail))) := ⟨_, rfl⟩
      have hsc : skp s.c = (40 :: X, a + 1) := by rw [hc, skp_blank, skp_stop _ (by rw [pk_byte 40 _ (by decide)]; decide), hX]
      have hpk := m1.pk m2 (cmT cm.data.toList ++ (nxT nx ++ 41 :: (othersL r ++ tail)))
      rw [← hX] at hpk
      obtain ⟨c', hnote, a1, hsk⟩ := note_there mv.data.toList cm.data.toList (nxT nx ++ 41 :: (othersL r ++ tail)) n k (a + 1 + 1) m1 m3 c1 c2 hgr.1 hgr.2
      rw [← hX] at hnote
      have hsx : skp (X, a + 1 + 1) = (X, a + 1 + 1) := skp_stop _ (mv_blank hpk)
      obtain ⟨s1, hs1⟩ : ∃ s1 : Ps, s1 = ⟨c', max s.d s.here.deep, ⟨s.E.length, s.here.deep, s.here.of_, false⟩, s.O ++ [s.here], s.E ++ [⟨mv, cm, s.here.of_⟩]⟩ := ⟨_, rfl⟩
      have hp : partL s = .ok (some s1) := by
        unfold partL
        simp only [hsc]
        rw [if_neg (by rw [pk_byte 40 _ (by decide)]; decide), if_pos ⟨by rw [pk_byte 40 _ (by decide)]; decide, ho⟩, on_byte 40 _ (by decide), hsx, if_neg (by simp only [hpk]; decide), hnote, hs1]
        simp only [ofL_of]
      obtain ⟨s2, hs2⟩ : ∃ s2 : Ps, s2 = { s1 with c := (nxT nx ++ 41 :: (othersL r ++ tail), a1) } := ⟨_, rfl⟩
      have hk2 : whole s1 = whole s2 := by rw [hs2]; exact whole_skp s1 _ (by rw [hs1]; exact hsk)
      obtain ⟨a3, d3, h3, e3, b3⟩ := next_there s2 (41 :: (othersL r ++ tail)) a1 (by rw [hs2]) (.inr ⟨_, rfl⟩)
      obtain ⟨s4, hs4⟩ : ∃ s4 : Ps, s4 = ⟨(othersL r ++ tail, a3 + 1), d3, s.here, s.O, s.E ++ [⟨mv, cm, s.here.of_⟩] ++ flat s.E.length (s.E.length + 1) nx⟩ := ⟨_, rfl⟩
      have hp4 : partL ⟨(41 :: (othersL r ++ tail), a3), d3, h3, s2.O, s2.E ++ flat s2.here.main s2.E.length nx⟩ = .ok (some s4) := by
        unfold partL
        simp only
        rw [skp_stop _ (by rw [pk_byte 41 _ (by decide)]; decide), if_neg (by rw [pk_byte 41 _ (by decide)]; decide), if_neg (by rw [pk_byte 41 _ (by decide)]; simp), if_pos ⟨by rw [pk_byte 41 _ (by decide)]; decide, by rw [hs2, hs1]; simp⟩, on_byte 41 _ (by decide), hs4, hs2, hs1]
        simp
      obtain ⟨a5, d5, e5, b5⟩ := t2 s4 tail (a3 + 1) (by rw [hs4]) (by rw [hs4]; exact ho) ht
      refine ⟨a5, d5, ?_, ?_⟩
      · rw [whole_step hp, hk2, e3, whole_step hp4, e5, hs4]
        have q2 : ((s.E ++ [(⟨mv, cm, s.here.of_⟩ : En)] ++ flat (s.E.length : Int) ((s.E.length : Int) + 1) nx).length : Int) = (s.E.length : Int) + 1 + cnt nx := by rw [List.length_append, (flat_len nx).1]; simp
        simp only
        rw [q2, flatO_cons]
        simp only [List.append_assoc, List.cons_append, List.nil_append]
      · rw [hs2, hs1] at b3
        rw [hs4] at b5
        simp only at b3 b5
        rw [hg]
        omega
/-- The reader at the beginning. -/
def Ps.start (l : List UInt8) : Ps := ⟨(l, 0), 0, ⟨-1, 0, 0, false⟩, [], []⟩
theorem read_there (F : Fo) (hF : OkF F) : ∃ d, whole (.start (textL F)) = .ok (flat (-1) 0 F, d) ∧ d ≤ hg F := by
  have hend : ∀ a d h E, whole ⟨([], a), d, h, [], E⟩ = .ok (E, d) := by
    intro a d h E
    unfold whole
    rw [wholeL]
    have : partL ⟨([], a), d, h, [], E⟩ = .ok none := by
      unfold partL
      simp only
      rw [skp_stop _ (by rw [pk_nil]; omega), pk_nil, if_neg (by decide), if_neg (by simp), if_neg (by simp), if_pos (by simp)]
    rw [this]
  by_cases hn : F = .nil
  · subst hn
    refine ⟨0, ?_, by simp [hg]⟩
    rw [show textL .nil = [] by rw [textL], flat_nil]
    exact hend 0 0 _ []
  · obtain ⟨a', d', h', e, b⟩ := (text_there F hF).1 hn (.start (textL F)) [] 0 (by rw [List.append_nil]; rfl) (.inl rfl)
    refine ⟨d', ?_, ?_⟩
    · rw [e]; exact hend _ _ _ _
    · simp only [Ps.start] at b; omega
end Go.Proofs.YtdibjdpnleepmacDoor
