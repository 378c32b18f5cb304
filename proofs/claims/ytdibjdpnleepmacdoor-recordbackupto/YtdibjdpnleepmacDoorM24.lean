/-
  Plain mathematics of records: runes that fit, a note's text there and back.
-/
import Derived.Test.YtdibjdpnleepmacDoorN1
import Derived.Test.YtdibjdpnleepmacDoorM23
namespace Go.Proofs.YtdibjdpnleepmacDoor
open Go.Lib
/-- A text, and how many runes were read ahead of it. -/
abbrev Cur := List UInt8 × Int
/-- The rune at hand (-1: the end; -2: a byte that is none). -/
def pkL (l : List UInt8) : Int := if l = [] then -1 else if okD l then ((decodeL l).1 : Int) else -2
def onL (l : List UInt8) : List UInt8 := l.drop (decodeL l).2
def skipL : Nat → Cur → Cur
  | 0, c => c
  | f + 1, c => if pkL c.1 = 32 ∨ pkL c.1 = 10 then skipL f (onL c.1, c.2 + 1) else c
def runL (fits : Int → Bool) (most : Nat) : Nat → Nat → Cur → Cur × Bool
  | 0, _, c => (c, true)
  | f + 1, n, c => if fits (pkL c.1) then (if n = most then (c, false) else runL fits most f (n + 1) (onL c.1, c.2 + 1)) else (c, true)
/-- Runes that fit, so many. -/
inductive Tx (fits : Int → Bool) : List UInt8 → Nat → Prop
  | nil : Tx fits [] 0
  | cons (l : List UInt8) (n : Nat) : l ≠ [] → okD l → fits ((decodeL l).1 : Int) = true → Tx fits (onL l) n → Tx fits l (n + 1)

theorem on_len (l : List UInt8) (h : l ≠ []) : (onL l).length < l.length := by
  have h1 := decodeL_width l
  have h2 : 0 < l.length := List.length_pos_iff.2 h
  unfold onL
  rw [List.length_drop]; omega
theorem pk_app (p t : List UInt8) (hp : p ≠ []) (hok : okD p) : pkL (p ++ t) = ((decodeL p).1 : Int) := by
  have hd := dec_app p t hp hok
  have hok' : okD (p ++ t) := by unfold okD at hok ⊢; rw [hd]; exact hok
  unfold pkL
  rw [if_neg (by simp [hp]), if_pos hok', hd]
theorem on_app (p t : List UInt8) (hp : p ≠ []) (hok : okD p) : onL (p ++ t) = onL p ++ t := by
  unfold onL
  rw [dec_app p t hp hok, List.drop_append_of_le_length (decL_le p hp)]
theorem pk_byte (b : UInt8) (t : List UInt8) (h : b.toNat < 128) : pkL (b :: t) = (b.toNat : Int) := by
  have hok : okD (b :: t) := by unfold okD; rw [decodeL_ascii b t h]; simp only; omega
  unfold pkL
  rw [if_neg (by simp), if_pos hok, decodeL_ascii b t h]
theorem on_byte (b : UInt8) (t : List UInt8) (h : b.toNat < 128) : onL (b :: t) = t := by
  unfold onL
  rw [decodeL_ascii b t h]; rfl
theorem pk_nil : pkL [] = -1 := rfl
theorem pk_ne {l : List UInt8} (h : pkL l ≠ -1) : l ≠ [] := fun e => h (by rw [e]; rfl)
/-- A rune that is below 128 is its byte. -/
theorem pk_small {l : List UInt8} (h0 : 0 ≤ pkL l) (h1 : pkL l < 128) : ∃ b t, l = b :: t ∧ (b.toNat : Int) = pkL l := by
  cases l with
  | nil => rw [pk_nil] at h0; omega
  | cons b t =>
    by_cases hb : b.toNat < 128
    · exact ⟨b, t, rfl, (pk_byte b t hb).symm⟩
    · exfalso
      unfold pkL at h0 h1
      rw [if_neg (by simp)] at h0 h1
      by_cases hok : okD (b :: t)
      · rw [if_pos hok] at h0 h1
        unfold okD at hok
        rw [decodeL_N] at hok h1
        rcases decodeN_shape (b :: t).length ((b :: t).getD 0 0).toNat ((b :: t).getD 1 0).toNat ((b :: t).getD 2 0).toNat ((b :: t).getD 3 0).toNat with ⟨h, e⟩ | ⟨a1, a2, a3, a4, e⟩ | ⟨a1, a2, a3, a4, a5, a6, e⟩ | ⟨a1, a2, a3, a4, a5, a6, a7, e⟩ | e
        · simp at h; omega
        · rw [e] at h1; simp only at h1; omega
        · rw [e] at h1; simp only at h1; omega
        · rw [e] at h1; simp only at h1; omega
        · rw [e] at hok; simp at hok
      · rw [if_neg hok] at h0; omega
theorem pk_ok {l : List UInt8} (h1 : pkL l ≠ -1) (h2 : pkL l ≠ -2) : l ≠ [] ∧ okD l ∧ pkL l = ((decodeL l).1 : Int) := by
  have hne := pk_ne h1
  unfold pkL at h2 ⊢
  rw [if_neg hne] at h2 ⊢
  by_cases hok : okD l
  · exact ⟨hne, hok, by rw [if_pos hok]⟩
  · rw [if_neg hok] at h2; exact absurd rfl h2

theorem Tx.len {fits : Int → Bool} {l : List UInt8} {n : Nat} (h : Tx fits l n) : n ≤ l.length ∧ l.length ≤ 4 * n := by
  induction h with
  | nil => simp
  | cons l n hne hok hf ht ih =>
    have h1 := on_len l hne
    have h2 : (decodeL l).2 ≤ 4 := by
      rw [decodeL_N]
      rcases decodeN_shape l.length (l.getD 0 0).toNat (l.getD 1 0).toNat (l.getD 2 0).toNat (l.getD 3 0).toNat with ⟨h, e⟩ | ⟨a1, a2, a3, a4, e⟩ | ⟨a1, a2, a3, a4, a5, a6, e⟩ | ⟨a1, a2, a3, a4, a5, a6, a7, e⟩ | e <;> rw [e] <;> simp only <;> omega
    unfold onL at ih h1
    rw [List.length_drop] at ih h1
    omega
theorem Tx.ne {fits : Int → Bool} {l : List UInt8} {n : Nat} (h : Tx fits l n) (hn : 1 ≤ n) : l ≠ [] := by
  cases h with
  | nil => omega
  | cons _ _ hne => exact hne
theorem Tx.zero {fits : Int → Bool} {n : Nat} (h : Tx fits [] n) : n = 0 := by
  cases h with
  | nil => rfl
  | cons _ _ hne => exact absurd rfl hne
theorem Tx.valid {fits : Int → Bool} {l : List UInt8} {n : Nat} (h : Tx fits l n) : validD l = true := by
  induction h with
  | nil => rfl
  | cons l n hne hok hf ht ih => rw [valid_step l hne, show l.drop (decodeL l).2 = onL l from rfl, ih]; simp [hok]
theorem Tx.pk {fits : Int → Bool} {l : List UInt8} {n : Nat} (h : Tx fits l n) (hn : 1 ≤ n) (t : List UInt8) : fits (pkL (l ++ t)) = true := by
  cases h with
  | nil => omega
  | cons _ _ hne hok hf => rw [pk_app l t hne hok]; exact hf
/-- Runes that fit are read, up to what does not. -/
theorem run_there (fits : Int → Bool) (most : Nat) {m : List UInt8} {n : Nat} (h : Tx fits m n) : ∀ (f n0 : Nat) (t : List UInt8) (a : Int), (m ++ t).length < f → n0 + n ≤ most → fits (pkL t) = false → runL fits most f n0 (m ++ t, a) = ((t, a + n), true) := by
  induction h with
  | nil =>
    intro f n0 t a hf hn ht
    cases f with
    | zero => omega
    | succ f => rw [runL, if_neg (by simp [ht])]; simp
  | cons l n hne hok hfit ht ih =>
    intro f n0 t a hf hn hst
    cases f with
    | zero => omega
    | succ f =>
      have hon := on_len l hne
      rw [runL, if_pos (by rw [show (l ++ t, a).1 = l ++ t from rfl, pk_app l t hne hok]; exact hfit), if_neg (by omega), show (l ++ t, a).1 = l ++ t from rfl, on_app l t hne hok, ih f (n0 + 1) t (a + 1) (by simp only [List.length_append] at hf ⊢; omega) (by omega) hst]
      simp only [Prod.mk.injEq, and_true, true_and]
      omega
/-- What was read are runes that fit. -/
theorem run_back (fits : Int → Bool) (most : Nat) (h1 : fits (-1) = false) (h2 : fits (-2) = false) : ∀ (f n0 : Nat) (l : List UInt8) (a : Int) (r : List UInt8) (b : Int), l.length < f → n0 ≤ most → runL fits most f n0 (l, a) = ((r, b), true) → ∃ m n, l = m ++ r ∧ Tx fits m n ∧ n0 + n ≤ most ∧ fits (pkL r) = false ∧ b = a + (n : Int) := by
  intro f
  induction f with
  | zero => intro n0 l a r b hf; omega
  | succ f ih =>
    intro n0 l a r b hf hn0 hr
    rw [runL] at hr
    cases hfit : fits (pkL l) with
    | false =>
      rw [if_neg (by simp [hfit])] at hr
      simp only [Prod.mk.injEq, and_true] at hr
      obtain ⟨rfl, rfl⟩ := hr
      exact ⟨[], 0, rfl, .nil, by omega, hfit, by simp⟩
    | true =>
      obtain ⟨hne, hok, hpk⟩ := pk_ok (l := l) (fun e => by rw [e, h1] at hfit; cases hfit) (fun e => by rw [e, h2] at hfit; cases hfit)
      rw [if_pos (by simp [hfit])] at hr
      by_cases hm : n0 = most
      · rw [if_pos hm] at hr; simp at hr
      · rw [if_neg hm] at hr
        have hon := on_len l hne
        obtain ⟨m, n, e, htx, hle, hst, hb⟩ := ih (n0 + 1) (onL l) (a + 1) r b (by omega) (by omega) hr
        have hw := decL_le l hne
        have hsp : l = (l.take (decodeL l).2 ++ m) ++ r := by
          rw [List.append_assoc, ← e]; unfold onL; exact (List.take_append_drop _ l).symm
        have hlen : (l.take (decodeL l).2).length = (decodeL l).2 := by rw [List.length_take]; omega
        have hpos := decodeL_width l
        have hpne : l.take (decodeL l).2 ++ m ≠ [] := by
          intro e0
          have := congrArg List.length e0
          simp only [List.length_append, List.length_nil] at this
          omega
        have hdc := dec_cut (l.take (decodeL l).2 ++ m) r hpne (by rw [← hsp]; exact hok) (by rw [← hsp, List.length_append]; omega)
        rw [← hsp] at hdc
        refine ⟨_, n + 1, hsp, .cons _ _ hpne ?_ ?_ ?_, by omega, hst, by omega⟩
        · unfold okD; rw [hdc]; exact hok
        · rw [hdc, ← hpk]; exact hfit
        · unfold onL
          rw [hdc, List.drop_append_of_le_length (by omega), List.drop_of_length_le (by omega)]
          exact htx
/-- As many as there are. -/
theorem run_len (fits : Int → Bool) (most : Nat) : ∀ (f n0 : Nat) (c : Cur), (runL fits most f n0 c).1.1.length ≤ c.1.length := by
  intro f
  induction f with
  | zero => intro n0 c; exact Nat.le_refl _
  | succ f ih =>
    intro n0 c
    rw [runL]
    split
    · split
      · exact Nat.le_refl _
      · have := ih (n0 + 1) (onL c.1, c.2 + 1)
        have h2 : (onL c.1).length ≤ c.1.length := by unfold onL; rw [List.length_drop]; omega
        exact Nat.le_trans this h2
    · exact Nat.le_refl _
theorem skip_len : ∀ (f : Nat) (c : Cur), (skipL f c).1.length ≤ c.1.length := by
  intro f
  induction f with
  | zero => intro c; exact Nat.le_refl _
  | succ f ih =>
    intro c
    rw [skipL]
    split
    · have h2 : (onL c.1).length ≤ c.1.length := by unfold onL; rw [List.length_drop]; omega
      exact Nat.le_trans (ih (onL c.1, c.2 + 1)) h2
    · exact Nat.le_refl _
/-- Behind the blanks there is none. -/
theorem skip_end : ∀ (f : Nat) (c : Cur), c.1.length ≤ f → ¬ (pkL (skipL f c).1 = 32 ∨ pkL (skipL f c).1 = 10) := by
  intro f
  induction f with
  | zero =>
    intro c hf
    have : c.1 = [] := List.eq_nil_of_length_eq_zero (by omega)
    rw [skipL, this, pk_nil]; omega
  | succ f ih =>
    intro c hf
    rw [skipL]
    split
    · rename_i hb
      have hne : c.1 ≠ [] := pk_ne (by omega)
      have := on_len c.1 hne
      exact ih (onL c.1, c.2 + 1) (by simp only; omega)
    · assumption
theorem skip_stop (f : Nat) (c : Cur) (h : ¬ (pkL c.1 = 32 ∨ pkL c.1 = 10)) : skipL f c = c := by
  cases f with
  | zero => rfl
  | succ f => rw [skipL, if_neg h]
theorem skip_fuel : ∀ (f f' : Nat) (c : Cur), c.1.length ≤ f → c.1.length ≤ f' → skipL f c = skipL f' c := by
  intro f
  induction f with
  | zero =>
    intro f' c hf hf'
    have : c.1 = [] := List.eq_nil_of_length_eq_zero (by omega)
    rw [skipL, skip_stop f' c (by rw [this, pk_nil]; omega)]
  | succ f ih =>
    intro f' c hf hf'
    by_cases hb : pkL c.1 = 32 ∨ pkL c.1 = 10
    · have hne : c.1 ≠ [] := pk_ne (by omega)
      have := on_len c.1 hne
      cases f' with
      | zero => exact absurd (List.eq_nil_of_length_eq_zero (by omega)) hne
      | succ f' => rw [skipL, skipL, if_pos hb, if_pos hb]; exact ih f' _ (by simp only; omega) (by simp only; omega)
    · rw [skip_stop _ _ hb, skip_stop _ _ hb]
/-- Blanks skipped as far as they go. -/
def skp (c : Cur) : Cur := skipL c.1.length c
theorem skp_idem (c : Cur) : skp (skp c) = skp c := by
  unfold skp; exact skip_stop _ _ (skip_end _ _ (Nat.le_refl _))
theorem skp_blank (t : List UInt8) (a : Int) : skp (32 :: t, a) = skp (t, a + 1) := by
  unfold skp
  rw [show ((32 : UInt8) :: t, a).1 = 32 :: t from rfl, List.length_cons, skipL, if_pos (.inl (pk_byte 32 t (by decide))), show ((32 : UInt8) :: t, a).1 = 32 :: t from rfl, on_byte 32 t (by decide)]
theorem skp_stop (c : Cur) (h : ¬ (pkL c.1 = 32 ∨ pkL c.1 = 10)) : skp c = c := skip_stop _ _ h
theorem skp_len (c : Cur) : (skp c).1.length ≤ c.1.length := skip_len _ _
theorem skip_fst : ∀ (f : Nat) (l : List UInt8) (a b : Int), (skipL f (l, a)).1 = (skipL f (l, b)).1 := by
  intro f
  induction f with
  | zero => intro l a b; rfl
  | succ f ih =>
    intro l a b
    rw [skipL, skipL]
    by_cases hb : pkL l = 32 ∨ pkL l = 10
    · rw [if_pos hb, if_pos hb]; exact ih _ _ _
    · rw [if_neg hb, if_neg hb]
theorem skp_fst (l : List UInt8) (a b : Int) : (skp (l, a)).1 = (skp (l, b)).1 := skip_fst _ _ _ _
theorem mv_blank {c : Int} (h : mvR c = true) : ¬ (c = 32 ∨ c = 10) := by
  intro e
  rcases e with e | e <;> (rw [e] at h; cases h)
/-- A note's text. -/
def noteL (c : Cur) : Except Int (Cur × List UInt8 × List UInt8) :=
  let y := runL mvR 20 (c.1.length + 1) 0 c
  if y.2 = false then .error y.1.2
  else
    let z := skp y.1
    if pkL z.1 = 123 then
      let v : Cur := (onL z.1, z.2 + 1)
      let u := runL cmR 200 (v.1.length + 1) 0 v
      if u.2 = false then .error u.1.2
      else if pkL u.1.1 = 125 then .ok ((onL u.1.1, u.1.2 + 1), c.1.take (c.1.length - y.1.1.length), v.1.take (v.1.length - u.1.1.length))
      else .error u.1.2
    else .ok (z, c.1.take (c.1.length - y.1.1.length), [])
/-- A comment's text. -/
def cmT (cm : List UInt8) : List UInt8 := if cm = [] then [] else 32 :: 123 :: (cm ++ [125])
theorem take_front (m t : List UInt8) : (m ++ t).take ((m ++ t).length - t.length) = m := by simp
/-- What is written as a note's text is read so. -/
theorem note_there (mv cm tail : List UInt8) (n k : Nat) (a : Int) (hm : Tx mvR mv n) (hn : n ≤ 20) (hc : Tx cmR cm k) (hk : k ≤ 200) (ht : mvR (pkL tail) = false) (ht2 : pkL (skp (tail, 0)).1 ≠ 123) :
    ∃ c' : Cur, noteL (mv ++ (cmT cm ++ tail), a) = .ok (c', mv, cm) ∧ ∃ a', skp c' = skp (tail, a') := by
  by_cases hcm : cm = []
  · subst hcm
    have hr := run_there mvR 20 hm ((mv ++ tail).length + 1) 0 tail a (by omega) (by omega) ht
    refine ⟨skp (tail, a + n), ?_, a + n, skp_idem _⟩
    unfold noteL cmT
    simp only [if_true, List.nil_append, hr]
    rw [if_neg (by simp), if_neg (by rw [skp_fst tail (a + n) 0]; exact ht2), take_front]
  · have hr := run_there mvR 20 hm ((mv ++ (32 :: 123 :: (cm ++ [125]) ++ tail)).length + 1) 0 (32 :: 123 :: (cm ++ [125]) ++ tail) a (by omega) (by omega) (by rw [List.cons_append, pk_byte 32 _ (by decide)]; decide)
    have hz : skp (32 :: 123 :: (cm ++ [125]) ++ tail, a + n) = (123 :: (cm ++ (125 :: tail)), a + n + 1) := by
      rw [List.cons_append, skp_blank, skp_stop _ (by rw [List.cons_append, pk_byte 123 _ (by decide)]; decide)]
      simp
    have hu := run_there cmR 200 hc ((cm ++ (125 :: tail)).length + 1) 0 (125 :: tail) (a + n + 1 + 1) (by omega) (by omega) (by rw [pk_byte 125 _ (by decide)]; decide)
    refine ⟨(tail, a + n + 1 + 1 + k + 1), ?_, _, rfl⟩
    unfold noteL cmT
    simp only [if_neg hcm, hr, hz]
    rw [if_neg (by simp), if_pos (by rw [pk_byte 123 _ (by decide)]; decide), on_byte 123 _ (by decide), hu]
    simp only
    rw [if_neg (by simp), if_pos (by rw [pk_byte 125 _ (by decide)]; decide), on_byte 125 _ (by decide), take_front, take_front]
/-- What is read as a note's text is right. -/
theorem note_back (l : List UInt8) (a : Int) (c' : Cur) (mv cm : List UInt8) (hp : mvR (pkL l) = true) (h : noteL (l, a) = .ok (c', mv, cm)) :
    (∃ n, Tx mvR mv n ∧ 1 ≤ n ∧ n ≤ 20) ∧ (∃ k, Tx cmR cm k ∧ k ≤ 200) ∧ c'.1.length < l.length := by
  unfold noteL at h
  simp only at h
  obtain ⟨⟨⟨r, b⟩, ok⟩, hy⟩ : ∃ y, y = runL mvR 20 (l.length + 1) 0 (l, a) := ⟨_, rfl⟩
  rw [← hy] at h
  cases ok with
  | false => rw [if_pos rfl] at h; cases h
  | true =>
    obtain ⟨m, n, e, htx, hle, hst, hb⟩ := run_back mvR 20 (by decide) (by decide) (l.length + 1) 0 l a r b (by omega) (by omega) hy.symm
    have hn1 : 1 ≤ n := by
      cases htx with
      | nil => rw [List.nil_append] at e; rw [e] at hp; rw [hp] at hst; cases hst
      | cons => omega
    have hlm := (htx.len).1
    have hll : l.length = m.length + r.length := by rw [e, List.length_append]
    have hmv : l.take (l.length - r.length) = m := by rw [e]; exact take_front m r
    rw [if_neg (by simp)] at h
    simp only at h
    rw [hmv] at h
    have hzl := skp_len (r, b)
    obtain ⟨z, hz⟩ : ∃ z, z = skp (r, b) := ⟨_, rfl⟩
    rw [← hz] at h hzl
    simp only at hzl
    by_cases h123 : pkL z.1 = 123
    · rw [if_pos h123] at h
      have hzn : z.1 ≠ [] := pk_ne (by omega)
      have hzo := on_len z.1 hzn
      obtain ⟨⟨⟨r2, b2⟩, ok2⟩, hu⟩ : ∃ u, u = runL cmR 200 ((onL z.1).length + 1) 0 (onL z.1, z.2 + 1) := ⟨_, rfl⟩
      rw [← hu] at h
      cases ok2 with
      | false => rw [if_pos rfl] at h; cases h
      | true =>
        obtain ⟨m2, n2, e2, htx2, hle2, hst2, hb2⟩ := run_back cmR 200 (by decide) (by decide) ((onL z.1).length + 1) 0 (onL z.1) (z.2 + 1) r2 b2 (by omega) (by omega) hu.symm
        have hcm : (onL z.1).take ((onL z.1).length - r2.length) = m2 := by rw [e2]; exact take_front m2 r2
        have hll2 : (onL z.1).length = m2.length + r2.length := by rw [e2, List.length_append]
        rw [if_neg (by simp)] at h
        simp only at h
        rw [hcm] at h
        by_cases h125 : pkL r2 = 125
        · rw [if_pos h125] at h
          simp only [Except.ok.injEq, Prod.mk.injEq] at h
          obtain ⟨rfl, rfl, rfl⟩ := h
          have := on_len r2 (pk_ne (by omega))
          exact ⟨⟨n, htx, hn1, by omega⟩, ⟨n2, htx2, by omega⟩, by simp only; omega⟩
        · rw [if_neg h125] at h; cases h
    · rw [if_neg h123] at h
      simp only [Except.ok.injEq, Prod.mk.injEq] at h
      obtain ⟨rfl, rfl, rfl⟩ := h
      exact ⟨⟨n, htx, hn1, by omega⟩, ⟨0, .nil, by omega⟩, by omega⟩
end Go.Proofs.YtdibjdpnleepmacDoor
