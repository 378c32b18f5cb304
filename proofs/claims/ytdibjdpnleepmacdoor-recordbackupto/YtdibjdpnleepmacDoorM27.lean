/-
  Plain mathematics of records: what a survey finds, against trees.
-/
import Derived.Test.YtdibjdpnleepmacDoorN5
import Derived.Test.YtdibjdpnleepmacDoorM26
namespace Go.Proofs.YtdibjdpnleepmacDoor
open Go.Lib
theorem txF_back (fits : Int → Bool) (most : Nat) (s : ByteArray) : ∀ (f pos n m : Nat), s.size ≤ pos + f → n ≤ most → txF fits most s f pos n = some m → validD (s.data.toList.drop pos) = true → Tx fits (s.data.toList.drop pos) (m - n) ∧ n ≤ m ∧ m ≤ most := by
  intro f
  induction f with
  | zero =>
    intro pos n m hf hn h hv
    rw [txF] at h
    cases h
    rw [List.drop_of_length_le (by rw [← size_eq]; omega), Nat.sub_self]
    exact ⟨.nil, Nat.le_refl _, hn⟩
  | succ f ih =>
    intro pos n m hf hn h hv
    by_cases hp : pos < s.size
    · have hne : s.data.toList.drop pos ≠ [] := by
        intro e
        have := congrArg List.length e
        rw [List.length_drop, ← size_eq] at this
        simp at this
        omega
      rw [txF, if_pos hp] at h
      have hd := decodeL_drop s pos
      rw [← hd] at h
      split at h
      · cases h
      · rename_i hc
        rw [valid_step _ hne, hd, List.drop_drop, Bool.and_eq_true, decide_eq_true_eq] at hv
        rw [hd] at h hc
        have hw := width_pos s pos
        obtain ⟨q1, q2, q3⟩ := ih (pos + (Utf8.decode s pos).2) (n + 1) m (by omega) (by omega) h hv.2
        refine ⟨?_, by omega, q3⟩
        rw [show m - n = (m - (n + 1)) + 1 by omega]
        refine .cons _ _ hne hv.1 ?_ ?_
        · rw [hd]
          cases hq : fits (((Utf8.decode s pos).1 : Nat) : Int) with
          | true => rfl
          | false => exact absurd (.inr hq) hc
        · unfold onL
          rw [hd, List.drop_drop]
          exact q1
    · rw [txF_end _ _ _ _ _ _ hp] at h
      cases h
      rw [List.drop_of_length_le (by rw [← size_eq]; omega), Nat.sub_self]
      exact ⟨.nil, Nat.le_refl _, hn⟩
theorem txF_there (fits : Int → Bool) (most : Nat) (s : ByteArray) : ∀ (f pos n k : Nat), s.size ≤ pos + f → n + k ≤ most → Tx fits (s.data.toList.drop pos) k → txF fits most s f pos n = some (n + k) := by
  intro f
  induction f with
  | zero =>
    intro pos n k hf hn h
    rw [List.drop_of_length_le (by rw [← size_eq]; omega)] at h
    rw [txF, h.zero]; rfl
  | succ f ih =>
    intro pos n k hf hn h
    by_cases hp : pos < s.size
    · have hd := decodeL_drop s pos
      have hw := width_pos s pos
      rw [txF, if_pos hp]
      generalize hl : s.data.toList.drop pos = l at h
      cases h with
      | nil =>
        have := congrArg List.length hl
        rw [List.length_drop, ← size_eq] at this
        simp at this
        omega
      | cons _ n' hne hok hfit ht =>
        rw [← hl] at hfit ht
        rw [hd] at hfit
        rw [if_neg (by rw [hfit]; simp; omega), ih (pos + (Utf8.decode s pos).2) (n + 1) n' (by omega) (by omega) (by unfold onL at ht; rw [hd, List.drop_drop] at ht; exact ht)]
        congr 1; omega
    · rw [List.drop_of_length_le (by rw [← size_eq]; omega)] at h
      rw [txF_end _ _ _ _ _ _ hp, h.zero]; rfl
theorem isText_iff (fits : Int → Bool) (least most : Nat) (s : ByteArray) : isTextB fits least most s = true ↔ ∃ n, Tx fits s.data.toList n ∧ least ≤ n ∧ n ≤ most := by
  constructor
  · intro h
    unfold isTextB at h
    split at h
    · cases h
    · rename_i n hn
      rw [Bool.and_eq_true, decide_eq_true_eq] at h
      have := txF_back fits most s s.size 0 0 n (by omega) (by omega) hn (by rw [List.drop_zero]; exact h.2)
      rw [List.drop_zero, Nat.sub_zero] at this
      exact ⟨n, this.1, h.1, this.2.2⟩
  · rintro ⟨n, h1, h2, h3⟩
    have := txF_there fits most s s.size 0 0 n (by omega) (by omega) (by rw [List.drop_zero]; exact h1)
    unfold isTextB
    rw [this]
    simp only [Bool.and_eq_true, decide_eq_true_eq]
    exact ⟨by omega, h1.valid⟩
theorem ntB_iff (t : Nt) : ntB t = true ↔ okN t.mv t.cm := by
  unfold ntB okN
  rw [Bool.and_eq_true, isText_iff, isText_iff]
  constructor
  · rintro ⟨h1, n, h2, -, h3⟩; exact ⟨h1, n, h2, h3⟩
  · rintro ⟨h1, n, h2, h3⟩; exact ⟨h1, n, h2, by omega, h3⟩
theorem okN.size {mv cm : ByteArray} (h : okN mv cm) : 1 ≤ mv.size ∧ mv.size ≤ 80 ∧ cm.size ≤ 800 := by
  obtain ⟨⟨n, h1, h2, h3⟩, ⟨k, h4, h5⟩⟩ := h
  have a := h1.len
  have b := h4.len
  rw [← size_eq] at a b
  omega
/-- What a survey finds that stops nowhere. -/
theorem sv_back : ∀ (F : Fo) (f : Nat) (k : Int) (s : Sv), hg F ≤ f → s.wr = false → 0 ≤ s.n → 1 ≤ k → 2147483647 - 1000 * s.n ≤ s.left → (svL f (toL F) k s).1.wr = false → (svL f (toL F) k s).1.n ≤ 1000 → (svL f (toL F) k s).1.d ≤ 50 →
    OkF F ∧ (svL f (toL F) k s).1.n = s.n + cnt F ∧ (F = .nil ∨ k - 1 + hg F ≤ (svL f (toL F) k s).1.d) ∧ s.d ≤ (svL f (toL F) k s).1.d ∧ (svL f (toL F) k s).2 = true ∧ 2147483647 - 1000 * (svL f (toL F) k s).1.n ≤ (svL f (toL F) k s).1.left
  | .nil, f, k, s, hf, hs, hn, hk, hl, h1, h2, h3 => by
    have e : svL f (toL .nil) k s = (s, true) := by cases f with | zero => rw [svL] | succ f => rw [toL, svL]
    rw [e] at h1 h2 h3 ⊢
    exact ⟨trivial, by simp [cnt], .inl rfl, by simp, rfl, hl⟩
  | .cons mv cm nx r, 0, k, s, hf, hs, hn, hk, hl, h1, h2, h3 => by
    rw [hg] at hf; omega
  | .cons mv cm nx r, f + 1, k, s, hf, hs, hn, hk, hl, h1, h2, h3 => by
    have hf1 : hg nx ≤ f ∧ hg r ≤ f + 1 := by rw [hg] at hf; omega
    rw [toL, svL] at h1 h2 h3 ⊢
    obtain ⟨o, ho⟩ : ∃ o, o = s.one k (.mk mv cm (toL nx)) := ⟨_, rfl⟩
    have o1 : o.n = s.n + 1 := by rw [ho]; rfl
    have o2 : o.d = max s.d k := by rw [ho]; rfl
    have o3 : o.wr = !ntB (.mk mv cm (toL nx)) := by rw [ho]; rfl
    have o4 : o.left = s.left - (1 + (mv.size : Int) + (cm.size : Int)) := by rw [ho]; rfl
    rw [← ho] at h1 h2 h3 ⊢
    by_cases hc : o.wr = true ∨ o.left < 0 ∨ k > 65536
    · exfalso
      rw [if_pos hc] at h1 h2 h3
      simp only at h1 h2 h3
      rw [h1] at o3
      have hok : okN mv cm := (ntB_iff (.mk mv cm (toL nx))).1 (by simpa using o3.symm)
      have := hok.size
      rcases hc with hc | hc | hc
      · rw [h1] at hc; cases hc
      · omega
      · omega
    · rw [if_neg hc] at h1 h2 h3 ⊢
      have hw : o.wr = false := by cases hq : o.wr with | false => rfl | true => exact absurd (.inl hq) hc
      rw [hw] at o3
      have hok : okN mv cm := (ntB_iff (.mk mv cm (toL nx))).1 (by simpa using o3.symm)
      have hsz := hok.size
      rw [show (Nt.mk mv cm (toL nx)).nx = toL nx from rfl] at h1 h2 h3 ⊢
      obtain ⟨u, hu⟩ : ∃ u, u = svL f (toL nx) (k + 1) o := ⟨_, rfl⟩
      by_cases hg2 : u.2 = false
      · rw [← hu, if_pos hg2] at h1 h2 h3
        have q := sv_back nx f (k + 1) o hf1.1 hw (by omega) (by omega) (by omega) (by rw [← hu]; exact h1) (by rw [← hu]; exact h2) (by rw [← hu]; exact h3)
        rw [← hu, hg2] at q
        obtain ⟨-, -, -, -, q, -⟩ := q
        cases q
      · rw [← hu, if_neg hg2] at h1 h2 h3 ⊢
        have hmono := sv_mono (f + 1) (toL r) k u.1
        have hwu : u.1.wr = false := by
          have := sv_wr f (toL nx) (k + 1) o hw
          rw [← hu] at this
          exact this (by simpa using hg2)
        have q := sv_back nx f (k + 1) o hf1.1 hw (by omega) (by omega) (by omega) (by rw [← hu]; exact hwu) (by rw [← hu]; omega) (by rw [← hu]; omega)
        rw [← hu] at q
        obtain ⟨q1, q2, q3, q4, q5, q6⟩ := q
        have z := sv_back r (f + 1) k u.1 hf1.2 hwu (by omega) hk q6 h1 h2 h3
        obtain ⟨z1, z2, z3, z4, z5, z6⟩ := z
        refine ⟨⟨hok, q1, z1⟩, by rw [cnt]; omega, .inr ?_, by omega, z5, z6⟩
        rw [hg]
        have y1 : k + (hg nx : Int) ≤ (svL (f + 1) (toL r) k u.1).1.d := by
          rcases q3 with rfl | q3
          · simp only [hg]; omega
          · omega
        have y2 : k - 1 + (hg r : Int) ≤ (svL (f + 1) (toL r) k u.1).1.d := by
          rcases z3 with rfl | z3
          · simp only [hg]; omega
          · omega
        omega
where
  sv_mono : ∀ (f : Nat) (l : List Nt) (k : Int) (s : Sv), s.n ≤ (svL f l k s).1.n ∧ s.d ≤ (svL f l k s).1.d
    | 0, l, k, s => by rw [svL]; exact ⟨Int.le_refl _, Int.le_refl _⟩
    | f + 1, [], k, s => by rw [svL]; exact ⟨Int.le_refl _, Int.le_refl _⟩
    | f + 1, t :: l, k, s => by
      have e1 : (s.one k t).n = s.n + 1 := rfl
      have e2 : (s.one k t).d = max s.d k := rfl
      rw [svL]
      split
      · exact ⟨by simp only; omega, by simp only; omega⟩
      · have a := sv_mono f t.nx (k + 1) (s.one k t)
        split
        · exact ⟨by simp only; omega, by simp only; omega⟩
        · have b := sv_mono (f + 1) l k (svL f t.nx (k + 1) (s.one k t)).1
          exact ⟨by omega, by omega⟩
  termination_by f l => (f, l.length)
  sv_wr : ∀ (f : Nat) (l : List Nt) (k : Int) (s : Sv), s.wr = false → (svL f l k s).2 = true → (svL f l k s).1.wr = false
    | 0, l, k, s, h, _ => by rw [svL]; exact h
    | f + 1, [], k, s, h, _ => by rw [svL]; exact h
    | f + 1, t :: l, k, s, h, h2 => by
      rw [svL] at h2 ⊢
      split at h2
      · cases h2
      · rename_i hc
        rw [if_neg hc]
        split at h2
        · cases h2
        · rename_i hd
          rw [if_neg hd]
          have hw : (s.one k t).wr = false := by cases hq : (s.one k t).wr with | false => rfl | true => exact absurd (.inl hq) hc
          exact sv_wr (f + 1) l k _ (sv_wr f t.nx (k + 1) (s.one k t) hw (by simpa using hd)) h2
  termination_by f l => (f, l.length)
theorem sv_there : ∀ (F : Fo) (f : Nat) (k : Int) (s : Sv), hg F ≤ f → s.wr = false → 0 ≤ s.n → 1 ≤ k → 2147483647 - 1000 * s.n ≤ s.left → OkF F → s.n + cnt F ≤ 1000 → k + hg F ≤ 60 →
    (svL f (toL F) k s).2 = true ∧ (svL f (toL F) k s).1.wr = false ∧ (svL f (toL F) k s).1.n = s.n + cnt F ∧ (svL f (toL F) k s).1.d ≤ max s.d (k - 1 + hg F) ∧ 2147483647 - 1000 * (svL f (toL F) k s).1.n ≤ (svL f (toL F) k s).1.left
  | .nil, f, k, s, hf, hs, hn, hk, hl, _, _, _ => by
    have e : svL f (toL .nil) k s = (s, true) := by cases f with | zero => rw [svL] | succ f => rw [toL, svL]
    rw [e]
    exact ⟨rfl, hs, by simp [cnt], by simp only; omega, hl⟩
  | .cons mv cm nx r, 0, k, s, hf, hs, hn, hk, hl, _, _, _ => by
    rw [hg] at hf; omega
  | .cons mv cm nx r, f + 1, k, s, hf, hs, hn, hk, hl, hO, hcn, hkh => by
    have hf1 : hg nx ≤ f ∧ hg r ≤ f + 1 := by rw [hg] at hf; omega
    have hkh1 : k + 1 + hg nx ≤ 60 ∧ k + hg r ≤ 60 := by rw [hg] at hkh; omega
    have hcn1 : s.n + 1 + cnt nx + cnt r ≤ 1000 := by rw [cnt] at hcn; omega
    obtain ⟨hok, hO1, hO2⟩ := hO
    rw [toL, svL]
    obtain ⟨o, ho⟩ : ∃ o, o = s.one k (.mk mv cm (toL nx)) := ⟨_, rfl⟩
    have o1 : o.n = s.n + 1 := by rw [ho]; rfl
    have o2 : o.d = max s.d k := by rw [ho]; rfl
    have o3 : o.wr = false := by rw [ho]; show (!ntB (.mk mv cm (toL nx))) = false; rw [(ntB_iff (.mk mv cm (toL nx))).2 hok]; rfl
    have o4 : o.left = s.left - (1 + (mv.size : Int) + (cm.size : Int)) := by rw [ho]; rfl
    have hsz := hok.size
    rw [← ho]
    have hnc : ¬ (o.wr = true ∨ o.left < 0 ∨ k > 65536) := by rw [o3]; simp; omega
    rw [if_neg hnc, show (Nt.mk mv cm (toL nx)).nx = toL nx from rfl]
    obtain ⟨q1, q2, q3, q4, q5⟩ := sv_there nx f (k + 1) o hf1.1 o3 (by omega) (by omega) (by omega) hO1 (by omega) (by omega)
    rw [if_neg (by rw [q1]; simp)]
    obtain ⟨z1, z2, z3, z4, z5⟩ := sv_there r (f + 1) k (svL f (toL nx) (k + 1) o).1 hf1.2 q2 (by omega) hk q5 hO2 (by omega) (by omega)
    refine ⟨z1, z2, by rw [cnt]; omega, ?_, z5⟩
    rw [hg]
    omega
theorem chk_back (d : Nat) (F : Fo) (hd : hg F ≤ d) (h : chkI d (toL F) = 0) : OkF F ∧ cnt F ≤ 1000 ∧ hg F ≤ 50 := by
  unfold chkI survey at h
  split at h
  · omega
  · rename_i hw
    split at h
    · omega
    · rename_i hnd
      obtain ⟨q1, q2, q3, -⟩ := sv_back F d 1 ⟨0, 0, false, 2147483647⟩ hd rfl (by simp) (by omega) (by simp) (by simpa using hw) (by omega) (by omega)
      simp only at q2
      refine ⟨q1, by omega, ?_⟩
      rcases q3 with rfl | q3
      · simp [hg]
      · omega
theorem chk_there (d : Nat) (F : Fo) (hd : hg F ≤ d) (hO : OkF F) (hn : cnt F ≤ 1000) (hh : hg F ≤ 50) : chkI d (toL F) = 0 := by
  obtain ⟨-, q2, q3, q4, -⟩ := sv_there F d 1 ⟨0, 0, false, 2147483647⟩ hd rfl (by simp) (by omega) (by simp) hO (by simp only; omega) (by omega)
  simp only at q3 q4
  unfold chkI survey
  rw [q2, if_neg (by simp), if_neg (by omega)]
end Go.Proofs.YtdibjdpnleepmacDoor
