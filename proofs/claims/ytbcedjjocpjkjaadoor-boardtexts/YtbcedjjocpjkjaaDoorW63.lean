/-
  gameref.Parsed, walked as far as the text is looked through: where it goes wrong.
-/
import Derived.Test.YtbcedjjocpjkjaaDoorW62
import Derived.Test.YtbcedjjocpjkjaaDoorW50
namespace Go.Proofs.YtbcedjjocpjkjaaDoor
open Go.RowKit
attribute [local go_sem ↓] Go.wp_at_zero Go.wp_at_succ

theorem joinS_len (W : Nat) : ∀ R : List (List UInt8), (∀ r ∈ R, r.length = W) → (joinS R).length = R.length * (W + 1)
  | [], _ => by simp [joinS]
  | a :: R, h => by
    have h1 := h a (by simp)
    have h2 := joinS_len W R (fun r hr => h r (by simp [hr]))
    have e : joinS (a :: R) = a ++ 47 :: joinS R := by simp [joinS]
    rw [e, List.length_append, List.length_cons, h1, h2, List.length_cons, Nat.succ_mul]
    omega
theorem RowsGood.joinLen {R : List (List UInt8)} (g : RowsGood R) : (joinR R).length ≤ 72 := by
  obtain ⟨W, w1, w8, hw⟩ := g.one
  obtain ⟨D, r, rfl⟩ : ∃ D r, R = D ++ [r] := ⟨R.dropLast, R.getLast g.ne, (List.dropLast_concat_getLast g.ne).symm⟩
  have hl := g.len
  have h1 := joinS_len W D (fun x hx => (hw x (by simp [hx])).1)
  have h2 := (hw r (by simp)).1
  simp only [List.length_append, List.length_cons, List.length_nil] at hl
  have h3 : D.length * (W + 1) ≤ 7 * 9 := Nat.mul_le_mul (by omega) (by omega)
  rw [joinR_snoc, List.length_append]
  omega
theorem handOk_len {h : List UInt8} (k : handOk h = true) : h.length ≤ 8 := by
  simp only [handOk, Bool.or_eq_true, decide_eq_true_eq, handB, Bool.and_eq_true] at k
  rcases k with rfl | k
  · simp
  · exact k.1
theorem Good.len {st : St} (g : Good st) : (txt st).length ≤ 100 := by
  cases st with
  | rows done cur =>
    obtain ⟨h7, hc, hd⟩ := g
    rcases hd with ⟨rfl, h8⟩ | ⟨hr, hle⟩
    · simp [txt, joinS]; omega
    · obtain ⟨W, w1, w8, hw⟩ := hr.one
      have h1 := joinS_len W done (fun x hx => (hw x hx).1)
      have h3 : done.length * (W + 1) ≤ 7 * 9 := Nat.mul_le_mul (by omega) (by omega)
      have h4 := rows_head hr.ne hw
      simp only [txt, List.length_append]
      omega
  | sp R => have := RowsGood.joinLen g; simp only [txt, List.length_append, List.length_cons, List.length_nil]; omega
  | turn R c => have := RowsGood.joinLen g.1; simp only [txt, List.length_append, List.length_cons, List.length_nil]; omega
  | hand1 R c h =>
    have := RowsGood.joinLen g.1
    have := handOk_len g.2.2
    simp only [txt, List.length_append, List.length_cons, List.length_nil]; omega
  | hand2 R c k h =>
    have := RowsGood.joinLen g.1
    have := handOk_len g.2.2.1
    have := handOk_len g.2.2.2.2
    simp only [txt, List.length_append, List.length_cons, List.length_nil]; omega

/-- What holds when k bytes have been looked through. -/
structure Through (s : ByteArray) (k : Nat) (st : St) : Prop where
  good : Good st
  tx : txt st = s.data.toList.take k
  pos : posF s.data.toList = ((sc st (s.data.toList.drop k)).1, (sc st (s.data.toList.drop k)).2 + k)
theorem Through.start (s : ByteArray) : Through s 0 (.rows [] []) := by
  refine ⟨⟨by simp, by decide, Or.inl ⟨rfl, by simp⟩⟩, by simp [txt, joinS], ?_⟩
  rw [List.drop_zero, sc_pos]
  rfl
theorem Through.len {s : ByteArray} {k : Nat} {st : St} (t : Through s k st) (hk : k ≤ s.size) : k ≤ 100 := by
  have h1 := t.good.len
  rw [t.tx, List.length_take, len_data] at h1
  omega
/-- One byte more: what package gameref says of it; where it goes on. -/
theorem Through.next {s : ByteArray} {k : Nat} {st : St} (t : Through s k st) (hk : k < s.size) :
    ((begF (s.data.toList.take (k + 1))).1 = false → (posF s.data.toList).2 = k ∧ ∀ x, ¬ readsAs s x) ∧
    ((begF (s.data.toList.take (k + 1))).1 = true → ∃ st', Through s (k + 1) st') := by
  have ht := take_snoc s k hk
  have hd := drop_cons s k hk
  have hp := t.pos
  rw [hd] at hp
  cases hst : step st s[k] with
  | none =>
    have hb := begF_bad t.good hst
    rw [t.tx, ← ht] at hb
    have hsc : sc st (s[k] :: s.data.toList.drop (k + 1)) = (fin st, 0) := sc_stuck (by simp [hst])
    rw [hsc] at hp
    refine ⟨fun _ => ⟨by rw [hp]; simp, fun x hx => ?_⟩, fun h => (by rw [hb] at h; cases h)⟩
    unfold readsAs at hx
    rw [hp, len_data] at hx
    simp at hx
    omega
  | some st' =>
    have hg := step_good t.good hst
    have hx := step_txt hst
    have hb := begF_good hg
    rw [hx, t.tx, ← ht] at hb
    refine ⟨fun h => (by rw [hb] at h; cases h), fun _ => ⟨st', hg, by rw [hx, t.tx, ← ht], ?_⟩⟩
    rw [hp, sc_step hst]
    simp only [Prod.mk.injEq, true_and]
    omega
/-- At the text's end. -/
theorem Through.stop {s : ByteArray} {st : St} (t : Through s s.size st) : txt st = s.data.toList ∧ begF s.data.toList = (true, (fin st).isSome) ∧ posF s.data.toList = (fin st, s.size) := by
  have hx := t.tx
  rw [take_all s s.size (Nat.le_refl _)] at hx
  have hb := begF_good t.good
  rw [hx] at hb
  have hp := t.pos
  rw [drop_all s s.size (Nat.le_refl _)] at hp
  exact ⟨hx, hb, by rw [hp]; simp [sc]⟩
end Go.Proofs.YtbcedjjocpjkjaaDoor
