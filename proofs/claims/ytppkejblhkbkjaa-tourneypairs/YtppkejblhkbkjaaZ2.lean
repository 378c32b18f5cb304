/-
  Pairs of players, and how one more gets a partner, plain.
-/
import Derived.Test.YtppkejblhkbkjaaZ1
namespace Go.Proofs.Ytppkejblhkbkjaa.Tu

/-- Pairs of players below n that are not barred. -/
structure Mt (n : Nat) (ok : Nat → Nat → Bool) (M : Nat → Option Nat) : Prop where
  sym : ∀ x y, M x = some y → M y = some x
  lt : ∀ x y, M x = some y → x < n
  ne : ∀ x, M x ≠ some x
  ok : ∀ x y, M x = some y → ok x y = true
variable {n : Nat} {ok : Nat → Nat → Bool} {M : Nat → Option Nat} {tn : Nat → Tn}
theorem Mt.lt2 (h : Mt n ok M) {x y : Nat} (e : M x = some y) : y < n := h.lt y x (h.sym x y e)
theorem Mt.inj (h : Mt n ok M) {x y z : Nat} (e : M x = some z) (e' : M y = some z) : x = y := by
  have h1 := h.sym _ _ e
  rw [h.sym _ _ e'] at h1
  exact (Option.some.inj h1).symm

/-- The root finds a partner. -/
theorem augment (hs : ∀ x y, ok x y = ok y x) (hir : ∀ x, ok x x = false) (h : Mt n ok M) {p o r : Nat} {pre : List Nat} (hseg : Seg ok M tn p pre r) (hn : (pre ++ [r]).Nodup) (hr : M r = none) (hrn : r < n) (ho : M o = none) (hon : o < n) (hor : o ≠ r) (hok : ok p o = true) :
    ∃ f', Giv tn M p o f' ∧ Mt n ok (upd f' o p) ∧ (∀ x, M x ≠ none → upd f' o p x ≠ none) ∧ upd f' o p r ≠ none := by
  have hcl := hseg.closed h.sym
  have hoL : o ∉ pre ++ [r] := fun hx => by
    rcases List.mem_append.1 hx with hx | hx
    · obtain ⟨y, -, e⟩ := hcl o hx
      rw [ho] at e; cases e
    · simp at hx; exact hor hx
  obtain ⟨f', g1, g2, g3⟩ := giv_way hs h.sym h.ne hseg M o hn (fun x hx => rfl) (fun t ht => by rw [hr] at ht; cases ht) hoL hok
  have hhd : (pre ++ [r]).head? = some p := hseg.head
  have hpL : p ∈ pre ++ [r] := List.mem_of_mem_head? (by rw [hhd]; rfl)
  have hall := g2.all hs
  have hpo : f' p = some o := by
    cases hl : pre ++ [r] with
    | nil => simp at hl
    | cons x l =>
      rw [hl] at g2 hhd
      simp at hhd
      subst hhd
      exact g2.head.1
  have hrL : r ∈ pre ++ [r] := by simp
  have hlt : ∀ x ∈ pre ++ [r], x < n := fun x hx => by
    rcases List.mem_append.1 hx with hx | hx
    · obtain ⟨y, -, e⟩ := hcl x hx
      exact h.lt _ _ e
    · simp at hx; omega
  -- who is not on the way keeps his partner
  have hout : ∀ x, x ∉ pre ++ [r] → x ≠ o → ∀ y, upd f' o p x = some y → M x = some y ∧ y ∉ pre ++ [r] ∧ y ≠ o := fun x hx hxo y hy => by
    rw [upd_other _ hxo, g3 x hx] at hy
    have hyx := h.sym _ _ hy
    refine ⟨hy, fun hyL => ?_, fun e => ?_⟩
    · rcases List.mem_append.1 hyL with hyL | hyL
      · obtain ⟨z, hz, e⟩ := hcl y hyL
        rw [hyx] at e
        exact hx (List.mem_append.2 (.inl (by rw [Option.some.inj e]; exact hz)))
      · simp at hyL
        subst hyL
        rw [hr] at hyx; cases hyx
    · subst e
      rw [ho] at hyx; cases hyx
  have hin : ∀ x, x ∈ pre ++ [r] → ∃ y, upd f' o p x = some y ∧ ok x y = true ∧ upd f' o p y = some x := fun x hx => by
    have hxo : x ≠ o := fun e => hoL (by rw [← e]; exact hx)
    obtain ⟨y, e1, e2, e3⟩ := hall x hx
    refine ⟨y, by rw [upd_other _ hxo]; exact e1, e2, ?_⟩
    rcases e3 with ⟨rfl, e4⟩ | ⟨e4, e5⟩
    · rw [hhd] at e4
      rw [← Option.some.inj e4, upd_same]
    · rw [upd_other _ (fun e => hoL (by rw [← e]; exact e4))]
      exact e5
  refine ⟨f', g1, ⟨fun x y hy => ?_, fun x y hy => ?_, fun x hx => ?_, fun x y hy => ?_⟩, fun x hx => ?_, ?_⟩
  · by_cases hxo : x = o
    · subst hxo
      rw [upd_same] at hy
      obtain rfl := Option.some.inj hy
      rw [upd_other _ (fun e => hoL (by rw [← e]; exact hpL))]
      exact hpo
    · by_cases hx : x ∈ pre ++ [r]
      · obtain ⟨y', e1, -, e3⟩ := hin x hx
        rw [hy] at e1
        obtain rfl := Option.some.inj e1
        exact e3
      · obtain ⟨e1, e2, e3⟩ := hout x hx hxo y hy
        rw [upd_other _ e3, g3 y e2]
        exact h.sym _ _ e1
  · by_cases hxo : x = o
    · omega
    · by_cases hx : x ∈ pre ++ [r]
      · exact hlt x hx
      · exact h.lt _ _ (hout x hx hxo y hy).1
  · by_cases hxo : x = o
    · subst hxo
      rw [upd_same] at hx
      have := Option.some.inj hx
      subst this
      rw [hir] at hok; cases hok
    · by_cases hxL : x ∈ pre ++ [r]
      · obtain ⟨y', e1, e2, -⟩ := hin x hxL
        rw [hx] at e1
        obtain rfl := Option.some.inj e1
        rw [hir] at e2; cases e2
      · exact h.ne x (hout x hxL hxo x hx).1
  · by_cases hxo : x = o
    · subst hxo
      rw [upd_same] at hy
      obtain rfl := Option.some.inj hy
      rw [hs]; exact hok
    · by_cases hx : x ∈ pre ++ [r]
      · obtain ⟨y', e1, e2, -⟩ := hin x hx
        rw [hy] at e1
        obtain rfl := Option.some.inj e1
        exact e2
      · exact h.ok _ _ (hout x hx hxo y hy).1
  · by_cases hxo : x = o
    · subst hxo
      rw [upd_same]; simp
    · by_cases hxL : x ∈ pre ++ [r]
      · obtain ⟨y', e1, -, -⟩ := hin x hxL
        rw [e1]; simp
      · rw [upd_other _ hxo, g3 x hxL]
        exact hx
  · obtain ⟨y', e1, -, -⟩ := hin r hrL
    rw [e1]; simp
end Go.Proofs.Ytppkejblhkbkjaa.Tu
