/-
  gamelaw.NimGraphs: what the law builds of its own; what the two answers have in common.
-/
import Derived.Test.YtphnjedoghopcaaQ12
import Derived.Maps.AppendAt
namespace Go.Proofs.Ytphnjedoghopcaa
open Go.RowKit
attribute [local go_sem ↓] Go.wp_at_zero Go.wp_at_succ

theorem isG.up {w w' : World} {ao : Option Addr} {cap : Nat} {G : List (List Int)} (h : isG w w.heap.size ao cap G) (hb : Below w.heap.size w w') : isG w' w'.heap.size ao cap G := h.keep (fun k hk => hb.block k hk) hb.size
theorem isIs.up {w w' : World} {ao : Option Addr} {cap : Nat} {r : List Int} (h : isIs w w.heap.size ao cap r) (hb : Below w.heap.size w w') : isIs w' w'.heap.size ao cap r := h.keep (fun k hk => hb.block k hk) hb.size
theorem row_len {w : World} {base : Nat} {e : TypeId} {size n : Nat} {v : Value} {xs : List Value} (h : w.ownsRow base e size v n xs) : ∃ uo uc, v = .slice uo n uc := by
  rcases h.2 with ⟨h1, h2⟩ | ⟨g, cap, cur, h, -⟩
  · exact ⟨none, 0, by rw [h1, h2]⟩
  · exact ⟨_, _, h⟩
theorem own_ge {w : World} {base : Nat} {e : TypeId} {size : Nat} {v : Value} {n : Nat} {xs : List Value} (h : w.ownsRow base e size v n xs) : ∀ k, v.ownBlock = some k → base ≤ k := fun k hk => (World.ownsRow.lt h k hk).1
set_option maxHeartbeats 1000000 in
theorem valuesOf_no (G : List (List Int)) (hn : ¬ OkG G) (ao : Option Addr) (cap : Nat) (w : World) (hG : isG w w.heap.size ao cap G) :
    Calls Try.prog 14 #[.slice ao G.length cap] w fun e w' => VoEnd G w e w' := by
  have h0 : chkI G ≠ 0 := fun h => hn (chk_ok.1 h)
  have HGR := hide (rGraph_any _ ao cap G w hG)
  have HE : Hid (VoEnd G w (.returned (.tuple #[.slice none 0 0, .int .i64 (chkI G)])) w) := hide ⟨Below.refl _ _, .inr (.inr ⟨hn, rfl⟩)⟩
  have hne : (chkI G != 0) = true := by simp [h0]
  generalize chkI G = C at *
  clear h0 hn hG
  go_enter Try.func14, Try.ntmps14
  go_wp2_with fail
  refine (unhide HGR).mono ?_
  rintro e w1 ⟨rfl, rfl⟩
  go_wp2
  go_ret2
  exact unhide HE
theorem valuesOf_any (G : List (List Int)) (ao : Option Addr) (cap : Nat) (w : World) (hG : isG w w.heap.size ao cap G) :
    Calls Try.prog 14 #[.slice ao G.length cap] w fun e w' => VoEnd G w e w' := by
  rcases Classical.em (OkG G) with h | h
  · exact valuesOf_ok G h ao cap w hG
  · exact valuesOf_no G h ao cap w hG
/-- The two answers: one error, one list. -/
theorem two_form {G : List (List Int)} {w w1 w2 : World} {e1 e2 : Ending} (h1 : ValsEnd G w e1 w1) (h2 : VoEnd G w1 e2 w2) : ∃ (E : Int) (r : List Int) (a1 a2 : Option Addr) (k1 k2 : Nat),
    e1 = .returned (.tuple #[.slice a1 r.length k1, .int .i64 E]) ∧ e2 = .returned (.tuple #[.slice a2 r.length k2, .int .i64 E]) ∧ isIs w2 w2.heap.size a1 k1 r ∧ isIs w2 w2.heap.size a2 k2 r := by
  have nil : isIs w2 w2.heap.size none 0 [] := ⟨Nat.le_refl _, by unfold maxLen; omega, fun h => absurd rfl h⟩
  rcases h1.out with ⟨ok, g1, V1, he1, -, hr1, hs1, rk, hd⟩ | ⟨ok, he1, c, hc⟩ | ⟨hn, he1⟩
  · rcases h2.out with ⟨-, g2, V2, he2, -, hr2, hs2, -⟩ | ⟨-, he2, hnd⟩ | ⟨hn, -⟩
    · obtain rfl := solves_eq hd ok hs1 hs2
      have hl := hs1.len
      have hl2 := ok.len
      have q1 := (hr1.keep (h2.low.block _ hr1.lt)).is (by omega) (Nat.lt_of_lt_of_le hr1.lt h2.low.size)
      have q2 := hr2.is (by omega) hr2.lt
      refine ⟨0, V1.map fun n : Nat => (n : Int), _, _, V1.length, V1.length, ?_, ?_, q1, q2⟩
      · rw [he1, List.length_map, hl]
      · rw [he2, List.length_map, hl]
    · exact absurd ⟨rk, hd⟩ hnd
    · exact absurd ok hn
  · rcases h2.out with ⟨-, g2, V2, he2, -, hr2, hs2, rk, hd⟩ | ⟨-, he2, hnd⟩ | ⟨hn, -⟩
    · exact absurd hc (fun hc => no_round hd hc)
    · exact ⟨7, [], none, none, 0, 0, he1, he2, nil, nil⟩
    · exact absurd ok hn
  · rcases h2.out with ⟨ok, -⟩ | ⟨ok, -⟩ | ⟨-, he2⟩
    · exact absurd ok hn
    · exact absurd ok hn
    · exact ⟨_, [], none, none, 0, 0, he1, he2, nil, nil⟩
/-- A list of the law's own. -/
structure Ar where
  r : List Int
  ao : Option Addr
  c : Nat
def Ar.v (x : Ar) : Value := .slice x.ao x.r.length x.c
/-- Numbers in memory, in a block of S. -/
def isIsP (S : Nat → Prop) (w : World) (ao : Option Addr) (cap : Nat) (r : List Int) : Prop := r.length ≤ cap ∧ cap ≤ maxLen ∧ (r ≠ [] → ∃ g off, ao = some ⟨g, off, none⟩ ∧ S g ∧ ∀ (k : Nat) (x : Int), r[k]? = some x → w.cell? ⟨g, off + k, none⟩ = some (.int .i64 x))
theorem isIsP.keep {S S' : Nat → Prop} {w w' : World} {ao : Option Addr} {cap : Nat} {r : List Int} (hS : ∀ k, S k → S' k ∧ w'.heap[k]? = w.heap[k]?) (h : isIsP S w ao cap r) : isIsP S' w' ao cap r := by
  obtain ⟨h1, h2, h3⟩ := h
  refine ⟨h1, h2, fun hr => ?_⟩
  obtain ⟨g, off, e, hg, hc⟩ := h3 hr
  exact ⟨g, off, e, (hS g hg).1, fun k x hx => (World.cell?_of_block (a := ⟨g, off + k, none⟩) (hS g hg).2).trans (hc k x hx)⟩
theorem isIsP.of_row {w : World} {base : Nat} {v : Value} {r : List Int} (h : w.ownsRow base 3 1 v r.length (ivals r)) : ∃ ao cap, v = .slice ao r.length cap ∧ isIsP (fun k => base ≤ k ∧ k < w.heap.size) w ao cap r := by
  have h0 := h
  rcases h.2 with ⟨h1, h2⟩ | ⟨g, cap, cur, h1, hb, hg, hn, hc, -⟩
  · have : r = [] := List.eq_nil_of_length_eq_zero h2
    subst this
    exact ⟨none, 0, h1, Nat.le_refl _, by unfold maxLen; omega, fun h => absurd rfl h⟩
  · refine ⟨_, _, h1, hn, hc, fun _ => ⟨g, 0, rfl, ⟨hb, ltBlock hg⟩, fun k x hx => ?_⟩⟩
    have hk := (List.getElem?_eq_some_iff.1 hx).1
    rw [h1] at h0
    rw [Nat.zero_add, h0.cellAt k (by omega)]
    unfold ivals
    rw [List.getElem?_map, hx]
    rfl
def Own (w : World) (base : Nat) (v : Value) (k : Nat) : Prop := base ≤ k ∧ k < w.heap.size ∧ v.ownBlock ≠ some k
/-- A row of lists of the law's own. -/
structure isAr (w : World) (base : Nat) (v : Value) (L : List Ar) : Prop where
  row : w.ownsRow base 22 1 v L.length (L.map Ar.v)
  kids : ∀ x ∈ L, isIsP (Own w base v) w x.ao x.c x.r
theorem isAr.nil (w : World) (base : Nat) : isAr w base (.slice none 0 0) [] := ⟨⟨rfl, .inl ⟨rfl, rfl⟩⟩, fun x hx => by simp at hx⟩
theorem isAr.below {w w' : World} {base : Nat} {v : Value} {L : List Ar} (h : isAr w base v L) (hb : Below w.heap.size w w') : isAr w' base v L :=
  ⟨row_keep h.row (fun k _ hk => hb.block k hk), fun x hx => (h.kids x hx).keep (fun k hk => ⟨⟨hk.1, Nat.lt_of_lt_of_le hk.2.1 hb.size, hk.2.2⟩, hb.block k hk.2.1⟩)⟩
theorem isAr.snoc {w w' : World} {base : Nat} {v v' : Value} {L : List Ar} (h : isAr w base v L) (x : Ar) (h2 : isIsP (Own w base v) w x.ao x.c x.r)
    (hrow : w'.ownsRow base 22 1 v' (L.length + 1) (L.map Ar.v ++ [x.v])) (hg : w.grownBy w' v.ownBlock) (hfr : v'.ownBlock = v.ownBlock ∨ v'.ownBlock = some w.heap.size) : isAr w' base v' (L ++ [x]) := by
  have hS : ∀ k, Own w base v k → Own w' base v' k ∧ w'.heap[k]? = w.heap[k]? := by
    intro k hk
    refine ⟨⟨hk.1, Nat.lt_of_lt_of_le hk.2.1 hg.size, ?_⟩, hg.block k hk.2.1 (fun e => hk.2.2 e.symm)⟩
    intro e
    rcases hfr with hf | hf
    · rw [hf] at e; exact hk.2.2 e
    · rw [hf] at e; cases e; have := hk.2.1; omega
  refine ⟨by rw [List.map_append, List.length_append]; exact hrow, fun y hy => ?_⟩
  rcases List.mem_append.1 hy with hy | hy
  · exact (h.kids y hy).keep hS
  · simp only [List.mem_singleton] at hy
    subst hy
    exact h2.keep hS
theorem isAr.done {w : World} {base : Nat} {v : Value} {L : List Ar} (h : isAr w base v L) : ∃ ao cap, v = .slice ao L.length cap ∧ isG w w.heap.size ao cap (L.map (·.r)) := by
  have h0 := h.row
  rcases h.row.2 with ⟨h1, h2⟩ | ⟨g, cap, cur, h1, hb, hg, hn, hm, -⟩
  · have : L = [] := List.eq_nil_of_length_eq_zero h2
    subst this
    exact ⟨none, 0, h1, Nat.le_refl _, by unfold maxLen; omega, fun h => absurd rfl h⟩
  · refine ⟨_, _, h1, by rw [List.length_map]; exact hn, hm, fun _ => ⟨g, 0, rfl, ltBlock hg, fun i r hr => ?_⟩⟩
    rw [List.getElem?_map] at hr
    cases hx : L[i]? with
    | none => rw [hx] at hr; cases hr
    | some x =>
      rw [hx] at hr
      simp only [Option.map_some, Option.some.injEq] at hr
      subst hr
      have hi : i < L.length := (List.getElem?_eq_some_iff.1 hx).1
      obtain ⟨k1, k2, k3⟩ := h.kids x (List.mem_of_getElem? hx)
      refine ⟨x.ao, x.c, ?_, k1, k2, fun hne => ?_⟩
      · rw [h1] at h0
        rw [Nat.zero_add, h0.cellAt _ (by omega), List.getElem?_map, hx]
        rfl
      · obtain ⟨g2, o2, e2, hS, hc⟩ := k3 hne
        exact ⟨g2, o2, e2, hS.2.1, hc⟩
/-- Too large, just if a row is. -/
theorem big_row {A C : List (List Int)} (okA : OkG A) (okC : OkG C) (hP : A.length * C.length ≤ 1000) : bigB A C = true ↔ ∃ r ∈ bothG A C, 1000 < r.length := by
  have att : ∀ (G : List (List Int)), 0 < mostN G → ∃ (i : Nat) (r : List Int), G[i]? = some r ∧ r.length = mostN G := by
    intro G
    have gen : ∀ (l : List (List Int)) (a : Nat), l.foldl (fun n r => max n r.length) a = a ∨ ∃ r ∈ l, r.length = l.foldl (fun n r => max n r.length) a := by
      intro l
      induction l with
      | nil => intro a; exact .inl rfl
      | cons x l ih =>
        intro a
        rw [List.foldl_cons]
        rcases ih (max a x.length) with h | ⟨r, hr, h⟩
        · rw [h]
          rcases Nat.le_total a x.length with h1 | h1
          · exact .inr ⟨x, by simp, by omega⟩
          · exact .inl (by omega)
        · exact .inr ⟨r, by simp [hr], h⟩
    intro h0
    rcases gen G 0 with h | ⟨r, hr, h⟩
    · unfold mostN at h0; omega
    · obtain ⟨i, hi⟩ := List.getElem?_of_mem hr
      exact ⟨i, r, hi, h⟩
  have m1 : mostN A ≤ 1000 := (mostN_le A 1000 0 (by omega)).2 (fun r hr => by obtain ⟨i, hi⟩ := List.getElem?_of_mem hr; exact okA.row i r hi)
  have m2 : mostN C ≤ 1000 := (mostN_le C 1000 0 (by omega)).2 (fun r hr => by obtain ⟨i, hi⟩ := List.getElem?_of_mem hr; exact okC.row i r hi)
  constructor
  · intro h
    unfold bigB at h
    rw [decide_eq_false (by omega), Bool.false_or] at h
    have h1 := of_decide_eq_true h
    obtain ⟨i, a, ha, hla⟩ := att A (by omega)
    obtain ⟨j, c, hc, hlc⟩ := att C (by omega)
    exact ⟨_, List.mem_of_getElem? (bothG_at ha hc), by simp [rowAB]; omega⟩
  · rintro ⟨r, hr, hl⟩
    obtain ⟨m, hm⟩ := List.getElem?_of_mem hr
    obtain ⟨i, j, a, c, ha, hc, -, -, -, rfl⟩ := bothG_of hm
    have h1 := mostN_ge A 0 a (List.mem_of_getElem? ha)
    have h2 := mostN_ge C 0 c (List.mem_of_getElem? hc)
    unfold bigB mostN
    simp [rowAB] at hl
    rw [Bool.or_eq_true]
    exact .inr (decide_eq_true (by omega))
end Go.Proofs.Ytphnjedoghopcaa
