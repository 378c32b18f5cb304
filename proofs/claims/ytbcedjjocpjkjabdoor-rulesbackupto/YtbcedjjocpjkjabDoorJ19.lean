/-
  package rules, walked: readWay.
  package rules, walked: appendUpTo at ways.
-/
import Derived.Test.YtbcedjjocpjkjabDoorM17
namespace Go.Proofs.YtbcedjjocpjkjabDoor
open Go.RowKit
attribute [local go_sem ↓] Go.wp_at_zero Go.wp_at_succ

/-- A way's four cells in block p. -/
def isWx (w : World) (p : Nat) (x0 x1 x2 x3 : Value) : Prop := w.heap[p]? = some (.cells #[x0, x1, x2, x3] 57 (0, 0))
theorem isWx.all {w : World} {p : Nat} {x0 x1 x2 x3 : Value} (h : isWx w p x0 x1 x2 x3) :
    (w.cell? ⟨p, 0, none⟩ = some x0 ∧ w.cell? ⟨p, 1, none⟩ = some x1 ∧ w.cell? ⟨p, 2, none⟩ = some x2 ∧ w.cell? ⟨p, 3, none⟩ = some x3) ∧
    w.frozen? ⟨p, 0, none⟩ = false ∧ w.frozen? ⟨p, 1, none⟩ = false ∧ w.frozen? ⟨p, 2, none⟩ = false ∧ w.frozen? ⟨p, 3, none⟩ = false := by
  unfold isWx at h; simp [World.cell?, World.frozen?, h]
theorem isWx.below {w w' : World} {p B : Nat} {x0 x1 x2 x3 : Value} (h : isWx w p x0 x1 x2 x3) (k : Below B w w') (hp : p < B) : isWx w' p x0 x1 x2 x3 := by
  unfold isWx at h ⊢; rw [k.block p hp, h]
theorem isWx.set0 {w : World} {p : Nat} {x0 x1 x2 x3 : Value} (h : isWx w p x0 x1 x2 x3) (y : Value) : isWx (w.setCell ⟨p, 0, none⟩ y) p y x1 x2 x3 := by
  unfold isWx at h ⊢; simp [World.setCell, Array.getElem?_modify, h]
theorem isWx.set1 {w : World} {p : Nat} {x0 x1 x2 x3 : Value} (h : isWx w p x0 x1 x2 x3) (y : Value) : isWx (w.setCell ⟨p, 1, none⟩ y) p x0 y x2 x3 := by
  unfold isWx at h ⊢; simp [World.setCell, Array.getElem?_modify, h]
theorem isWx.set2 {w : World} {p : Nat} {x0 x1 x2 x3 : Value} (h : isWx w p x0 x1 x2 x3) (y : Value) : isWx (w.setCell ⟨p, 2, none⟩ y) p x0 x1 y x3 := by
  unfold isWx at h ⊢; simp [World.setCell, Array.getElem?_modify, h]
theorem isWx.set3 {w : World} {p : Nat} {x0 x1 x2 x3 : Value} (h : isWx w p x0 x1 x2 x3) (y : Value) : isWx (w.setCell ⟨p, 3, none⟩ y) p x0 x1 x2 y := by
  unfold isWx at h ⊢; simp [World.setCell, Array.getElem?_modify, h]

theorem below_set4 {B : Nat} {a w : World} {b : Nat} {u0 u1 u2 u3 : Value} (hb : B ≤ b) (h : Below B a w) :
    Below B a ((((w.setCell ⟨b, 0, none⟩ u0).setCell ⟨b, 1, none⟩ u1).setCell ⟨b, 2, none⟩ u2).setCell ⟨b, 3, none⟩ u3) :=
  (((h.setCell (p := ⟨b, 0, none⟩) hb u0).setCell (p := ⟨b, 1, none⟩) hb u1).setCell (p := ⟨b, 2, none⟩) hb u2).setCell (p := ⟨b, 3, none⟩) hb u3
theorem cell_put (w : World) (p q : Addr) (v : Value) (h : q.block ≠ p.block) : (w.setCell p v).cell? q = w.cell? q := by
  unfold World.cell?
  rw [Below.heap_setCell _ _ _ _ h]

set_option maxHeartbeats 1000000 in
set_option maxRecDepth 100000 in
theorem readWay_any (s : ByteArray) (m : Int) (w : World) (hs : s.size < 2000000) (hm : w.cell? ⟨0, 0, none⟩ = some (.int .i64 m)) (h0 : 0 < w.heap.size) :
    Calls Tryd.prog 36 #[.string s] w fun e w' => ∃ (z : Wy) (ok : Bool), e = .returned (.tuple #[z.v, .bool ok]) ∧ (wayOf s.data.toList = if ok then some z else none) ∧ Below w.heap.size w w' := by
  have hwx : isWx (w.alloc (.cells #[.int .i64 0, .int .i64 0, .int .i64 0, .int .i64 0] 57 (0, 0))) w.heap.size (.int .i64 0) (.int .i64 0) (.int .i64 0) (.int .i64 0) := heap_alloc_new w _
  have hlow : Below w.heap.size w (w.alloc (.cells #[.int .i64 0, .int .i64 0, .int .i64 0, .int .i64 0] 57 (0, 0))) := (Below.refl _ w).alloc (Nat.le_refl _) _
  have hm1 : (w.alloc (.cells #[.int .i64 0, .int .i64 0, .int .i64 0, .int .i64 0] 57 (0, 0))).cell? ⟨0, 0, none⟩ = some (.int .i64 m) := by rw [hlow.cell (p := ⟨0, 0, none⟩) h0]; exact hm
  have hsp := SplitN_any s m _ hs hm1
  go_enter Tryd.func36, Tryd.ntmps36
  go_wp2_with fail
  refine hsp.mono ?_
  rintro e w1 ⟨P, N, rfl, hP, hP1, hP4, hPN, hN4, hc, hb1, hz1⟩
  have hsz : (w.alloc (.cells #[.int .i64 0, .int .i64 0, .int .i64 0, .int .i64 0] 57 (0, 0))).heap.size = w.heap.size + 1 := by simp
  have hx1 := hwx.below hb1 (by rw [hsz]; omega)
  have hl1 : Below w.heap.size w w1 := hlow.trans (hb1.mono (by rw [hsz]; omega))
  rw [hsz] at hc hz1
  obtain ⟨⟨c0, c1, c2, c3⟩, f0, f1, f2, f3⟩ := hx1.all
  clear hsp hm1 hlow hwx hb1
  by_cases hlt : P.length < 3
  · have hli : (P.length : Int) < 3 := by omega
    have hR : wayOf s.data.toList = none := by
      rw [wayOf, ← hP]
      match P, hlt with
      | [], _ => rfl
      | [_], _ => rfl
      | [_, _], _ => rfl
    clear hc hP
    go_wp2_with fail
    refine bodyPost_ret (v := .tuple #[(⟨0, 0, 0, 0⟩ : Wy).v, .bool false]) (by simp [results, Tryd.results36, go_sem, c0, c1, c2, c3, Wy.v]) rfl ?_
    refine ⟨⟨0, 0, 0, 0⟩, false, rfl, hR, ?_⟩
    exact below_set4 (Nat.le_refl _) hl1
  obtain ⟨a, b, c, r, hPe⟩ : ∃ a b c r, P = a :: b :: c :: r := by
    match P, hlt with
    | [], h => exact absurd (by simp) h
    | [_], h => exact absurd (by simp) h
    | [_, _], h => exact absurd (by simp) h
    | a :: b :: c :: r, _ => exact ⟨a, b, c, r, rfl⟩
  have d0 := hc 0 a (by rw [hPe]; rfl)
  have d1 := hc 1 b (by rw [hPe]; rfl)
  have d2 := hc 2 c (by rw [hPe]; rfl)
  have HC := hide hc
  have HE : Hid (wayOf s.data.toList = wayW (a.data.toList :: b.data.toList :: c.data.toList :: r.map (·.data.toList))) := by refine hide ?_; rw [wayOf, ← hP, hPe]; rfl
  have HPE := hide hPe
  have hli : ¬ (P.length : Int) < 3 := by omega
  have hp0 : (0 : Int) < (P.length : Int) := by omega
  have hp1 : (1 : Int) < (P.length : Int) := by omega
  have hp2 : (2 : Int) < (P.length : Int) := by omega
  clear hc hP hPe
  go_wp2_with fail
  refine (readKind_any a w1).mono ?_
  rintro e w1 ⟨rfl, rfl⟩
  by_cases hk : kindOf a.data.toList = 0
  · have hR : wayOf s.data.toList = none := by
      rw [unhide HE]
      unfold wayW
      split
      · rename_i e; injection e with e1 e2; subst e1; rw [if_pos hk]
      · rename_i e; injection e with e1 e2; subst e1; rw [if_pos (Or.inl hk)]
      · rfl
    rw [hk]
    have hx2 := hx1.set0 (.int .i64 0)
    obtain ⟨⟨c0, c1, c2, c3⟩, f0, f1, f2, f3⟩ := hx2.all
    have hl2 := hl1.setCell (p := ⟨w.heap.size, 0, none⟩) (Nat.le_refl _) (.int .i64 0)
    go_wp2_with fail
    refine bodyPost_ret (v := .tuple #[(⟨0, 0, 0, 0⟩ : Wy).v, .bool false]) (by simp [results, Tryd.results36, go_sem, c0, c1, c2, c3, Wy.v]) rfl ?_
    refine ⟨⟨0, 0, 0, 0⟩, false, rfl, hR, ?_⟩
    exact below_set4 (Nat.le_refl _) hl2
  obtain ⟨K, hK⟩ : ∃ K, K = kindOf a.data.toList := ⟨_, rfl⟩
  rw [← hK] at hk ⊢
  have HK := hide hK
  have hdk : decide (K ≠ 0) = true := by simp [hk]
  rw [hdk]
  clear hK
  have hx2 := hx1.set0 (.int .i64 (K : Int))
  have hl2 := hl1.setCell (p := ⟨w.heap.size, 0, none⟩) (Nat.le_refl _) (.int .i64 (K : Int))
  have e1 : (w1.setCell ⟨w.heap.size, 0, none⟩ (.int .i64 (K : Int))).cell? ⟨w.heap.size + 1, 1, none⟩ = some (.string b) := by rw [cell_put _ _ _ _ (by simp)]; exact d1
  have e2 : (w1.setCell ⟨w.heap.size, 0, none⟩ (.int .i64 (K : Int))).cell? ⟨w.heap.size + 1, 2, none⟩ = some (.string c) := by rw [cell_put _ _ _ _ (by simp)]; exact d2
  have HC2 : Hid (∀ x, P[3]? = some x → (w1.setCell ⟨w.heap.size, 0, none⟩ (.int .i64 (K : Int))).cell? ⟨w.heap.size + 1, 3, none⟩ = some (.string x)) := by
    refine hide ?_
    intro x hx
    rw [cell_put _ _ _ _ (by simp)]
    exact unhide HC 3 x hx
  clear HC d0 hdk
  go_wp2_with fail
  clear c0 c1 c2 c3 d1 d2 f0 f1 f2 f3 hx1 hl1 hz1
  generalize w1.setCell ⟨w.heap.size, 0, none⟩ (.int .i64 (K : Int)) = w2 at *
  obtain ⟨⟨c0, c1, c2, c3⟩, f0, f1, f2, f3⟩ := hx2.all
  refine (readNumber_any b w2).mono ?_
  rintro e w2 ⟨rfl, rfl⟩
  cases hX : numOf b.data.toList with
  | none =>
    have hR : wayOf s.data.toList = none := by
      rw [unhide HE]
      unfold wayW
      split
      · rename_i e; injection e with e1 e2; injection e2 with e2 e3; subst e2; rw [hX]; simp
      · rename_i e; injection e with e1 e2; injection e2 with e2 e3; subst e2; rw [hX]; simp
      · rfl
    have hx3 := hx2.set1 (.int .i64 0)
    obtain ⟨⟨c0, c1, c2, c3⟩, f0, f1, f2, f3⟩ := hx3.all
    have hl3 := hl2.setCell (p := ⟨w.heap.size, 1, none⟩) (Nat.le_refl _) (.int .i64 0)
    simp only [Option.getD_none, Option.isSome_none]
    go_wp2_with fail
    refine bodyPost_ret (v := .tuple #[(⟨K, 0, 0, 0⟩ : Wy).v, .bool false]) (by simp [results, Tryd.results36, go_sem, c0, c1, c2, c3, Wy.v]) rfl ?_
    refine ⟨⟨K, 0, 0, 0⟩, false, rfl, hR, ?_⟩
    exact below_set4 (Nat.le_refl _) hl3
  | some X =>
    simp only [Option.getD_some, Option.isSome_some]
    have hx3 := hx2.set1 (.int .i64 (X : Int))
    have hl3 := hl2.setCell (p := ⟨w.heap.size, 1, none⟩) (Nat.le_refl _) (.int .i64 (X : Int))
    have g2 : (w2.setCell ⟨w.heap.size, 1, none⟩ (.int .i64 (X : Int))).cell? ⟨w.heap.size + 1, 2, none⟩ = some (.string c) := by rw [cell_put _ _ _ _ (by simp)]; exact e2
    have HC3 : Hid (∀ x, P[3]? = some x → (w2.setCell ⟨w.heap.size, 1, none⟩ (.int .i64 (X : Int))).cell? ⟨w.heap.size + 1, 3, none⟩ = some (.string x)) := by
      refine hide ?_
      intro x hx
      rw [cell_put _ _ _ _ (by simp)]
      exact unhide HC2 x hx
    clear HC2 e1
    go_wp2_with fail
    clear c0 c1 c2 c3 e2 f0 f1 f2 f3 hx2 hl2
    generalize w2.setCell ⟨w.heap.size, 1, none⟩ (.int .i64 (X : Int)) = w3 at *
    obtain ⟨⟨c0, c1, c2, c3⟩, f0, f1, f2, f3⟩ := hx3.all
    refine (readNumber_any c w3).mono ?_
    rintro e w3 ⟨rfl, rfl⟩
    cases hY : numOf c.data.toList with
    | none =>
      have hR : wayOf s.data.toList = none := by
        rw [unhide HE]
        unfold wayW
        split
        · rename_i e; injection e with e1 e2; injection e2 with e2 e3; injection e3 with e3 e4; subst e3; rw [hY]; simp
        · rename_i e; injection e with e1 e2; injection e2 with e2 e3; injection e3 with e3 e4; subst e3; rw [hY]; simp
        · rfl
      have hx4 := hx3.set2 (.int .i64 0)
      obtain ⟨⟨c0, c1, c2, c3⟩, f0, f1, f2, f3⟩ := hx4.all
      have hl4 := hl3.setCell (p := ⟨w.heap.size, 2, none⟩) (Nat.le_refl _) (.int .i64 0)
      simp only [Option.getD_none, Option.isSome_none]
      go_wp2_with fail
      refine bodyPost_ret (v := .tuple #[(⟨K, X, 0, 0⟩ : Wy).v, .bool false]) (by simp [results, Tryd.results36, go_sem, c0, c1, c2, c3, Wy.v]) rfl ?_
      refine ⟨⟨K, X, 0, 0⟩, false, rfl, hR, ?_⟩
      exact below_set4 (Nat.le_refl _) hl4
    | some Y =>
      simp only [Option.getD_some, Option.isSome_some]
      have hx4 := hx3.set2 (.int .i64 (Y : Int))
      have hl4 := hl3.setCell (p := ⟨w.heap.size, 2, none⟩) (Nat.le_refl _) (.int .i64 (Y : Int))
      by_cases h4 : P.length = 4
      · have h4i : (P.length : Int) = 4 := by omega
        have hp3 : (3 : Int) < (P.length : Int) := by omega
        obtain ⟨d, hPd⟩ : ∃ d, r = [d] := by
          have := unhide HPE
          rw [this] at h4
          simp only [List.length_cons] at h4
          exact List.length_eq_one_iff.1 (by omega)
        have g3 : (w3.setCell ⟨w.heap.size, 2, none⟩ (.int .i64 (Y : Int))).cell? ⟨w.heap.size + 1, 3, none⟩ = some (.string d) := by
          rw [cell_put _ _ _ _ (by simp)]
          exact unhide HC3 d (by rw [unhide HPE, hPd]; rfl)
        have hR : wayOf s.data.toList = if takeOf d.data.toList ≠ 0 then some ⟨(K : Nat), (X : Nat), (Y : Nat), (takeOf d.data.toList : Nat)⟩ else none := by
          rw [unhide HE, hPd]
          simp only [List.map_cons, List.map_nil, wayW]
          rw [hX, hY, ← unhide HK]
          by_cases ht : takeOf d.data.toList = 0
          · rw [if_pos (Or.inr ht), if_neg (by simp [ht])]
          · rw [if_neg (by rintro (h | h); exact hk h; exact ht h), if_pos ht]
        clear HC3 HE HK HPE hPd
        go_wp2_with fail
        clear c0 c1 c2 c3 f0 f1 f2 f3 hx3 hl3 g2
        generalize w3.setCell ⟨w.heap.size, 2, none⟩ (.int .i64 (Y : Int)) = w4 at *
        obtain ⟨⟨c0, c1, c2, c3⟩, f0, f1, f2, f3⟩ := hx4.all
        refine (readTake_any d w4).mono ?_
        rintro e w4 ⟨rfl, rfl⟩
        generalize takeOf d.data.toList = t at *
        have hx5 := hx4.set3 (.int .i64 (t : Int))
        have hl5 := hl4.setCell (p := ⟨w.heap.size, 3, none⟩) (Nat.le_refl _) (.int .i64 (t : Int))
        have q := hx5.all.1
        have q0 := q.1
        have q1 := q.2.1
        have q2 := q.2.2.1
        have q3 := q.2.2.2
        clear q
        go_wp2_with fail
        refine bodyPost_ret (v := .tuple #[(⟨K, X, Y, t⟩ : Wy).v, .bool (decide (t ≠ 0))]) (by simp [results, Tryd.results36, go_sem, q0, q1, q2, q3, Wy.v]) rfl ?_
        refine ⟨⟨K, X, Y, t⟩, decide (t ≠ 0), rfl, ?_, ?_⟩
        · rw [hR]; simp
        · exact below_set4 (Nat.le_refl _) hl5
      · have h4i : ¬ (P.length : Int) = 4 := by omega
        have hPd : r = [] := by
          have := unhide HPE
          rw [this] at h4 hP4
          simp only [List.length_cons] at h4 hP4
          exact List.length_eq_zero_iff.1 (by omega)
        have hR : wayOf s.data.toList = some ⟨(K : Nat), (X : Nat), (Y : Nat), 0⟩ := by
          rw [unhide HE, hPd]
          simp only [List.map_nil, wayW]
          rw [hX, hY, ← unhide HK, if_neg hk]
        clear HC3 HE HK HPE hPd
        have q := hx4.all.1
        have q0 := q.1
        have q1 := q.2.1
        have q2 := q.2.2.1
        have q3 := q.2.2.2
        clear q
        go_wp2_with fail
        refine bodyPost_ret (v := .tuple #[(⟨K, X, Y, 0⟩ : Wy).v, .bool true]) (by simp [results, Tryd.results36, go_sem, q0, q1, q2, q3, Wy.v]) rfl ?_
        refine ⟨⟨K, X, Y, 0⟩, true, rfl, ?_, ?_⟩
        · rw [hR]; simp
        · exact below_set4 (Nat.le_refl _) hl4
end Go.Proofs.YtbcedjjocpjkjabDoor

namespace Go.Proofs.YtbcedjjocpjkjabDoor
open Go.RowKit
attribute [local go_sem ↓] Go.wp_at_zero Go.wp_at_succ

theorem infoWay : (Tryd.prog.info? 57).map (fun i => (i.zero, i.size, i.bytes)) = some (some (.agg #[.int .i64 0, .int .i64 0, .int .i64 0, .int .i64 0]), 4, 32) := by kernel_rfl
/-- Ways' cells in a row. -/
def wvals (l : List Wy) : List Value := l.flatMap fun z => [.int .i64 z.k, .int .i64 z.x, .int .i64 z.y, .int .i64 z.t]

set_option maxHeartbeats 1000000 in
set_option maxRecDepth 100000 in
theorem upWay_any (base : Nat) (v : Value) (ws : List Wy) (z : Wy) (w : World) (hown : w.ownsRow base 57 4 v ws.length (wvals ws)) (hlen : ws.length ≤ 9) (hbase : base ≤ w.heap.size) :
    Calls Tryd.prog 37 #[v, z.v, .int .i64 9] w fun e w' => ∃ v', e = .returned v' ∧ w'.ownsRow base 57 4 v' ((ws ++ [z]).take 9).length (wvals ((ws ++ [z]).take 9)) ∧ Below base w w' := by
  obtain ⟨i0, hi, hz0, hz1, hz2⟩ := info_parts infoWay
  obtain ⟨ao, cap, rfl⟩ : ∃ ao cap, v = .slice ao ws.length cap := by
    rcases hown.2 with ⟨h1, h2⟩ | ⟨g, cap, cur, h, -⟩
    · exact ⟨none, 0, by rw [h1, h2]⟩
    · exact ⟨_, _, h⟩
  by_cases h9 : ws.length = 9
  · have h9i : (ws.length : Int) = 9 := by omega
    have e : (ws ++ [z]).take 9 = ws := by rw [← h9]; simp
    rw [e]
    have HO := hide hown
    clear e hown
    go_enter Tryd.func37, Tryd.ntmps37
    unfold Wy.v
    go_wp2
    go_ret
    exact ⟨_, rfl, (unhide HO).alloc _, (Below.refl _ _).alloc hbase _⟩
  · have h9i : ¬ (ws.length : Int) = 9 := by omega
    have e : (ws ++ [z]).take 9 = ws ++ [z] := List.take_of_length_le (by simp; omega)
    rw [e]
    clear e
    go_enter Tryd.func37, Tryd.ntmps37
    unfold Wy.v
    go_wp2_with (at_builtin; refine wpList_append_own _ rfl _ _ 49 rfl base 57 i0 _ 4 32 Tryd.underlying49 hi hz0 hz1 hz2 rfl (by decide) _ _ _ rfl ((hown.alloc _).alloc _) ⟨w.heap.size + 1, 0, none⟩ 1 1 [.int .i64 z.k, .int .i64 z.x, .int .i64 z.y, .int .i64 z.t] rfl rfl ?c1 ?c2 ?c3 ?c4 ?c5 ?_)
    case c1 =>
      intro j u hj
      match j, hj with
      | 0, hj => simp at hj; subst hj; simp [Addr.add]
      | 1, hj => simp at hj; subst hj; simp [Addr.add]
      | 2, hj => simp at hj; subst hj; simp [Addr.add]
      | 3, hj => simp at hj; subst hj; simp [Addr.add]
    case c2 =>
      intro u hu
      simp only [List.mem_cons, List.not_mem_nil, or_false] at hu
      rcases hu with rfl | rfl | rfl | rfl <;> rfl
    case c3 => unfold maxLen; omega
    case c4 => omega
    case c5 => simp; omega
    intro v' w2 hown' hgrow _
    have hb2 : Below base w w2 := (((Below.refl _ w).alloc hbase _).alloc (by simp; omega) _).grown hgrow (by simp; omega) (own_ge hown)
    have e1 : wvals (ws ++ [z]) = wvals ws ++ [.int .i64 z.k, .int .i64 z.x, .int .i64 z.y, .int .i64 z.t] := by simp [wvals]
    have HO : Hid (w2.ownsRow base 57 4 v' (ws ++ [z]).length (wvals (ws ++ [z]))) := by
      refine hide ?_
      rw [e1, List.length_append]
      exact hown'
    clear hown' hgrow hown e1
    go_wp2
    go_ret
    exact ⟨_, rfl, unhide HO, hb2⟩
end Go.Proofs.YtbcedjjocpjkjabDoor
