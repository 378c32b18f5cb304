/-
  Plain mathematics: ways and numbers as the document's answer reads them (each is tried).
  The document's answer on rules (package gameref), walked: count, piece, letters.
  package rules, walked: readWay.
-/
import Derived.Test.YtfhmpgjemobjhaaGreatDoorJ14
import Derived.Test.YtfhmpgjemobjhaaGreatDoorM8
import Derived.Test.YtfhmpgjemobjhaaGreatDoorR7
import Derived.Test.YtfhmpgjemobjhaaGreatDoorR6
namespace Go.Proofs.YtfhmpgjemobjhaaGreatDoor

/-- What wayOf may give. -/
def wideW (z : Wy) : Prop := (z.k = 1 ∨ z.k = 2 ∨ z.k = 3) ∧ (0 ≤ z.x ∧ z.x ≤ 9999) ∧ (0 ≤ z.y ∧ z.y ≤ 9999) ∧ (z.t = 0 ∨ z.t = 1 ∨ z.t = 2)
theorem wayOf_wide (z : Wy) (h : wideW z) : wayOf (wayL z) = some z := by
  obtain ⟨k, x, y, t⟩ := z
  obtain ⟨hk, ⟨hx0, hx7⟩, ⟨hy0, hy7⟩, ht⟩ := h
  simp only at hk hx0 hx7 hy0 hy7 ht
  obtain ⟨X, rfl⟩ : ∃ X : Nat, x = X := ⟨x.toNat, by omega⟩
  obtain ⟨Y, rfl⟩ : ∃ Y : Nat, y = Y := ⟨y.toNat, by omega⟩
  have hX := numOf_dec X (by omega)
  have hY := numOf_dec Y (by omega)
  have hK : (kindOf (kindL k) : Int) = k ∧ kindOf (kindL k) ≠ 0 := by
    rcases hk with rfl | rfl | rfl <;> decide
  have hlen : 3 ≤ (wayL ⟨k, X, Y, t⟩).length := by simp only [wayL, List.length_append, List.length_cons]; have : 4 ≤ (kindL k).length := (by unfold kindL; split; decide; split <;> decide); omega
  have e4 : min 4 ((wayL ⟨k, X, Y, t⟩).length + 1) - 1 = 3 := by omega
  unfold wayOf Lib.splitN
  rw [e4]
  simp only [wayL, Int.toNat_natCast]
  rw [split_hit 32 2 _ _ (kind_noblank k), split_hit 32 1 _ _ (dec_noblank X)]
  rcases ht with rfl | rfl | rfl
  · simp only [takeL]
    rw [show Lib.decDigits Y ++ (if (0 : Int) = 1 then [32, 116, 97, 107, 101] else if (0 : Int) = 2 then [32, 113, 117, 105, 101, 116] else []) = Lib.decDigits Y by simp]
    rw [split_no 32 1 _ (dec_noblank Y)]
    simp only [wayW]
    rw [if_neg hK.2, hX, hY, hK.1]
  · rw [show takeL 1 = 32 :: [116, 97, 107, 101] from rfl, split_hit 32 0 _ _ (dec_noblank Y)]
    simp only [wayW, Lib.splitK]
    rw [if_neg (by rintro (h | h); exact hK.2 h; exact absurd h (by decide)), hX, hY, hK.1]
    rfl
  · rw [show takeL 2 = 32 :: [113, 117, 105, 101, 116] from rfl, split_hit 32 0 _ _ (dec_noblank Y)]
    simp only [wayW, Lib.splitK]
    rw [if_neg (by rintro (h | h); exact hK.2 h; exact absurd h (by decide)), hX, hY, hK.1]
    rfl
theorem numOf_le (l : List UInt8) (n : Nat) (h : numOf l = some n) : n ≤ 9999 := by
  have e := numOf_back l n h
  have hl : l.length ≤ 4 := by
    unfold numOf at h
    split at h
    · cases h
    · rename_i hh
      simp only [not_or, Nat.not_lt] at hh
      omega
  rw [e, Lib.decDigits_length] at hl
  rcases Nat.lt_or_ge n 10000 with h' | h'
  · omega
  · exfalso
    rw [Lib.nDigits_big (by omega), Lib.nDigits_big (by omega), Lib.nDigits_big (by omega), Lib.nDigits_big (by omega)] at hl
    by_cases h5 : n / 10 / 10 / 10 / 10 < 10
    · rw [Lib.nDigits_small h5] at hl; omega
    · rw [Lib.nDigits_big h5] at hl; omega
theorem kindOf_range (l : List UInt8) : kindOf l = 0 ∨ kindOf l = 1 ∨ kindOf l = 2 ∨ kindOf l = 3 := by
  unfold kindOf
  split; · simp
  split; · simp
  split <;> simp
theorem takeOf_range (l : List UInt8) : takeOf l = 0 ∨ takeOf l = 1 ∨ takeOf l = 2 := by
  unfold takeOf
  split; · simp
  split <;> simp
theorem wayOf_isWide (l : List UInt8) (z : Wy) (h : wayOf l = some z) : wideW z := by
  unfold wayOf at h
  generalize Lib.splitN l [32] 4 = P at h
  unfold wayW at h
  split at h
  · rename_i a b c
    split at h
    · cases h
    · rename_i hk
      split at h
      · rename_i x y hx hy
        obtain rfl := Option.some.inj h
        have h1 := kindOf_range a
        have h2 := numOf_le _ _ hx
        have h3 := numOf_le _ _ hy
        refine ⟨?_, ⟨Int.natCast_nonneg _, by simp only; omega⟩, ⟨Int.natCast_nonneg _, by simp only; omega⟩, Or.inl rfl⟩
        simp only
        omega
      · cases h
  · rename_i a b c d
    split at h
    · cases h
    · rename_i hk
      split at h
      · rename_i x y hx hy
        obtain rfl := Option.some.inj h
        have h1 := kindOf_range a
        have h2 := numOf_le _ _ hx
        have h3 := numOf_le _ _ hy
        have h4 := takeOf_range d
        rw [not_or] at hk
        refine ⟨?_, ⟨Int.natCast_nonneg _, by simp only; omega⟩, ⟨Int.natCast_nonneg _, by simp only; omega⟩, ?_⟩
        · simp only
          omega
        · simp only
          omega
      · cases h
  · cases h
/-- The words of a way's text. -/
theorem spl_way (z : Wy) : ∃ r, spl 32 (wayL z) = kindL z.k :: Lib.decDigits z.x.toNat :: Lib.decDigits z.y.toNat :: r := by
  unfold wayL
  rw [spl_app, spl_nomem _ _ (kind_noblank _), spl_app, spl_nomem _ _ (dec_noblank _)]
  by_cases ht : takeL z.t = []
  · rw [ht, List.append_nil, spl_nomem _ _ (dec_noblank _)]
    exact ⟨[], rfl⟩
  · obtain ⟨t, e⟩ : ∃ t, takeL z.t = 32 :: t := by
      unfold takeL at ht ⊢
      split
      · exact ⟨_, rfl⟩
      · split
        · exact ⟨_, rfl⟩
        · rename_i h1 h2; simp [h1, h2] at ht
    rw [e, spl_app, spl_nomem _ _ (dec_noblank _)]
    exact ⟨_, rfl⟩
/-- Each kind and use is tried: the one that is found. -/
theorem way_tried (s a b c : List UInt8) (r : List (List UInt8)) (hs : spl 32 s = a :: b :: c :: r) (z : Wy) :
    wayOf s = some z ↔ wideW z ∧ numOf b = some z.x.toNat ∧ numOf c = some z.y.toNat ∧ wayL z = s := by
  constructor
  · intro h
    have hw := wayOf_isWide s z h
    have hl := wayL_wayOf s z h
    obtain ⟨r', e⟩ := spl_way z
    rw [hl, hs] at e
    injection e with e1 e
    injection e with e2 e
    injection e with e3 e
    obtain ⟨-, hx, hy, -⟩ := hw
    refine ⟨wayOf_isWide s z h, ?_, ?_, hl⟩
    · rw [e2]; exact numOf_dec _ (by omega)
    · rw [e3]; exact numOf_dec _ (by omega)
  · rintro ⟨hw, -, -, hl⟩
    rw [← hl]
    exact wayOf_wide z hw
theorem way_short (s : List UInt8) (h : (spl 32 s).length < 3) : wayOf s = none := by
  cases hw : wayOf s with
  | none => rfl
  | some z =>
    have hl := wayL_wayOf s z hw
    obtain ⟨r', e⟩ := spl_way z
    rw [hl] at e
    rw [e] at h
    simp only [List.length_cons] at h
    omega
end Go.Proofs.YtfhmpgjemobjhaaGreatDoor

namespace Go.Proofs.YtfhmpgjemobjhaaGreatDoor
open Go.RowKit
attribute [local go_sem ↓] Go.wp_at_zero Go.wp_at_succ

/-- A number's text, or -1. -/
def cntI (l : List UInt8) : Int := match numOf l with | some n => (n : Nat) | none => -1
theorem cntI_dec (l : List UInt8) (n : Nat) (hn : n ≤ 9999) (h : Lib.decDigits n = l) : cntI l = (n : Nat) := by
  unfold cntI; rw [← h, numOf_dec n hn]
theorem cntI_no (l : List UInt8) (h : ∀ j, j < 10000 → Lib.decDigits j ≠ l) : cntI l = -1 := by
  unfold cntI
  cases hn : numOf l with
  | none => rfl
  | some n => exact absurd (numOf_back l n hn).symm (h n (by have := numOf_le l n hn; omega))
theorem cntI_long (l : List UInt8) (h : 4 < l.length) : cntI l = -1 := by
  unfold cntI
  rw [show numOf l = none by rw [numOf, if_pos (by omega)]]

set_option maxHeartbeats 1000000 in
set_option maxRecDepth 100000 in
theorem count_any (s : ByteArray) (w : World) (ht : isTab w) :
    Calls Tryz.prog 51 #[.string s] w fun e w' => e = .returned (.int .i64 (cntI s.data.toList)) ∧ Below w.heap.size w w' := by
  have HT := hide ht
  clear ht
  obtain ⟨R, hR⟩ : ∃ R, R = cntI s.data.toList := ⟨_, rfl⟩
  rw [← hR]
  by_cases h4 : 4 < s.size
  · have hRe : R = -1 := by rw [hR]; exact cntI_long _ (by rw [len_data]; exact h4)
    have HRE := hide hRe
    have h4i : ¬ (s.size : Int) ≤ 4 := by omega
    clear hR hRe
    go_enter Tryz.func51, Tryz.ntmps51
    go_wp2
    go_loopw [3] (fun iv wr => ∃ n : Nat, n ≤ 10000 ∧ iv = .int .i64 (n : Int) ∧ wr = w) (fun iv _ => 10000 - (intOf iv).toNat)
    case atStart => exact ⟨0, by omega, rfl, rfl⟩
    case round =>
      obtain ⟨n, hn, rfl, rfl⟩ := hrel
      by_cases hnl : n ≤ 9999
      · have hni : (n : Int) ≤ 9999 := by omega
        go_wp2
        go_roundw
        case rel => exact ⟨n + 1, by omega, by go_num, trivial⟩
        case measure => simp [intOf]; omega
      · have hni : ¬ (n : Int) ≤ 9999 := by omega
        go_wp2
        go_ret
        exact ⟨ret_int (unhide HRE).symm, Below.refl _ _⟩
  · have h4i : (s.size : Int) ≤ 4 := by omega
    have HR := hide hR
    clear hR
    go_enter Tryz.func51, Tryz.ntmps51
    go_wp2
    go_loopw [3] (fun iv wr => ∃ n : Nat, n ≤ 10000 ∧ iv = .int .i64 (n : Int) ∧ Hid (∀ j, j < n → Lib.decDigits j ≠ s.data.toList) ∧ Below w.heap.size w wr) (fun iv _ => 10000 - (intOf iv).toNat)
    case atStart => exact ⟨0, by omega, rfl, hide (fun j hj => absurd hj (Nat.not_lt_zero _)), Below.refl _ _⟩
    case round =>
      obtain ⟨n, hn, rfl, HN, hbr⟩ := hrel
      by_cases hnl : n ≤ 9999
      · have hni : (n : Int) ≤ 9999 := by omega
        have htr : isTab wr := (unhide HT).below hbr
        have hszr := hbr.size
        have HI := hide (itoaN_any n wr (by omega) htr)
        obtain ⟨D, hD⟩ : ∃ D : ByteArray, D = ⟨(Lib.decDigits n).toArray⟩ := ⟨_, rfl⟩
        rw [← hD] at HI
        have hDd : D.data.toList = Lib.decDigits n := by rw [hD]
        clear htr hD
        by_cases he : Lib.decDigits n = s.data.toList
        · have hDs : D = s := by
            apply ByteArray.ext
            apply Array.toList_inj.1
            rw [hDd]; exact he
          have hRn : R = (n : Int) := by rw [unhide HR]; exact cntI_dec _ n hnl he
          subst hDs
          have HRN := hide hRn
          clear hRn hDd he HN
          go_wp2_with fail
          refine (unhide HI).mono ?_
          rintro e wi ⟨rfl, hbi⟩
          have hbf : Below w.heap.size w wi := hbr.trans (hbi.mono hszr)
          clear hbi HI
          go_wp2
          go_ret
          exact ⟨ret_int (unhide HRN).symm, hbf⟩
        · have hne : (D.toList == s.toList) = false := by
            rw [Lib.toList_data, Lib.toList_data, hDd]
            simpa using he
          have HN2 : Hid (∀ j, j < n + 1 → Lib.decDigits j ≠ s.data.toList) := by
            refine hide fun j hj => ?_
            rcases Nat.lt_or_ge j n with h | h
            · exact unhide HN j h
            · obtain rfl : j = n := by omega
              exact he
          clear hDd he HN
          go_wp2_with fail
          refine (unhide HI).mono ?_
          rintro e wi ⟨rfl, hbi⟩
          have hbf : Below w.heap.size w wi := hbr.trans (hbi.mono hszr)
          clear hbi HI hbr hszr
          go_wp2
          go_roundw
          case rel => exact ⟨n + 1, by omega, by go_num, HN2, hbf⟩
          case measure => simp [intOf]; omega
      · have hni : ¬ (n : Int) ≤ 9999 := by omega
        obtain rfl : n = 10000 := by omega
        have hRn : R = -1 := by rw [unhide HR]; exact cntI_no _ (unhide HN)
        have HRN := hide hRn
        clear hRn
        go_wp2
        go_ret
        exact ⟨ret_int (unhide HRN).symm, hbr⟩
end Go.Proofs.YtfhmpgjemobjhaaGreatDoor

namespace Go.Proofs.YtfhmpgjemobjhaaGreatDoor
open Go.RowKit
attribute [local go_sem ↓] Go.wp_at_zero Go.wp_at_succ

/-- A way's four cells in block p. -/
def isWx (w : World) (p : Nat) (x0 x1 x2 x3 : Value) : Prop := w.heap[p]? = some (.cells #[x0, x1, x2, x3] 62 (0, 0))
theorem isWx.all {w : World} {p : Nat} {x0 x1 x2 x3 : Value} (h : isWx w p x0 x1 x2 x3) :
    (w.cell? ⟨p, 0, none⟩ = some x0 ∧ w.cell? ⟨p, 1, none⟩ = some x1 ∧ w.cell? ⟨p, 2, none⟩ = some x2 ∧ w.cell? ⟨p, 3, none⟩ = some x3) ∧
    w.frozen? ⟨p, 0, none⟩ = false ∧ w.frozen? ⟨p, 1, none⟩ = false ∧ w.frozen? ⟨p, 2, none⟩ = false ∧ w.frozen? ⟨p, 3, none⟩ = false := by
  unfold isWx at h; simp [World.cell?, World.frozen?, h]
theorem isWx.below {w w' : World} {p B : Nat} {x0 x1 x2 x3 : Value} (h : isWx w p x0 x1 x2 x3) (k : Below B w w') (hp : p < B) : isWx w' p x0 x1 x2 x3 := by
  unfold isWx at h ⊢; rw [k.block p hp, h]
theorem isWx.set0 {w : World} {p : Nat} {x0 x1 x2 x3 : Value} (h : isWx w p x0 x1 x2 x3) (y : Value) : isWx (w.setCell ⟨p, 0, none⟩ y) p y x1 x2 x3 := by
  unfold isWx at h ⊢; simp [World.setCell, Array.getElem?_modify, h]
theorem isWx.set1 {w : World} {p : Nat} {x0 x1 x2 x3 : Value} (h : isWx w p x0 x1 x2 x3) (y : Value) : isWx (w.setCell ⟨p, 1, none⟩ y) p x0 y x2 x3 := by
  unfold isWx at h ⊢; simp [World.setCell, Array.getElem?_modify, h]
theorem isWx.set2 {w : World} {p : Nat} {x0 x1 x2 x3 : Value} (h : isWx w p x0 x1 x2 x3) (y : Value) : isWx (w.setCell ⟨p, 2, none⟩ y) p x0 x1 y x3 := by
  unfold isWx at h ⊢; simp [World.setCell, Array.getElem?_modify, h]
theorem isWx.set3 {w : World} {p : Nat} {x0 x1 x2 x3 : Value} (h : isWx w p x0 x1 x2 x3) (y : Value) : isWx (w.setCell ⟨p, 3, none⟩ y) p x0 x1 x2 y := by
  unfold isWx at h ⊢; simp [World.setCell, Array.getElem?_modify, h]

theorem below_set4 {B : Nat} {a w : World} {b : Nat} {u0 u1 u2 u3 : Value} (hb : B ≤ b) (h : Below B a w) :
    Below B a ((((w.setCell ⟨b, 0, none⟩ u0).setCell ⟨b, 1, none⟩ u1).setCell ⟨b, 2, none⟩ u2).setCell ⟨b, 3, none⟩ u3) :=
  (((h.setCell (p := ⟨b, 0, none⟩) hb u0).setCell (p := ⟨b, 1, none⟩) hb u1).setCell (p := ⟨b, 2, none⟩) hb u2).setCell (p := ⟨b, 3, none⟩) hb u3
theorem cell_put (w : World) (p q : Addr) (v : Value) (h : q.block ≠ p.block) : (w.setCell p v).cell? q = w.cell? q := by
  unfold World.cell?
  rw [Below.heap_setCell _ _ _ _ h]

set_option maxHeartbeats 1000000 in
set_option maxRecDepth 100000 in
theorem readWay_any (s : ByteArray) (m : Int) (w : World) (hs : s.size < 2000000) (hm : w.cell? ⟨0, 0, none⟩ = some (.int .i64 m)) (h0 : 0 < w.heap.size) :
    Calls Tryz.prog 68 #[.string s] w fun e w' => ∃ (z : Wy) (ok : Bool), e = .returned (.tuple #[z.v, .bool ok]) ∧ (wayOf s.data.toList = if ok then some z else none) ∧ Below w.heap.size w w' := by
  have hwx : isWx (w.alloc (.cells #[.int .i64 0, .int .i64 0, .int .i64 0, .int .i64 0] 62 (0, 0))) w.heap.size (.int .i64 0) (.int .i64 0) (.int .i64 0) (.int .i64 0) := heap_alloc_new w _
  have hlow : Below w.heap.size w (w.alloc (.cells #[.int .i64 0, .int .i64 0, .int .i64 0, .int .i64 0] 62 (0, 0))) := (Below.refl _ w).alloc (Nat.le_refl _) _
  have hm1 : (w.alloc (.cells #[.int .i64 0, .int .i64 0, .int .i64 0, .int .i64 0] 62 (0, 0))).cell? ⟨0, 0, none⟩ = some (.int .i64 m) := by rw [hlow.cell (p := ⟨0, 0, none⟩) h0]; exact hm
  have hsp := SplitN_any s m _ hs hm1
  go_enter Tryz.func68, Tryz.ntmps68
  go_wp2_with fail
  refine hsp.mono ?_
  rintro e w1 ⟨P, N, rfl, hP, hP1, hP4, hPN, hN4, hc, hb1, hz1⟩
  have hsz : (w.alloc (.cells #[.int .i64 0, .int .i64 0, .int .i64 0, .int .i64 0] 62 (0, 0))).heap.size = w.heap.size + 1 := by simp
  have hx1 := hwx.below hb1 (by rw [hsz]; omega)
  have hl1 : Below w.heap.size w w1 := hlow.trans (hb1.mono (by rw [hsz]; omega))
  rw [hsz] at hc hz1
  obtain ⟨⟨c0, c1, c2, c3⟩, f0, f1, f2, f3⟩ := hx1.all
  clear hsp hm1 hlow hwx hb1
  by_cases hlt : P.length < 3
  · have hli : (P.length : Int) < 3 := by omega
    have hR : wayOf s.data.toList = none := by
      rw [wayOf, ← hP]
      match P, hlt with
      | [], _ => rfl
      | [_], _ => rfl
      | [_, _], _ => rfl
    clear hc hP
    go_wp2_with fail
    refine bodyPost_ret (v := .tuple #[(⟨0, 0, 0, 0⟩ : Wy).v, .bool false]) (by simp [results, Tryz.results68, go_sem, c0, c1, c2, c3, Wy.v]) rfl ?_
    refine ⟨⟨0, 0, 0, 0⟩, false, rfl, hR, ?_⟩
    exact below_set4 (Nat.le_refl _) hl1
  obtain ⟨a, b, c, r, hPe⟩ : ∃ a b c r, P = a :: b :: c :: r := by
    match P, hlt with
    | [], h => exact absurd (by simp) h
    | [_], h => exact absurd (by simp) h
    | [_, _], h => exact absurd (by simp) h
    | a :: b :: c :: r, _ => exact ⟨a, b, c, r, rfl⟩
  have d0 := hc 0 a (by rw [hPe]; rfl)
  have d1 := hc 1 b (by rw [hPe]; rfl)
  have d2 := hc 2 c (by rw [hPe]; rfl)
  have HC := hide hc
  have HE : Hid (wayOf s.data.toList = wayW (a.data.toList :: b.data.toList :: c.data.toList :: r.map (·.data.toList))) := by refine hide ?_; rw [wayOf, ← hP, hPe]; rfl
  have HPE := hide hPe
  have hli : ¬ (P.length : Int) < 3 := by omega
  have hp0 : (0 : Int) < (P.length : Int) := by omega
  have hp1 : (1 : Int) < (P.length : Int) := by omega
  have hp2 : (2 : Int) < (P.length : Int) := by omega
  clear hc hP hPe
  go_wp2_with fail
  refine (readKind_any a w1).mono ?_
  rintro e w1 ⟨rfl, rfl⟩
  by_cases hk : kindOf a.data.toList = 0
  · have hR : wayOf s.data.toList = none := by
      rw [unhide HE]
      unfold wayW
      split
      · rename_i e; injection e with e1 e2; subst e1; rw [if_pos hk]
      · rename_i e; injection e with e1 e2; subst e1; rw [if_pos (Or.inl hk)]
      · rfl
    rw [hk]
    have hx2 := hx1.set0 (.int .i64 0)
    obtain ⟨⟨c0, c1, c2, c3⟩, f0, f1, f2, f3⟩ := hx2.all
    have hl2 := hl1.setCell (p := ⟨w.heap.size, 0, none⟩) (Nat.le_refl _) (.int .i64 0)
    go_wp2_with fail
    refine bodyPost_ret (v := .tuple #[(⟨0, 0, 0, 0⟩ : Wy).v, .bool false]) (by simp [results, Tryz.results68, go_sem, c0, c1, c2, c3, Wy.v]) rfl ?_
    refine ⟨⟨0, 0, 0, 0⟩, false, rfl, hR, ?_⟩
    exact below_set4 (Nat.le_refl _) hl2
  obtain ⟨K, hK⟩ : ∃ K, K = kindOf a.data.toList := ⟨_, rfl⟩
  rw [← hK] at hk ⊢
  have HK := hide hK
  have hdk : decide (K ≠ 0) = true := by simp [hk]
  rw [hdk]
  clear hK
  have hx2 := hx1.set0 (.int .i64 (K : Int))
  have hl2 := hl1.setCell (p := ⟨w.heap.size, 0, none⟩) (Nat.le_refl _) (.int .i64 (K : Int))
  have e1 : (w1.setCell ⟨w.heap.size, 0, none⟩ (.int .i64 (K : Int))).cell? ⟨w.heap.size + 1, 1, none⟩ = some (.string b) := by rw [cell_put _ _ _ _ (by simp)]; exact d1
  have e2 : (w1.setCell ⟨w.heap.size, 0, none⟩ (.int .i64 (K : Int))).cell? ⟨w.heap.size + 1, 2, none⟩ = some (.string c) := by rw [cell_put _ _ _ _ (by simp)]; exact d2
  have HC2 : Hid (∀ x, P[3]? = some x → (w1.setCell ⟨w.heap.size, 0, none⟩ (.int .i64 (K : Int))).cell? ⟨w.heap.size + 1, 3, none⟩ = some (.string x)) := by
    refine hide ?_
    intro x hx
    rw [cell_put _ _ _ _ (by simp)]
    exact unhide HC 3 x hx
  clear HC d0 hdk
  go_wp2_with fail
  clear c0 c1 c2 c3 d1 d2 f0 f1 f2 f3 hx1 hl1 hz1
  generalize w1.setCell ⟨w.heap.size, 0, none⟩ (.int .i64 (K : Int)) = w2 at *
  obtain ⟨⟨c0, c1, c2, c3⟩, f0, f1, f2, f3⟩ := hx2.all
  refine (readNumber_any b w2).mono ?_
  rintro e w2 ⟨rfl, rfl⟩
  cases hX : numOf b.data.toList with
  | none =>
    have hR : wayOf s.data.toList = none := by
      rw [unhide HE]
      unfold wayW
      split
      · rename_i e; injection e with e1 e2; injection e2 with e2 e3; subst e2; rw [hX]; simp
      · rename_i e; injection e with e1 e2; injection e2 with e2 e3; subst e2; rw [hX]; simp
      · rfl
    have hx3 := hx2.set1 (.int .i64 0)
    obtain ⟨⟨c0, c1, c2, c3⟩, f0, f1, f2, f3⟩ := hx3.all
    have hl3 := hl2.setCell (p := ⟨w.heap.size, 1, none⟩) (Nat.le_refl _) (.int .i64 0)
    simp only [Option.getD_none, Option.isSome_none]
    go_wp2_with fail
    refine bodyPost_ret (v := .tuple #[(⟨K, 0, 0, 0⟩ : Wy).v, .bool false]) (by simp [results, Tryz.results68, go_sem, c0, c1, c2, c3, Wy.v]) rfl ?_
    refine ⟨⟨K, 0, 0, 0⟩, false, rfl, hR, ?_⟩
    exact below_set4 (Nat.le_refl _) hl3
  | some X =>
    simp only [Option.getD_some, Option.isSome_some]
    have hx3 := hx2.set1 (.int .i64 (X : Int))
    have hl3 := hl2.setCell (p := ⟨w.heap.size, 1, none⟩) (Nat.le_refl _) (.int .i64 (X : Int))
    have g2 : (w2.setCell ⟨w.heap.size, 1, none⟩ (.int .i64 (X : Int))).cell? ⟨w.heap.size + 1, 2, none⟩ = some (.string c) := by rw [cell_put _ _ _ _ (by simp)]; exact e2
    have HC3 : Hid (∀ x, P[3]? = some x → (w2.setCell ⟨w.heap.size, 1, none⟩ (.int .i64 (X : Int))).cell? ⟨w.heap.size + 1, 3, none⟩ = some (.string x)) := by
      refine hide ?_
      intro x hx
      rw [cell_put _ _ _ _ (by simp)]
      exact unhide HC2 x hx
    clear HC2 e1
    go_wp2_with fail
    clear c0 c1 c2 c3 e2 f0 f1 f2 f3 hx2 hl2
    generalize w2.setCell ⟨w.heap.size, 1, none⟩ (.int .i64 (X : Int)) = w3 at *
    obtain ⟨⟨c0, c1, c2, c3⟩, f0, f1, f2, f3⟩ := hx3.all
    refine (readNumber_any c w3).mono ?_
    rintro e w3 ⟨rfl, rfl⟩
    cases hY : numOf c.data.toList with
    | none =>
      have hR : wayOf s.data.toList = none := by
        rw [unhide HE]
        unfold wayW
        split
        · rename_i e; injection e with e1 e2; injection e2 with e2 e3; injection e3 with e3 e4; subst e3; rw [hY]; simp
        · rename_i e; injection e with e1 e2; injection e2 with e2 e3; injection e3 with e3 e4; subst e3; rw [hY]; simp
        · rfl
      have hx4 := hx3.set2 (.int .i64 0)
      obtain ⟨⟨c0, c1, c2, c3⟩, f0, f1, f2, f3⟩ := hx4.all
      have hl4 := hl3.setCell (p := ⟨w.heap.size, 2, none⟩) (Nat.le_refl _) (.int .i64 0)
      simp only [Option.getD_none, Option.isSome_none]
      go_wp2_with fail
      refine bodyPost_ret (v := .tuple #[(⟨K, X, 0, 0⟩ : Wy).v, .bool false]) (by simp [results, Tryz.results68, go_sem, c0, c1, c2, c3, Wy.v]) rfl ?_
      refine ⟨⟨K, X, 0, 0⟩, false, rfl, hR, ?_⟩
      exact below_set4 (Nat.le_refl _) hl4
    | some Y =>
      simp only [Option.getD_some, Option.isSome_some]
      have hx4 := hx3.set2 (.int .i64 (Y : Int))
      have hl4 := hl3.setCell (p := ⟨w.heap.size, 2, none⟩) (Nat.le_refl _) (.int .i64 (Y : Int))
      by_cases h4 : P.length = 4
      · have h4i : (P.length : Int) = 4 := by omega
        have hp3 : (3 : Int) < (P.length : Int) := by omega
        obtain ⟨d, hPd⟩ : ∃ d, r = [d] := by
          have := unhide HPE
          rw [this] at h4
          simp only [List.length_cons] at h4
          exact List.length_eq_one_iff.1 (by omega)
        have g3 : (w3.setCell ⟨w.heap.size, 2, none⟩ (.int .i64 (Y : Int))).cell? ⟨w.heap.size + 1, 3, none⟩ = some (.string d) := by
          rw [cell_put _ _ _ _ (by simp)]
          exact unhide HC3 d (by rw [unhide HPE, hPd]; rfl)
        have hR : wayOf s.data.toList = if takeOf d.data.toList ≠ 0 then some ⟨(K : Nat), (X : Nat), (Y : Nat), (takeOf d.data.toList : Nat)⟩ else none := by
          rw [unhide HE, hPd]
          simp only [List.map_cons, List.map_nil, wayW]
          rw [hX, hY, ← unhide HK]
          by_cases ht : takeOf d.data.toList = 0
          · rw [if_pos (Or.inr ht), if_neg (by simp [ht])]
          · rw [if_neg (by rintro (h | h); exact hk h; exact ht h), if_pos ht]
        clear HC3 HE HK HPE hPd
        go_wp2_with fail
        clear c0 c1 c2 c3 f0 f1 f2 f3 hx3 hl3 g2
        generalize w3.setCell ⟨w.heap.size, 2, none⟩ (.int .i64 (Y : Int)) = w4 at *
        obtain ⟨⟨c0, c1, c2, c3⟩, f0, f1, f2, f3⟩ := hx4.all
        refine (readTake_any d w4).mono ?_
        rintro e w4 ⟨rfl, rfl⟩
        generalize takeOf d.data.toList = t at *
        have hx5 := hx4.set3 (.int .i64 (t : Int))
        have hl5 := hl4.setCell (p := ⟨w.heap.size, 3, none⟩) (Nat.le_refl _) (.int .i64 (t : Int))
        have q := hx5.all.1
        have q0 := q.1
        have q1 := q.2.1
        have q2 := q.2.2.1
        have q3 := q.2.2.2
        clear q
        go_wp2_with fail
        refine bodyPost_ret (v := .tuple #[(⟨K, X, Y, t⟩ : Wy).v, .bool (decide (t ≠ 0))]) (by simp [results, Tryz.results68, go_sem, q0, q1, q2, q3, Wy.v]) rfl ?_
        refine ⟨⟨K, X, Y, t⟩, decide (t ≠ 0), rfl, ?_, ?_⟩
        · rw [hR]; simp
        · exact below_set4 (Nat.le_refl _) hl5
      · have h4i : ¬ (P.length : Int) = 4 := by omega
        have hPd : r = [] := by
          have := unhide HPE
          rw [this] at h4 hP4
          simp only [List.length_cons] at h4 hP4
          exact List.length_eq_zero_iff.1 (by omega)
        have hR : wayOf s.data.toList = some ⟨(K : Nat), (X : Nat), (Y : Nat), 0⟩ := by
          rw [unhide HE, hPd]
          simp only [List.map_nil, wayW]
          rw [hX, hY, ← unhide HK, if_neg hk]
        clear HC3 HE HK HPE hPd
        have q := hx4.all.1
        have q0 := q.1
        have q1 := q.2.1
        have q2 := q.2.2.1
        have q3 := q.2.2.2
        clear q
        go_wp2_with fail
        refine bodyPost_ret (v := .tuple #[(⟨K, X, Y, 0⟩ : Wy).v, .bool true]) (by simp [results, Tryz.results68, go_sem, q0, q1, q2, q3, Wy.v]) rfl ?_
        refine ⟨⟨K, X, Y, 0⟩, true, rfl, ?_, ?_⟩
        · rw [hR]; simp
        · exact below_set4 (Nat.le_refl _) hl4
end Go.Proofs.YtfhmpgjemobjhaaGreatDoor
