/-
  gameref.Parsed, walked: the same as board.Read.
-/
import Derived.Test.YtfhmpgjemobjhaaGreatDoorJ30
import Derived.Deep.Cut
namespace Go.Proofs.YtfhmpgjemobjhaaGreatDoor
open Go.RowKit
attribute [local go_sem ↓] Go.wp_at_zero Go.wp_at_succ

theorem isRv.alloc {w : World} {g : Nat} {R : List (List UInt8)} (h : isRv w g R) (o : Obj) : isRv (w.alloc o) g R :=
  h.below ((Below.refl w.heap.size w).alloc (Nat.le_refl _) o) h.lt
theorem isRv.put {w : World} {g : Nat} {R : List (List UInt8)} (h : isRv w g R) {p i : Nat} (hn : g ≠ p) (u : Value) : isRv (w.setCell ⟨p, i, none⟩ u) g R := by
  unfold isRv at h ⊢; rw [Below.heap_setCell _ _ _ _ hn, h]
theorem isFx.below {w w' : World} {p B : Nat} {x0 x1 : Value} (h : isFx w p x0 x1) (k : Below B w w') (hp : p < B) : isFx w' p x0 x1 := by
  unfold isFx at h ⊢; rw [k.block p hp, h]
theorem isFx.put {w : World} {p : Nat} {x0 x1 : Value} (h : isFx w p x0 x1) {q i : Nat} (hn : p ≠ q) (u : Value) : isFx (w.setCell ⟨q, i, none⟩ u) p x0 x1 := by
  unfold isFx at h ⊢; rw [Below.heap_setCell _ _ _ _ hn, h]

/-- A whole position's pieces. -/
theorem fin_parts {st : St} {x : Six} {l : List UInt8} (g : Good st) (hf : fin st = some x) (ht : txt st = l) : ∃ (R : List (List UInt8)) (c : UInt8) (k h : List UInt8),
    RowsGood R ∧ (c = 119 ∨ c = 98) ∧ k.length ≤ 8 ∧ h.length ≤ 8 ∧ spl 32 l = [joinR R, [c], k ++ 47 :: h] ∧ spl 47 (joinR R) = R ∧ spl 47 (k ++ 47 :: h) = [k, h] ∧
    x = ((R.headD []).length, R.length, R.reverse.flatten, if c = 119 then 0 else 1, unhand k, unhand h) := by
  cases st with
  | hand2 R c k h =>
    obtain ⟨gR, hc, hk, hk0, hh⟩ := g
    have n1 := handOk_no hk
    have n2 := handOk_no hh
    obtain ⟨r1, r2⟩ := gR.spl
    simp only [fin] at hf
    split at hf
    · cases hf
    · refine ⟨R, c, k, h, gR, hc, handOk_len hk, handOk_len hh, ?_, r1, ?_, (Option.some.inj hf).symm⟩
      · have e : l = joinR R ++ 32 :: ([c] ++ 32 :: (k ++ 47 :: h)) := by rw [← ht]; simp [txt]
        have hc1 : (32 : UInt8) ∉ [c] := by rcases hc with rfl | rfl <;> decide
        rw [e, spl_app, spl_app, spl_nomem _ _ r2, spl_nomem _ _ hc1, spl_nomem 32 (k ++ 47 :: h) (by simp [n1.2, n2.2])]
        rfl
      · rw [spl_app, spl_nomem _ _ n1.1, spl_nomem _ _ n2.1]
        rfl
  | rows _ _ => cases hf
  | sp _ => cases hf
  | turn _ _ => cases hf
  | hand1 _ _ _ => cases hf

theorem isBx.away {w : World} {p : Nat} {x0 x1 x2 x3 x4 x5 : Value} (h : isBx w p x0 x1 x2 x3 x4 x5) {q i : Nat} (hn : p ≠ q) (u : Value) : isBx (w.setCell ⟨q, i, none⟩ u) p x0 x1 x2 x3 x4 x5 := by
  unfold isBx at h ⊢; rw [Below.heap_setCell _ _ _ _ hn, h]
/-- What lies there while a position is put together: in block p the position; the rows in block r, the parts in block q; the two results below. -/
structure Bun (B p r q n H : Nat) (R P : List (List UInt8)) (w0 : World) (X : ByteArray) (T : Int) (A D : ByteArray) (w : World) : Prop where
  pos : isBx w p (.int .i64 (n : Int)) (.int .i64 (H : Int)) (.string X) (.int .i64 T) (.string A) (.string D)
  rows : isRv w r R
  parts : isRv w q P
  res : isBx w B (.int .i64 0) (.int .i64 0) (.string ⟨#[]⟩) (.int .i64 0) (.string ⟨#[]⟩) (.string ⟨#[]⟩)
  fault : isFx w (B + 1) (.int .i64 0) (.int .i64 0)
  low : Below B w0 w
theorem isBx.setAt2 {w : World} {p : Nat} {x0 x1 x2 x3 x4 x5 : Value} (h : isBx w p x0 x1 x2 x3 x4 x5) (y : Value) : isBx (w.setCell ⟨p, 2, none⟩ y) p x0 x1 y x3 x4 x5 := by
  unfold isBx at h ⊢; simp [World.setCell, Array.getElem?_modify, h]
theorem Bun.put {B p r q n H : Nat} {R P : List (List UInt8)} {w0 : World} {X : ByteArray} {T : Int} {A D : ByteArray} {w : World} (b : Bun B p r q n H R P w0 X T A D w) (h1 : r ≠ p) (h2 : q ≠ p) (h3 : B + 1 < p) (i : Nat) (u : Value) (X' : ByteArray) (T' : Int) (A' D' : ByteArray)
    (hp : isBx (w.setCell ⟨p, i, none⟩ u) p (.int .i64 (n : Int)) (.int .i64 (H : Int)) (.string X') (.int .i64 T') (.string A') (.string D')) : Bun B p r q n H R P w0 X' T' A' D' (w.setCell ⟨p, i, none⟩ u) :=
  ⟨hp, b.rows.put h1 u, b.parts.put h2 u, b.res.away (by omega) u, b.fault.put (by omega) u, b.low.setCell (p := ⟨p, i, none⟩) (by dsimp only; omega) u⟩
theorem Bun.drew {B p r q n H : Nat} {R P : List (List UInt8)} {w0 : World} {X : ByteArray} {T : Int} {A D : ByteArray} {w : World} (b : Bun B p r q n H R P w0 X T A D w) : Bun B p r q n H R P w0 X T A D w.drew :=
  ⟨b.pos, b.rows, b.parts, b.res, b.fault, b.low.drew⟩
theorem Bun.below {B p r q n H S : Nat} {R P : List (List UInt8)} {w0 : World} {X : ByteArray} {T : Int} {A D : ByteArray} {w w' : World} (b : Bun B p r q n H R P w0 X T A D w) (k : Below S w w') (hS : w.heap.size ≤ S) : Bun B p r q n H R P w0 X T A D w' := by
  have h1 := b.pos.lt
  have h2 := b.rows.lt
  have h3 := b.parts.lt
  have h4 := b.res.lt
  have h5 := b.fault.lt
  exact ⟨b.pos.below k (by omega), b.rows.below k (by omega), b.parts.below k (by omega), b.res.below k (by omega), b.fault.below k (by omega), b.low.trans (k.mono (by omega))⟩

set_option maxHeartbeats 4000000 in
set_option maxRecDepth 100000 in
theorem Parsed_any (s : ByteArray) (m : Int) (w : World) (hm : w.cell? ⟨0, 0, none⟩ = some (.int .i64 m)) (h0 : 0 < w.heap.size) :
    Calls Tryz.prog 48 #[.string s] w fun e w' =>
      ((∃ x, readsAs s x ∧ e = .returned (.tuple #[sixOf x, faultV 0 0])) ∨ ((∀ x, ¬ readsAs s x) ∧ e = .returned (.tuple #[zeroPos, faultV 3 (posF s.data.toList).2]))) ∧ Below w.heap.size w w' := by
  have hb0 : Below w.heap.size w ((w.alloc (.cells #[.int .i64 0, .int .i64 0, .string ⟨#[]⟩, .int .i64 0, .string ⟨#[]⟩, .string ⟨#[]⟩] 24 (0, 0))).alloc (.cells #[.int .i64 0, .int .i64 0] 32 (0, 0))) := ((Below.refl _ w).alloc (Nat.le_refl _) _).alloc (by simp) _
  have hx0 : isBx ((w.alloc (.cells #[.int .i64 0, .int .i64 0, .string ⟨#[]⟩, .int .i64 0, .string ⟨#[]⟩, .string ⟨#[]⟩] 24 (0, 0))).alloc (.cells #[.int .i64 0, .int .i64 0] 32 (0, 0))) w.heap.size (.int .i64 0) (.int .i64 0) (.string ⟨#[]⟩) (.int .i64 0) (.string ⟨#[]⟩) (.string ⟨#[]⟩) := isBx.alloc (heap_alloc_new w _) _
  have hf0 : isFx ((w.alloc (.cells #[.int .i64 0, .int .i64 0, .string ⟨#[]⟩, .int .i64 0, .string ⟨#[]⟩, .string ⟨#[]⟩] 24 (0, 0))).alloc (.cells #[.int .i64 0, .int .i64 0] 32 (0, 0))) (w.heap.size + 1) (.int .i64 0) (.int .i64 0) := by
    have := heap_alloc_new (w.alloc (.cells #[.int .i64 0, .int .i64 0, .string ⟨#[]⟩, .int .i64 0, .string ⟨#[]⟩, .string ⟨#[]⟩] 24 (0, 0))) (.cells #[.int .i64 0, .int .i64 0] 32 (0, 0))
    simpa [isFx] using this
  have ht0 := Through.start s
  go_enter Tryz.func48, Tryz.ntmps48
  go_wp2
  go_loopw [4] (fun i wr => ∃ (k : Nat) (st : St), k ≤ s.size ∧ i = .int .i64 (k : Int) ∧ Through s k st ∧ isBx wr w.heap.size (.int .i64 0) (.int .i64 0) (.string ⟨#[]⟩) (.int .i64 0) (.string ⟨#[]⟩) (.string ⟨#[]⟩) ∧ isFx wr (w.heap.size + 1) (.int .i64 0) (.int .i64 0) ∧ Below w.heap.size w wr) (fun i _ => s.size - (intOf i).toNat)
  case atStart => exact ⟨0, _, Nat.zero_le _, rfl, ht0, hx0, hf0, hb0⟩
  case round =>
    obtain ⟨k, st, hk, rfl, ht, hx, hf, hb⟩ := hrel
    clear ht0 hx0 hf0 hb0
    have hk100 := ht.len hk
    have hmr : wr.cell? ⟨0, 0, none⟩ = some (.int .i64 m) := (hb.cell (p := ⟨0, 0, none⟩) h0).trans hm
    have hr0 : w.heap.size + 1 < wr.heap.size := hf.lt
    by_cases hlt : k < s.size
    · have hki : (k : Int) < (s.size : Int) := by omega
      have hk1 : (k : Int) + 1 ≤ (s.size : Int) := by omega
      have hnx := ht.next hlt
      have HT := hide ht
      have HNX := hide hnx
      clear ht hnx
      have hpre : (s.extract 0 (k + 1)).data.toList = s.data.toList.take (k + 1) := by simp
      have HB := hide (begins_any (s.extract 0 (k + 1)) m wr (by rw [ByteArray.size_extract]; omega) hmr (by omega))
      rw [hpre] at HB
      clear hpre
      go_wp2_with fail
      refine (unhide HB).mono ?_
      rintro e w1 ⟨rfl, hb1⟩
      have hx1 := hx.below hb1 hx.lt
      have hf1 := hf.below hb1 hf.lt
      have hw1 := hb.trans (hb1.mono (by omega))
      clear HB hx hf hb hb1
      generalize begF (s.data.toList.take (k + 1)) = F at HNX ⊢
      cases hF : F.1 with
      | true =>
        obtain ⟨st', ht'⟩ := (unhide HNX).2 hF
        have HT' := hide ht'
        clear ht'
        go_wp2_with fail
        go_roundw
        case rel => exact ⟨k + 1, st', by omega, by go_num, unhide HT', hx1, hf1, hw1⟩
        case measure => simp [intOf]; omega
      | false =>
        obtain ⟨hp, hno⟩ := (unhide HNX).1 hF
        have HP := hide hp
        have HNO := hide hno
        clear hp hno
        obtain ⟨⟨q0, q1, q2, q3, q4, q5⟩, z0, z1, z2, z3, z4, z5⟩ := hx1.all
        obtain ⟨⟨q6, q7⟩, z6, z7⟩ := hf1.all
        go_wp2
        refine bodyPost_ret (v := .tuple #[zeroPos, faultV 3 (k : Int)]) (by simp [results, Tryz.results48, go_sem, zeroPos, faultV, q0, q1, q2, q3, q4, q5, q6, q7]) rfl ⟨Or.inr ⟨unhide HNO, by rw [unhide HP]⟩, ?_⟩
        exact below_set8 (Nat.le_refl _) (by omega) hw1
    · have hki : ¬ (k : Int) < (s.size : Int) := by omega
      obtain rfl : k = s.size := by omega
      obtain ⟨htx, hbg, hpos⟩ := ht.stop
      have hg := ht.good
      have HG := hide hg
      have HTX := hide htx
      have HPOS := hide hpos
      have HB := hide (begins_any s m wr (by omega) hmr (by omega))
      rw [hbg] at HB
      have HBG := hide hbg
      clear ht htx hbg hpos hg
      go_wp2_with fail
      refine (unhide HB).mono ?_
      rintro e w1 ⟨rfl, hb1⟩
      have hx1 := hx.below hb1 hx.lt
      have hf1 := hf.below hb1 hf.lt
      have hw1 := hb.trans (hb1.mono (by omega))
      clear HB hx hf hb hb1 hmr
      cases hfin : fin st with
      | none =>
        rw [hfin] at HPOS
        have hp : (posF s.data.toList).2 = s.size := by rw [unhide HPOS]
        have hno : ∀ x, ¬ readsAs s x := by
          intro x hx
          unfold readsAs at hx
          rw [unhide HPOS] at hx
          simp at hx
        have HP := hide hp
        have HNO := hide hno
        clear hp hno
        obtain ⟨⟨q0, q1, q2, q3, q4, q5⟩, z0, z1, z2, z3, z4, z5⟩ := hx1.all
        obtain ⟨⟨q6, q7⟩, z6, z7⟩ := hf1.all
        go_wp2
        refine bodyPost_ret (v := .tuple #[zeroPos, faultV 3 (s.size : Int)]) (by simp [results, Tryz.results48, go_sem, zeroPos, faultV, q0, q1, q2, q3, q4, q5, q6, q7]) rfl ⟨Or.inr ⟨unhide HNO, by rw [unhide HP]⟩, ?_⟩
        exact below_set8 (Nat.le_refl _) (by omega) hw1
      | some x =>
        have hread : readsAs s x := by unfold readsAs; rw [unhide HPOS, hfin, len_data]
        obtain ⟨R, c, g, h, gR, hc, hgl, hhl, hP, hR, hQ, hxx⟩ := fin_parts (unhide HG) hfin (unhide HTX)
        have HREAD := hide hread
        have HXX := hide hxx
        have hRl := gR.len
        have hR0 : 0 < R.length := List.length_pos_iff.2 gR.ne
        obtain ⟨W, W1, W8, hW⟩ := gR.one
        have hRW : ∀ r ∈ R, r.length ≤ 8 := fun r hr => by have := (hW r hr).1; omega
        have hjl := gR.joinLen
        have hsz : s.size ≤ 100 := hk100
        have HS1 := hide (fun w hm => Split_any s 32 m w (by omega) hm)
        rw [hP] at HS1
        have HS2 := hide (fun w hm => Split_any ⟨(joinR R).toArray⟩ 47 m w (by rw [bytes_size]; omega) hm)
        rw [bytes_data, hR] at HS2
        have HS3 := hide (fun w hm => Split_any ⟨(g ++ 47 :: h).toArray⟩ 47 m w (by rw [bytes_size]; simp; omega) hm)
        rw [bytes_data, hQ] at HS3
        clear hread hxx hP hR hQ gR hW
        have hm1 : w1.cell? ⟨0, 0, none⟩ = some (.int .i64 m) := (hw1.cell (p := ⟨0, 0, none⟩) h0).trans hm
        have hz1 : w.heap.size + 1 < w1.heap.size := hf1.lt
        go_wp2_with fail
        refine (unhide HS1 _ hm1).mono ?_
        rintro e w2 ⟨rfl, hb2, hv2⟩
        have hx2 := hx1.below hb2 hx1.lt
        have hf2 := hf1.below hb2 hf1.lt
        have hw2 := hw1.trans (hb2.mono (by omega))
        have hm2 : w2.cell? ⟨0, 0, none⟩ = some (.int .i64 m) := (hw2.cell (p := ⟨0, 0, none⟩) h0).trans hm
        have hz2 : w1.heap.size < w2.heap.size := hv2.lt
        clear hx1 hf1 hw1 hb2 HS1 hm1
        have c0 := hv2.cell (k := 0) (r := joinR R) rfl
        go_wp2_with fail
        refine (unhide HS2 _ hm2).mono ?_
        rintro e w3 ⟨rfl, hb3, hv3⟩
        have hx3 := hx2.below hb3 hx2.lt
        have hf3 := hf2.below hb3 hf2.lt
        have hw3 := hw2.trans (hb3.mono (by omega))
        have hv23 := hv2.below hb3 hv2.lt
        have hz3 : w2.heap.size < w3.heap.size := hv3.lt
        clear hx2 hf2 hw2 hb3 HS2 hm2 c0 hv2
        obtain ⟨r0, hr0⟩ : ∃ r, R[0]? = some r := ⟨R[0], List.getElem?_eq_getElem hR0⟩
        have hr0h : (R.headD []).length = r0.length := by
          cases hRR : R with
          | nil => rw [hRR] at hR0; simp at hR0
          | cons a b => rw [hRR] at hr0; simp at hr0; simp [hr0]
        have c0 := hv3.cell hr0
        have hr0s := bytes_size r0
        have hR0i : (0 : Int) < (R.length : Int) := by omega
        go_wp2
        have hbun : Bun w.heap.size w3.heap.size w2.heap.size w1.heap.size r0.length R.length R [joinR R, [c], g ++ 47 :: h] w ⟨#[]⟩ 0 ⟨#[]⟩ ⟨#[]⟩ (w3.alloc (.cells #[.int .i64 (r0.length : Int), .int .i64 (R.length : Int), .string ⟨#[]⟩, .int .i64 0, .string ⟨#[]⟩, .string ⟨#[]⟩] 24 (0, 0))) :=
          ⟨heap_alloc_new w3 _, hv3.alloc _, hv23.alloc _, hx3.alloc _, hf3.alloc _, hw3.alloc (by omega) _⟩
        clear c0 hr0s hv3 hv23 hx3 hf3 hw3
        obtain ⟨P3, hP3⟩ : ∃ P3, P3 = [joinR R, [c], g ++ 47 :: h] := ⟨_, rfl⟩
        rw [← hP3] at hbun
        go_loopw [12] (fun i wr => ∃ (k : Nat) (X : ByteArray), k ≤ R.length ∧ i = .int .i64 ((k : Int) - 1) ∧ X.data.toList = (R.drop k).reverse.flatten ∧ Bun w.heap.size w3.heap.size w2.heap.size w1.heap.size r0.length R.length R P3 w X 0 ⟨#[]⟩ ⟨#[]⟩ wr) (fun i _ => (intOf i + 1).toNat)
        case atStart => exact ⟨R.length, ⟨#[]⟩, Nat.le_refl _, by go_num, by rw [List.drop_length]; rfl, hbun⟩
        case round =>
          obtain ⟨k, X, hk, rfl, hX, hbn⟩ := hrel
          clear hbun
          have hXs : X.size ≤ 64 := by
            rw [← len_data, hX]
            have h1 := flat_bound (R.drop k).reverse (fun x hx => hRW x (List.mem_of_mem_drop (by simpa using hx)))
            have h2 : (R.drop k).reverse.length ≤ 8 := by rw [List.length_reverse, List.length_drop]; omega
            have h3 := Nat.mul_le_mul_right 8 h2
            omega
          cases k with
          | succ j =>
            have hji : ((j + 1 : Nat) : Int) - 1 = (j : Int) := by omega
            rw [hji]
            clear hji
            have hjR : j < R.length := by omega
            have hjRi : (j : Int) < (R.length : Int) := by omega
            have hj0i : (0 : Int) ≤ (j : Int) := by omega
            obtain ⟨r, hr, hdr⟩ := drop_row hjR
            have hrl := hRW r (List.mem_of_getElem? hr)
            have cr := hbn.rows.cell hr
            obtain ⟨S, hS⟩ : ∃ S : ByteArray, S = ⟨r.toArray⟩ := ⟨_, rfl⟩
            rw [← hS] at cr
            have hSs : S.size ≤ 8 := by rw [hS, bytes_size]; exact hrl
            have hXn : (X ++ S).data.toList = (R.drop j).reverse.flatten := by
              rw [app_data, hX, hdr, hS]; simp
            have HXN := hide hXn
            clear hXn hX hdr hr hS hrl
            obtain ⟨⟨q0, q1, q2, q3, q4, q5⟩, z0, z1, z2, z3, z4, z5⟩ := hbn.pos.all
            go_wp2
            go_region
            go_wp2_with fail
            go_roundw
            case rel => exact ⟨j, X ++ S, by omega, by go_num, unhide HXN, (hbn.put (by omega) (by omega) (by omega) 2 _ _ _ _ _ (hbn.pos.setAt2 _)).drew⟩
            case measure => simp [intOf]
          | zero =>
            have hXf : X.data.toList = R.reverse.flatten := by rw [hX, List.drop_zero]
            have HXF := hide hXf
            clear hX hXf
            have cp1 := hbn.parts.cell (k := 1) (r := [c]) (by rw [hP3]; rfl)
            have cp2 := hbn.parts.cell (k := 2) (r := g ++ 47 :: h) (by rw [hP3]; rfl)
            obtain ⟨T, hT⟩ : ∃ T : Int, T = if c = 119 then 0 else 1 := ⟨_, rfl⟩
            go_upto_if 76 with fail
            go_cut [] from 77 (fun wc => Bun w.heap.size w3.heap.size w2.heap.size w1.heap.size r0.length R.length R P3 w X T ⟨#[]⟩ ⟨#[]⟩ wc)
            case first =>
              obtain ⟨⟨q0, q1, q2, q3, q4, q5⟩, z0, z1, z2, z3, z4, z5⟩ := hbn.pos.all
              rcases hc with rfl | rfl
              · obtain rfl : T = 0 := hT
                go_wp2_with fail
                go_meet
                case rel => exact hbn
              · obtain rfl : T = 1 := hT
                go_wp2_with fail
                go_meet
                case rel => exact hbn.put (by omega) (by omega) (by omega) 3 _ _ _ _ _ (hbn.pos.set3 _)
            case rest =>
              have hbn2 := hcut
              have HTT := hide hT
              clear hbn cp1 cp2 hcut hT
              have cp2 := hbn2.parts.cell (k := 2) (r := g ++ 47 :: h) (by rw [hP3]; rfl)
              have hmr2 : wc.cell? ⟨0, 0, none⟩ = some (.int .i64 m) := (hbn2.low.cell (p := ⟨0, 0, none⟩) h0).trans hm
              go_wp2_with fail
              refine (unhide HS3 _ hmr2).mono ?_
              rintro e w5 ⟨rfl, hb5, hv5⟩
              have hbn5 := hbn2.below hb5 (Nat.le_refl _)
              have hz5 : w3.heap.size < wc.heap.size := hbn2.pos.lt
              clear hbn2 hb5 HS3 hmr2 cp2
              obtain ⟨G, hG⟩ : ∃ G : ByteArray, G = ⟨g.toArray⟩ := ⟨_, rfl⟩
              obtain ⟨D, hD⟩ : ∃ D : ByteArray, D = ⟨h.toArray⟩ := ⟨_, rfl⟩
              have HUG : Hid (∀ E : ByteArray, E = (if G.toList = [45] then ⟨#[]⟩ else G) → E = ⟨(unhand g).toArray⟩) := by
                rintro E rfl
                rw [Lib.toList_data, hG, bytes_data, unhand]
                split <;> rfl
              have HUD : Hid (∀ E : ByteArray, E = (if D.toList = [45] then ⟨#[]⟩ else D) → E = ⟨(unhand h).toArray⟩) := by
                rintro E rfl
                rw [Lib.toList_data, hD, bytes_data, unhand]
                split <;> rfl
              have cg := hv5.cell (k := 0) (r := g) rfl
              have ch := hv5.cell (k := 1) (r := h) rfl
              rw [← hG] at cg
              rw [← hD] at ch
              have HGE := hide hG
              have HDE := hide hD
              clear hG hD
              go_wp2
              go_loopw [14] (fun i wr => ∃ (k : Nat) (A B : ByteArray), k ≤ 2 ∧ i = .int .i64 (k : Int) ∧ (A = if k = 0 then ⟨#[]⟩ else if G.toList = [45] then ⟨#[]⟩ else G) ∧ (B = if k < 2 then ⟨#[]⟩ else if D.toList = [45] then ⟨#[]⟩ else D) ∧ isRv wr wc.heap.size [g, h] ∧ Bun w.heap.size w3.heap.size w2.heap.size w1.heap.size r0.length R.length R P3 w X T A B wr) (fun i _ => 2 - (intOf i).toNat)
              case atStart => exact ⟨0, ⟨#[]⟩, ⟨#[]⟩, by omega, rfl, rfl, rfl, hv5, hbn5⟩
              case round =>
                obtain ⟨k, A, B, hk, rfl, hA, hB, hv, hbn⟩ := hrel
                clear hv5 hbn5 cg ch
                have cg := hv.cell (k := 0) (r := g) rfl
                have ch := hv.cell (k := 1) (r := h) rfl
                rw [← unhide HGE] at cg
                rw [← unhide HDE] at ch
                obtain ⟨⟨q0, q1, q2, q3, q4, q5⟩, z0, z1, z2, z3, z4, z5⟩ := hbn.pos.all
                obtain rfl | rfl | hk2 : k = 0 ∨ k = 1 ∨ k = 2 := by omega
                · obtain rfl : A = ⟨#[]⟩ := hA
                  obtain rfl : B = ⟨#[]⟩ := hB
                  by_cases q : G.toList = [45]
                  · go_wp2
                    go_roundw
                    case rel => exact ⟨1, ⟨#[]⟩, ⟨#[]⟩, by omega, rfl, by simp [q], by simp, hv, hbn⟩
                    case measure => simp [intOf]
                  · have qb : (G.toList == [45]) = false := by simpa using q
                    go_wp2
                    go_roundw
                    case rel => exact ⟨1, G, ⟨#[]⟩, by omega, rfl, by simp [q], by simp, hv.put (by omega) _, hbn.put (by omega) (by omega) (by omega) 4 _ _ _ _ _ (hbn.pos.set4 _)⟩
                    case measure => simp [intOf]
                · obtain rfl : B = ⟨#[]⟩ := hB
                  have HA := hide hA
                  clear hA
                  by_cases q : D.toList = [45]
                  · go_wp2
                    go_roundw
                    case rel => exact ⟨2, A, ⟨#[]⟩, by omega, rfl, by rw [unhide HA]; simp, by simp [q], hv, hbn⟩
                    case measure => simp [intOf]
                  · have qb : (D.toList == [45]) = false := by simpa using q
                    go_wp2
                    go_roundw
                    case rel => exact ⟨2, A, D, by omega, rfl, by rw [unhide HA]; simp, by simp [q], hv.put (by omega) _, hbn.put (by omega) (by omega) (by omega) 5 _ _ _ _ _ (hbn.pos.set5 _)⟩
                    case measure => simp [intOf]
                · have hA2 : A = ⟨(unhand g).toArray⟩ := unhide HUG A (by rw [hA, if_neg (by omega)])
                  have hB2 : B = ⟨(unhand h).toArray⟩ := unhide HUD B (by rw [hB, if_neg (by omega)])
                  have HSIX : Hid (sixV (r0.length : Int) (R.length : Int) X T A B = sixOf x) := by
                    show _ = _
                    have hXe : X = ⟨R.reverse.flatten.toArray⟩ := bytes_eq (unhide HXF)
                    rw [unhide HXX, hA2, hB2, hXe, unhide HTT, ← hr0h]
                    simp only [sixOf]
                  have hki : ¬ (k : Int) < 2 := by omega
                  clear hA hB hA2 hB2 hk2 hk
                  obtain ⟨⟨y0, y1, y2, y3, y4, y5⟩, x0, x1, x2, x3, x4, x5⟩ := hbn.res.all
                  obtain ⟨⟨y6, y7⟩, x6, x7⟩ := hbn.fault.all
                  go_wp2
                  obtain ⟨xa, xb, xc, xd, xe, xf⟩ := x
                  refine bodyPost_ret (v := .tuple #[sixV (r0.length : Int) (R.length : Int) X T A B, faultV 0 0]) (by simp [results, Tryz.results48, go_sem, sixV, faultV, y0, y1, y2, y3, y4, y5, y6, y7]) rfl ⟨Or.inl ⟨xa, xb, xc, xd, xe, xf, unhide HREAD, by rw [unhide HSIX]⟩, ?_⟩
                  exact below_set8 (Nat.le_refl _) (by omega) hbn.low
end Go.Proofs.YtfhmpgjemobjhaaGreatDoor
