/-
  parlourbig's fractions: SetFrac, den, NewRat.
  parlourbig's Rat.Sign, SetInt, SetString of a fraction with a stroke, walked.
  parlourbig's Rat.SetString of a fraction with a stroke, walked.
-/
import Derived.Test.YthplbfjpmnpjmaaDoorB5
import Derived.Test.YthplbfjpmnpjmaaDoorJ12
namespace Go.Proofs.YthplbfjpmnpjmaaDoor
open Go.RowKit
attribute [local go_sem ↓] Go.wp_at_zero Go.wp_at_succ

theorem isTo.but {w w' : World} {c o b S : Nat} (h : isTo w c o) (k : But S b w w') (hS : w.heap.size ≤ S) (hn : c ≠ b) : isTo w' c o := by
  have hlt := h.nb.lt
  obtain ⟨hc, ⟨s, c0⟩, ⟨v, c1⟩⟩ := h
  exact ⟨hc.keep (k.block c (by omega) hn), ⟨s, (k.cell c o (by omega) hn).trans c0⟩, ⟨v, (k.cell c (o + 1) (by omega) hn).trans c1⟩⟩
/-- A block that a fraction may be put into. -/
structure isTR (w : World) (b : Nat) : Prop where
  a : isTo w b 0
  b : isTo w b 2
theorem isR.to_ {w : World} {b : Nat} {q : Rat} (h : isR w b q) : isTR w b := ⟨h.num.to_, h.den.elim (fun d => d.to_) (fun d => d.1.to_)⟩
theorem isTR.below {w w' : World} {b S : Nat} (h : isTR w b) (k : Below S w w') (hS : w.heap.size ≤ S) : isTR w' b := ⟨h.a.below k hS, h.b.below k hS⟩
theorem isTR.but {w w' : World} {c b S : Nat} (h : isTR w c) (k : But S b w w') (hS : w.heap.size ≤ S) (hn : c ≠ b) : isTR w' c := ⟨h.a.but k hS hn, h.b.but k hS hn⟩

structure FourE (w w' : World) (b : Nat) (x y : Int) : Prop where
  x : isI w' b 0 x
  y : isI w' b 2 y
  but : But w.heap.size b w w'
theorem four_put {w : World} {b : Nat} {s t : Bool} {po qo : Option Addr} {pc qc : Nat} {pl ql : List Nat} {x y : Int} (h : isTR w b) (hs : decide (x < 0) = s) (ht : decide (y < 0) = t) (hp : isWs w po pc pl) (hq : isWs w qo qc ql) (tp : trimL pl = pl) (tq : trimL ql = ql) (vp : val 4294967296 pl = x.natAbs) (vq : val 4294967296 ql = y.natAbs) :
    FourE w ((((w.setCell ⟨b, 0, none⟩ (.bool s)).setCell ⟨b, 1, none⟩ (.slice po pl.length pc)).setCell ⟨b, 2, none⟩ (.bool t)).setCell ⟨b, 3, none⟩ (.slice qo ql.length qc)) b x y := by
  obtain ⟨⟨nb, ⟨s0, c0⟩, ⟨v1, c1⟩⟩, ⟨_, ⟨s2, c2⟩, ⟨v3, c3⟩⟩⟩ := h
  replace c1 : w.cell? ⟨b, 1, none⟩ = some v1 := c1
  replace c3 : w.cell? ⟨b, 3, none⟩ = some v3 := c3
  have k : But w.heap.size b w ((((w.setCell ⟨b, 0, none⟩ (.bool s)).setCell ⟨b, 1, none⟩ (.slice po pl.length pc)).setCell ⟨b, 2, none⟩ (.bool t)).setCell ⟨b, 3, none⟩ (.slice qo ql.length qc)) := ((((But.of_below (Below.refl _ w)).set 0 _).set 1 _).set 2 _).set 3 _
  have hn := (((nb.set (i := 0) (v := .bool s) (fun _ => ⟨s, rfl⟩)).set (i := 1) (v := .slice po pl.length pc) (fun e => absurd e (by omega))).set (i := 2) (v := .bool t) (fun e => absurd e (by omega))).set (i := 3) (v := .slice qo ql.length qc) (fun e => absurd e (by omega))
  refine ⟨⟨hn, po, pc, pl, ?_, ?_, hp.butNB nb k (Nat.le_refl _), tp, vp⟩, ⟨hn, qo, qc, ql, ?_, ?_, hq.butNB nb k (Nat.le_refl _), tq, vq⟩, k⟩
  · rw [cell_set_ne (by omega), cell_set_ne (by omega), cell_set_ne (by omega), hs]; exact World.cell?_setCell_same _ _ _ c0
  · rw [cell_set_ne (by omega), cell_set_ne (by omega)]; exact World.cell?_setCell_same _ _ _ ((cell_set_ne (by omega)).trans c1)
  · rw [cell_set_ne (by omega), ht]; exact World.cell?_setCell_same _ _ _ (((cell_set_ne (by omega)).trans (cell_set_ne (by omega))).trans c2)
  · exact World.cell?_setCell_same _ _ _ ((((cell_set_ne (by omega)).trans (cell_set_ne (by omega))).trans (cell_set_ne (by omega))).trans c3)

set_option maxHeartbeats 2000000 in
set_option maxRecDepth 100000 in
theorem SetFrac_any (b c p d q n y : Nat) (x : Int) (w : World) (hb : isTR w b) (hx : isI w c p x) (hy : isI w d q (y : Int)) (hy0 : 0 < y) (hn : n ≤ 20000) (hX : x.natAbs < 4294967296 ^ n) (hY : y < 4294967296 ^ n) :
    Calls Tryd.prog 27 #[.pointer (some ⟨b, 0, none⟩), .pointer (some ⟨c, p, none⟩), .pointer (some ⟨d, q, none⟩)] w (NoE b (mkRat x y) w) := by
  have hlt := hb.a.nb.lt
  have hcl := hx.lt
  have hdl := hy.lt
  obtain ⟨yo, yc, yl, _, y1, _, yw, yt, yv⟩ := hy.open
  have hyne : yl ≠ [] := by rintro rfl; simp [val] at yv; omega
  have hyi : ¬ (yl.length : Int) = 0 := by have := List.length_pos_iff.2 hyne; omega
  have HB := hide hb
  have HX := hide hx
  have HY := hide hy
  clear hb hx hy yw yt yv hyne
  have ha1 : Below w.heap.size w (w.alloc (.cells #[.bool false, .slice none 0 0] 37 (0, 0))) := (Below.refl _ w).alloc (Nat.le_refl _) _
  have HS1 := hide (Set_z w.heap.size 0 c p x _ (new_to w) ((unhide HX).below ha1 (Nat.le_refl _)) (by omega))
  have HA1 := hide ha1
  clear ha1
  go_enter Tryd.func27, Tryd.ntmps27
  go_wp2_with fail
  refine (unhide HS1).mono ?_
  rintro e w1 ⟨rfl, hi1, hp1⟩
  have hb1 : Below w.heap.size w w1 := (unhide HA1).trans (hp1.but.fresh (Nat.le_refl _) (by simp))
  have hs1 : w.heap.size < w1.heap.size := hi1.lt
  have ha2 : Below w1.heap.size w1 (w1.alloc (.cells #[.bool false, .slice none 0 0] 37 (0, 0))) := (Below.refl _ w1).alloc (Nat.le_refl _) _
  have HS2 := hide (Set_z w1.heap.size 0 d q (y : Int) _ (new_to w1) (((unhide HY).below hb1 (Nat.le_refl _)).below ha2 (Nat.le_refl _)) (by omega))
  have HA2 := hide ha2
  clear ha2 HS1 HA1 hp1
  go_wp2_with fail
  refine (unhide HS2).mono ?_
  rintro e w2 ⟨rfl, hi2, hp2⟩
  have hb2 : Below w1.heap.size w1 w2 := (unhide HA2).trans (hp2.but.fresh (Nat.le_refl _) (by simp))
  have hs2 : w1.heap.size < w2.heap.size := hi2.lt
  have hi1' := hi1.below hb2 (Nat.le_refl _)
  have hbw : Below w.heap.size w w2 := hb1.trans (hb2.mono hb1.size)
  obtain ⟨ao, ac, al, a0, a1, _, aw, at_, av⟩ := hi1'.open
  obtain ⟨bo, bc, bl, b0, b1, _, bw, bt, bv⟩ := hi2.open
  replace a1 : w2.cell? ⟨w.heap.size, 1, none⟩ = some (.slice ao al.length ac) := a1
  replace b1 : w2.cell? ⟨w1.heap.size, 1, none⟩ = some (.slice bo bl.length bc) := b1
  obtain ⟨sx, hsx⟩ : ∃ s, decide (x < 0) = s := ⟨_, rfl⟩
  obtain ⟨sy, hsy⟩ : ∃ s, decide ((y : Int) < 0) = s := ⟨_, rfl⟩
  rw [hsx] at a0
  rw [hsy] at b0
  have hT := (unhide HB).below hbw (Nat.le_refl _)
  have HE := hide (four_put hT hsx hsy aw bw at_ bt av bv)
  have HBW := hide hbw
  obtain ⟨⟨nb, ⟨s0, c0⟩, ⟨v1, c1⟩⟩, ⟨_, ⟨s2, c2⟩, ⟨v3, c3⟩⟩⟩ := hT
  replace c1 : w2.cell? ⟨b, 1, none⟩ = some v1 := c1
  replace c3 : w2.cell? ⟨b, 3, none⟩ = some v3 := c3
  have z0 := nb.frozen 0
  have z1 := nb.frozen 1
  have z2 := nb.frozen 2
  have z3 := nb.frozen 3
  have hn1 : b ≠ w.heap.size := by omega
  have hn2 : b ≠ w1.heap.size := by omega
  clear hsx hsy aw bw at_ bt av bv hi1 hi2 hi1' hb1 hb2 hbw hp2 HS2 HA2 nb
  go_wp2_with fail
  have E := unhide HE
  refine (norm_any b y n x _ E.x E.y hy0 hn hX hY).mono ?_
  rintro e w4 ⟨rfl, hr, hbt⟩
  go_wp2
  go_ret
  exact ⟨rfl, hr, (But.of_below (unhide HBW)).trans ((E.but.mono (unhide HBW).size).trans (hbt.mono (Nat.le_trans (unhide HBW).size E.but.size)))⟩

structure DenE (b : Nat) (q : Rat) (w : World) (e : Ending) (w' : World) : Prop where
  is : ∃ c o, e = .returned (.pointer (some ⟨c, o, none⟩)) ∧ isI w' c o (q.den : Int) ∧ (c = b ∨ w.heap.size ≤ c) ∧ Below w.heap.size w w'

set_option maxHeartbeats 1000000 in
theorem den_any (b : Nat) (q : Rat) (w : World) (h : isR w b q) : Calls Tryd.prog 26 #[.pointer (some ⟨b, 0, none⟩)] w (DenE b q w) := by
  rcases h.den with hd | ⟨hd, h0⟩
  · obtain ⟨yo, yc, yl, _, y1, _, yw, yt, yv⟩ := hd.open
    have hyne : yl ≠ [] := by rintro rfl; have := q.den_nz; simp [val] at yv; omega
    have hyi : ¬ (yl.length : Int) = 0 := by have := List.length_pos_iff.2 hyne; omega
    replace y1 : w.cell? ⟨b, 3, none⟩ = some (.slice yo yl.length yc) := y1
    have HD := hide hd
    clear hd h yw yt yv hyne
    go_enter Tryd.func26, Tryd.ntmps26
    go_wp2
    go_ret
    exact ⟨b, 2, rfl, unhide HD, .inl rfl, Below.refl _ _⟩
  · obtain ⟨yo, yc, yl, _, y1, _, yw, yt, yv⟩ := hd.open
    have hyne : yl = [] := by
      rcases List.eq_nil_or_concat yl with h | ⟨_, _, h⟩
      · exact h
      · have := val_pos yt (by rw [h]; simp)
        rw [yv] at this
        simp at this
    subst hyne
    subst h0
    replace y1 : w.cell? ⟨b, 3, none⟩ = some (.slice yo 0 yc) := y1
    have HN := hide (NewInt_z 1 w (by omega) (by omega))
    clear hd h yw yt yv
    go_enter Tryd.func26, Tryd.ntmps26
    go_wp2_with fail
    refine (unhide HN).mono ?_
    rintro e w1 ⟨rfl, hi, hb⟩
    go_wp2
    go_ret
    exact ⟨w.heap.size, 0, rfl, hi, .inr (Nat.le_refl _), hb⟩

theorem newR_to (w : World) : isTR (w.alloc (.cells #[.bool false, .slice none 0 0, .bool false, .slice none 0 0] 39 (0, 0))) w.heap.size :=
  ⟨⟨⟨_, _, _, heap_alloc_new w _, rfl⟩, ⟨false, by simp⟩, ⟨.slice none 0 0, by simp⟩⟩, ⟨⟨_, _, _, heap_alloc_new w _, rfl⟩, ⟨false, by simp⟩, ⟨.slice none 0 0, by simp⟩⟩⟩
theorem newR_zero (w : World) : isR (w.alloc (.cells #[.bool false, .slice none 0 0, .bool false, .slice none 0 0] 39 (0, 0))) w.heap.size 0 :=
  ⟨⟨⟨_, _, _, heap_alloc_new w _, rfl⟩, none, 0, [], by simp, by simp, isWs_nil _, rfl, rfl⟩, .inr ⟨⟨⟨_, _, _, heap_alloc_new w _, rfl⟩, none, 0, [], by simp, by simp, isWs_nil _, rfl, rfl⟩, rfl⟩⟩

theorem pow_one_lt {x n : Nat} (hx : x < 4294967296) : x < 4294967296 ^ (n + 1) := by
  have h1 : (4294967296 : Nat) ^ 1 ≤ 4294967296 ^ (n + 1) := Nat.pow_le_pow_right (by omega) (by omega)
  omega

set_option maxHeartbeats 1000000 in
set_option maxRecDepth 100000 in
theorem NewRat_any (x : Int) (w : World) (h1 : -4294967296 < x) (h2 : x < 4294967296) :
    Calls Tryd.prog 14 #[.int .i64 x, .int .i64 1] w fun e w' => e = .returned (.pointer (some ⟨w.heap.size, 0, none⟩)) ∧ isR w' w.heap.size (x : Rat) ∧ Below w.heap.size w w' := by
  have ha : Below w.heap.size w (w.alloc (.cells #[.bool false, .slice none 0 0, .bool false, .slice none 0 0] 39 (0, 0))) := (Below.refl _ w).alloc (Nat.le_refl _) _
  have HA := hide ha
  have HT := hide (newR_to w)
  have HN := hide (fun u => NewInt_z x u (by omega) (by omega))
  have HN1 := hide (fun u => NewInt_z 1 u (by omega) (by omega))
  clear ha
  go_enter Tryd.func14, Tryd.ntmps14
  go_wp2_with fail
  refine (unhide HN _).mono ?_
  rintro e w1 ⟨rfl, hi1, hb1⟩
  clear HN
  go_wp2_with fail
  refine (unhide HN1 _).mono ?_
  rintro e w2 ⟨rfl, hi2, hb2⟩
  clear HN1
  have hs : w.heap.size + 1 ≤ w1.heap.size := by have := hb1.size; simpa using this
  have hb12 := hb1.trans (hb2.mono hb1.size)
  have hT2 := (unhide HT).below hb12 (Nat.le_refl _)
  have hi3 : isI w2 (w.heap.size + 1) 0 x := by
    have := hi1.below hb2 (Nat.le_refl _)
    rw [World.size_alloc] at this
    exact this
  have HSF := hide (SetFrac_any w.heap.size (w.heap.size + 1) 0 w1.heap.size 0 1 1 x w2 hT2 hi3 (show isI w2 w1.heap.size 0 ((1 : Nat) : Int) from hi2) (by omega) (by omega) (by simp; omega) (by simp))
  have hbw : Below w.heap.size w w2 := (unhide HA).trans (hb12.mono (by simp))
  have hs2 := hb2.size
  clear hi1 hi2 hb1 hb2 hb12 hT2 HT hi3
  go_wp2_with fail
  refine (unhide HSF).mono ?_
  rintro e w3 ⟨rfl, hr, hbt⟩
  go_wp2
  go_ret
  rw [Rat.mkRat_one] at hr
  exact ⟨rfl, hr, hbw.trans (hbt.fresh (Nat.le_refl _) (by omega))⟩
end Go.Proofs.YthplbfjpmnpjmaaDoor

namespace Go.Proofs.YthplbfjpmnpjmaaDoor
open Go.RowKit
attribute [local go_sem ↓] Go.wp_at_zero Go.wp_at_succ

set_option maxHeartbeats 1000000 in
theorem RSign_q (b : Nat) (q : Rat) (w : World) (h : isR w b q) :
    Calls Tryd.prog 11 #[.pointer (some ⟨b, 0, none⟩)] w fun e w' => e = .returned (.int .i64 (sgI q.num)) ∧ w' = w := by
  have HS := hide (Sign_z b 0 q.num w h.num)
  clear h
  go_enter Tryd.func11, Tryd.ntmps11
  go_wp2_with fail
  refine (unhide HS).mono ?_
  rintro e w1 ⟨rfl, hw1⟩
  replace hw1 := hw1.symm
  subst hw1
  go_wp2
  go_ret
  exact ⟨rfl, rfl⟩

theorem pow2_lt {x : Nat} (h : x < 9223372036854775808) : x < 4294967296 ^ 2 := by
  have : (4294967296 : Nat) ^ 2 = 18446744073709551616 := by decide
  omega
set_option maxHeartbeats 1000000 in
theorem SetInt_q (b c : Nat) (x : Int) (w : World) (hb : isTR w b) (hx : isI w c 0 x) (hX : x.natAbs < 9223372036854775808) :
    Calls Tryd.prog 44 #[.pointer (some ⟨b, 0, none⟩), .pointer (some ⟨c, 0, none⟩)] w (NoE b (x : Rat) w) := by
  have HN := hide (NewInt_z 1 w (by omega) (by omega))
  have HB := hide hb
  have HX := hide hx
  have hlt := hb.a.nb.lt
  clear hb hx
  go_enter Tryd.func44, Tryd.ntmps44
  go_wp2_with fail
  refine (unhide HN).mono ?_
  rintro e w1 ⟨rfl, i1, b1⟩
  have HF := hide (SetFrac_any b c 0 w.heap.size 0 2 1 x w1 ((unhide HB).below b1 (Nat.le_refl _)) ((unhide HX).below b1 (Nat.le_refl _)) i1 (by omega) (by omega) (pow2_lt hX) (pow2_lt (by omega)))
  have HB1 := hide b1
  clear i1 b1
  go_wp2_with fail
  refine (unhide HF).mono ?_
  rintro e w2 ⟨rfl, r2, p2⟩
  rw [mk_one] at r2
  have HE : Hid (isR w2 b (x : Rat) ∧ But w.heap.size b w w2) := hide ⟨r2, (But.of_below (unhide HB1)).trans (p2.mono (unhide HB1).size)⟩
  clear r2 p2
  go_wp2
  go_ret
  exact ⟨rfl, (unhide HE).1, (unhide HE).2⟩

/-- What Rat.SetString leaves of a fraction that it can read. -/
structure RsE (b : Nat) (q : Rat) (w : World) (e : Ending) (w' : World) : Prop where
  ret : e = .returned (.tuple #[.pointer (some ⟨b, 0, none⟩), .bool true])
  is : isR w' b q
  but : But w.heap.size b w w'
theorem bytes_at {S : ByteArray} {l m : List UInt8} {c : UInt8} (h : S.data.toList = l ++ c :: m) : S.size = l.length + 1 + m.length ∧ (∀ k, (hk : k < l.length) → ∃ hs : k < S.size, S[k] = l[k]) ∧ (∃ hs : l.length < S.size, S[l.length] = c) ∧ (S.extract 0 l.length).data.toList = l ∧ (S.extract (l.length + 1) S.size).data.toList = m := by
  have hs : S.size = l.length + 1 + m.length := by
    rw [← len_data, h]; simp; omega
  have key : ∀ k (hk : k < S.size), S[k] = (l ++ c :: m)[k]'(by rw [← h, len_data]; exact hk) := fun k hk => by
    have : S[k] = S.data.toList[k]'(by rw [len_data]; exact hk) := rfl
    rw [this]
    congr 1
  refine ⟨hs, fun k hk => ⟨by omega, ?_⟩, ⟨by omega, ?_⟩, ?_, ?_⟩
  · rw [key k (by omega), List.getElem_append_left hk]
  · rw [key l.length (by omega), List.getElem_append_right (Nat.le_refl _)]
    simp
  · rw [ByteArray.data_extract, Array.toList_extract, List.extract_eq_take_drop, h]
    simp
  · rw [ByteArray.data_extract, Array.toList_extract, List.extract_eq_take_drop, h, hs]
    rw [show l ++ c :: m = (l ++ [c]) ++ m by simp, List.drop_append_of_le_length (by simp)]
    simp
theorem itoa_byte (z : Int) : ∀ c ∈ Lib.itoa z, c.toNat = 45 ∨ (48 ≤ c.toNat ∧ c.toNat ≤ 57) := by
  intro c hc
  by_cases h : z < 0
  · rw [itoa_neg' z h] at hc
    rcases List.mem_cons.1 hc with rfl | hc
    · left; rfl
    · right; exact dec_dg _ c hc
  · rw [itoa_pos z h] at hc
    right; exact dec_dg _ c hc
theorem itoa_ne (z : Int) : Lib.itoa z ≠ [] := by
  by_cases h : z < 0
  · rw [itoa_neg' z h]; simp
  · rw [itoa_pos z h]; exact dec_ne _

end Go.Proofs.YthplbfjpmnpjmaaDoor

namespace Go.Proofs.YthplbfjpmnpjmaaDoor
open Go.RowKit
attribute [local go_sem ↓] Go.wp_at_zero Go.wp_at_succ

theorem wrapX {n : Int} (h : 0 ≤ n ∧ n ≤ 9223372036854775807) : IntKind.i64.wrap n = n := by unfold IntKind.wrap; simp [IntKind.signed, IntKind.bits]; omega
theorem itoa_nat (y : Nat) : Lib.itoa (y : Int) = Lib.decDigits y := by
  rw [itoa_pos _ (by omega), Int.natAbs_natCast]
set_option maxHeartbeats 4000000 in
set_option maxRecDepth 100000 in
theorem SetStr_frac (b y : Nat) (x : Int) (S : ByteArray) (w : World) (hb : isTR w b) (hS : S.data.toList = Lib.itoa x ++ 47 :: Lib.itoa (y : Int)) (hy0 : 0 < y) (hX : x.natAbs < 9223372036854775808) (hY : y < 9223372036854775808) (hsz : S.size ≤ 1000) :
    Calls Tryd.prog 21 #[.pointer (some ⟨b, 0, none⟩), .string S] w (RsE b (mkRat x y) w) := by
  obtain ⟨hs1, hk1, ⟨hs2, hk2⟩, he1, he2⟩ := bytes_at hS
  obtain ⟨L, hL⟩ : ∃ L, L = (Lib.itoa x).length := ⟨_, rfl⟩
  rw [← hL] at hs1 he1 he2
  have hyn : 0 < (Lib.itoa (y : Int)).length := List.length_pos_iff.2 (itoa_ne _)
  obtain ⟨S1, hS1⟩ : ∃ S1, S.extract 0 L = S1 := ⟨_, rfl⟩
  obtain ⟨L1, hL1⟩ : ∃ L1, L + 1 = L1 := ⟨_, rfl⟩
  rw [hL1] at he2
  obtain ⟨S2, hS2⟩ : ∃ S2, S.extract L1 S.size = S2 := ⟨_, rfl⟩
  rw [hS1] at he1
  rw [hS2] at he2
  have hLs : L < S.size := by omega
  have hL1s : L1 < S.size := by omega
  have h47 : S[L].toNat = 47 := by
    have : S[L] = 47 := by
      subst hL; exact hk2
    rw [this]; rfl
  have HNO : Hid (∀ k (hk : k < L), ∃ hs : k < S.size, S[k].toNat ≠ 47) := hide (fun k hk => by
    subst hL
    obtain ⟨a1, a2⟩ := hk1 k hk
    refine ⟨a1, ?_⟩
    rw [a2]
    have := itoa_byte x _ (List.getElem_mem hk)
    omega)
  have hs1k : S1.size ≤ 1000 := by have : S1.size = L := (by rw [← len_data, he1, hL]); omega
  have hs2k : S2.size ≤ 1000 := by have : S2.size + L1 = S.size := (by rw [← len_data S2, he2]; omega); omega
  have hs1sz : S1.size = L := by rw [← len_data, he1, hL]
  have hs2sz : S2.size + L1 = S.size := by rw [← len_data S2, he2]; omega
  have hdg : 48 ≤ S[L1].toNat ∧ S[L1].toNat ≤ 57 := by
    have h0 : 0 < S2.size := by rw [← len_data, he2]; exact hyn
    have hb0 := byte_dg S2 y (he2.trans (itoa_nat y)) 0 h0
    have e : S2[0] = S[L1] := by
      have h1 : S2[0] = (S.extract L1 S.size)[0]'(by rw [hS2]; exact h0) := by congr 1; exact hS2.symm
      rw [h1, ByteArray.getElem_extract]
      congr 1
    rw [← e]; exact hb0
  have h47i : (S[L].toNat : Int) = 47 := by omega
  have hd43 : ((S[L1].toNat : Int) == 43) = false := by simp; omega
  have hd45 : ((S[L1].toNat : Int) == 45) = false := by simp; omega
  have hLL : (L : Int) + 1 = (L1 : Int) := by omega
  have hLi : (L : Int) < (S.size : Int) := by omega
  have hL1i : (L1 : Int) < (S.size : Int) := by omega
  have hL10 : (0 : Int) ≤ (L1 : Int) := by omega
  have hL0 : (0 : Int) ≤ (L : Int) := by omega
  have hL1l : (L1 : Int) ≤ (S.size : Int) := by omega
  have hLl : (L : Int) ≤ (S.size : Int) := by omega
  have hLw : IntKind.i64.wrap (L1 : Int) = (L1 : Int) := wrapX (by omega)
  have hYi : ((y : Int)).natAbs < 9223372036854775808 := by rw [Int.natAbs_natCast]; exact hY
  have hblt := hb.a.nb.lt
  obtain ⟨w1, hw1⟩ : ∃ w1, w1 = w.alloc (.cells #[.bool false, .slice none 0 0] 37 (0, 0)) := ⟨_, rfl⟩
  have hsz1 : w1.heap.size = w.heap.size + 1 := by rw [hw1]; simp
  have hb1 : Below w.heap.size w w1 := by rw [hw1]; exact (Below.refl _ _).alloc (Nat.le_refl _) _
  have ht1 : isTo w1 w.heap.size 0 := by rw [hw1]; exact new_to w
  have HS1 := hide (SetString_z w.heap.size x S1 w1 ht1 he1 hX hs1k)
  have HS2 : Hid (∀ u : World, Calls Tryd.prog 39 #[.pointer (some ⟨u.heap.size, 0, none⟩), .string S2, .int .i64 10] (u.alloc (.cells #[.bool false, .slice none 0 0] 37 (0, 0))) fun e w' => e = .returned (.tuple #[.pointer (some ⟨u.heap.size, 0, none⟩), .bool true]) ∧ isI w' u.heap.size 0 (y : Int) ∧ Put (u.heap.size + 1) u.heap.size 0 (u.alloc (.cells #[.bool false, .slice none 0 0] 37 (0, 0))) w') := hide (fun u => by
    have := SetString_z u.heap.size (y : Int) S2 _ (new_to u) he2 hYi hs2k
    rw [World.size_alloc] at this
    exact this)
  have HB := hide hb
  have HW1 := hide hw1
  have HB1 := hide hb1
  have hyz : sgI (y : Int) = 1 := by unfold sgI; rw [if_neg (by omega), if_neg (by omega)]
  have HYZ := hide hyz
  have HL1 := hide hL1
  clear hL1 hL hk1 hk2 hs1 hs2 he1 he2 hS hb hw1 hb1 ht1 hdg h47 hs1sz hs2sz hyn hyz
  go_enter Tryd.func21, Tryd.ntmps21
  go_wp2
  go_loopw [6] (fun iv wr => ∃ k : Nat, k ≤ L ∧ iv = .int .i64 (k : Int) ∧ wr = w) (fun iv _ => L - (intOf iv).toNat)
  case atStart => exact ⟨0, Nat.zero_le _, rfl, rfl⟩
  case round =>
    obtain ⟨k, hk, rfl, hwe⟩ := hrel
    replace hwe := hwe.symm
    subst hwe
    by_cases hkl : k < L
    · obtain ⟨hks, hne⟩ := unhide HNO k hkl
      have hki : (k : Int) < (S.size : Int) := by omega
      have hk0 : (0 : Int) ≤ (k : Int) := by omega
      have hnb : ((S[k].toNat : Int) == 47) = false := by simp; omega
      go_wp2
      go_roundw
      case rel => exact ⟨k + 1, by omega, by go_num, trivial⟩
      case measure => simp only [intOf]; omega
    · obtain rfl : k = L := by omega
      go_wp2_with fail
      rw [← unhide HW1]
      refine (unhide HS1).mono ?_
      rintro e w2 ⟨rfl, i2, p2⟩
      have hs2 := p2.but.size
      have HI2 := hide i2
      have HB2 := hide ((unhide HB1).trans (p2.but.fresh (B := w.heap.size) (by omega) (by omega)))
      have HC := hide (unhide HS2 w2)
      clear i2 p2 HS1 HS2
      go_wp2_with fail
      refine (unhide HC).mono ?_
      rintro e w3 ⟨rfl, i3, p3⟩
      have hs3 := p3.but.size
      rw [World.size_alloc] at hs3
      have hb23 : Below w2.heap.size w2 w3 := ((Below.refl _ w2).alloc (Nat.le_refl _) _).trans (p3.but.fresh (by omega) (by omega))
      have HI3 := hide i3
      have HI23 := hide ((unhide HI2).below hb23 (Nat.le_refl _))
      have HB3 := hide ((unhide HB2).trans (hb23.mono (by omega)))
      have HSI := hide (Sign_z w2.heap.size 0 (y : Int) w3 i3)
      rw [unhide HYZ] at HSI
      clear i3 p3 HC hb23 HI2 HB2
      go_wp2_with fail
      refine (unhide HSI).mono ?_
      rintro e w4 ⟨rfl, hw4⟩
      replace hw4 := hw4.symm
      subst hw4
      have HF := hide (SetFrac_any b w.heap.size 0 w2.heap.size 0 2 y x w3 ((unhide HB).below (unhide HB3) (Nat.le_refl _)) (unhide HI23) (unhide HI3) hy0 (by omega) (pow2_lt hX) (pow2_lt hY))
      have hsw := (unhide HB3).size
      go_wp2_with fail
      refine (unhide HF).mono ?_
      rintro e w5 ⟨rfl, r5, p5⟩
      have HE : Hid (isR w5 b (mkRat x y) ∧ But w.heap.size b w w5) := hide ⟨r5, (But.of_below (unhide HB3)).trans (p5.mono hsw)⟩
      clear r5 p5 HF
      go_wp2
      go_ret2
      exact ⟨rfl, (unhide HE).1, (unhide HE).2⟩
end Go.Proofs.YthplbfjpmnpjmaaDoor
