/-
  Plain mathematics: cut at one byte; ways' words there and back.
  Plain mathematics: cut at a separator; pieces' words there and back.
-/
import Derived.Test.YtfhmpgjemobjhaaGreatDoorJ11
namespace Go.Proofs.YtfhmpgjemobjhaaGreatDoor

theorem index_cons_eq (c : UInt8) (l : List UInt8) : Lib.index (c :: l) [c] = 0 := by rw [Lib.index]; simp [List.isPrefixOf]
theorem index_cons_ne (b c : UInt8) (l : List UInt8) (h : b ≠ c) : Lib.index (b :: l) [c] = if Lib.index l [c] == -1 then -1 else Lib.index l [c] + 1 := by
  have hp : ([c] : List UInt8).isPrefixOf (b :: l) = false := by simp [List.isPrefixOf, Ne.symm h]
  rw [Lib.index, hp]; simp
theorem index_mem (c : UInt8) : ∀ (a b : List UInt8), c ∉ a → Lib.index (a ++ c :: b) [c] = (a.length : Nat)
  | [], b, _ => by rw [List.nil_append, index_cons_eq]; rfl
  | x :: t, b, h => by
    have hx : x ≠ c := fun e => h (by simp [e])
    have ht : c ∉ t := fun e => h (by simp [e])
    rw [List.cons_append, index_cons_ne x c _ hx, index_mem c t b ht]
    have : ¬ (((t.length : Nat) : Int) == -1) = true := by simp
    rw [if_neg this]
    simp
theorem index_no (c : UInt8) : ∀ (a : List UInt8), c ∉ a → Lib.index a [c] = -1
  | [], _ => by simp [Lib.index]
  | x :: t, h => by
    have hx : x ≠ c := fun e => h (by simp [e])
    have ht : c ∉ t := fun e => h (by simp [e])
    rw [index_cons_ne x c _ hx, index_no c t ht]
    rfl
theorem split_hit (c : UInt8) (k : Nat) (a b : List UInt8) (h : c ∉ a) : Lib.splitK [c] 0 (k + 1) (a ++ c :: b) = a :: Lib.splitK [c] 0 k b := by
  rw [Lib.splitK, index_mem c a b h]
  have : ¬ (((a.length : Nat) : Int) == -1) = true := by simp
  rw [if_neg this]
  simp
theorem split_no (c : UInt8) (k : Nat) (a : List UInt8) (h : c ∉ a) : Lib.splitK [c] 0 k a = [a] := by
  cases k with
  | zero => rfl
  | succ k => rw [Lib.splitK, index_no c a h]; rfl
/-- Words with a byte between them. -/
def joinC (c : UInt8) : List (List UInt8) → List UInt8
  | [] => []
  | [a] => a
  | a :: b :: t => a ++ c :: joinC c (b :: t)
theorem split_ne (c : UInt8) (k : Nat) (s : List UInt8) : Lib.splitK [c] 0 k s ≠ [] := by
  cases k with
  | zero => simp [Lib.splitK]
  | succ k => rw [Lib.splitK]; split <;> simp
theorem first_c (c : UInt8) : ∀ s : List UInt8, c ∈ s → ∃ a b, s = a ++ c :: b ∧ c ∉ a
  | [], h => absurd h (by simp)
  | x :: t, h => by
    by_cases hx : x = c
    · exact ⟨[], t, by rw [hx]; rfl, by simp⟩
    · obtain ⟨a, b, rfl, ha⟩ := first_c c t (by
        rcases List.mem_cons.1 h with h | h
        · exact absurd h.symm hx
        · exact h)
      exact ⟨x :: a, b, rfl, by simp [Ne.symm hx, ha]⟩
theorem join_split (c : UInt8) : ∀ (k : Nat) (s : List UInt8), joinC c (Lib.splitK [c] 0 k s) = s
  | 0, s => rfl
  | k + 1, s => by
    by_cases h : c ∈ s
    · obtain ⟨a, b, rfl, ha⟩ := first_c c s h
      rw [split_hit c k a b ha]
      have e := join_split c k b
      cases hl : Lib.splitK [c] 0 k b with
      | nil => exact absurd hl (split_ne c k b)
      | cons x t => rw [hl] at e; rw [joinC, e]
    · rw [split_no c _ s h]; rfl

theorem dec_noblank (n : Nat) : (32 : UInt8) ∉ Lib.decDigits n := by
  intro h
  have := (dec_digits n 32 h).1
  have e : (32 : UInt8).toNat = 32 := rfl
  omega
theorem kind_noblank (k : Int) : (32 : UInt8) ∉ kindL k := by
  unfold kindL
  split
  · decide
  · split <;> decide

/-- The way, out of its own text. -/
theorem wayOf_wayL (z : Wy) (h : z.ok = true) : wayOf (wayL z) = some z := by
  obtain ⟨k, x, y, t⟩ := z
  simp only [Wy.ok, inB, Bool.and_eq_true, Bool.or_eq_true, decide_eq_true_eq] at h
  obtain ⟨⟨⟨⟨⟨hx0, hx7⟩, hy0, hy7⟩, -⟩, ht⟩, hk⟩ := h
  obtain ⟨X, rfl⟩ : ∃ X : Nat, x = X := ⟨x.toNat, by omega⟩
  obtain ⟨Y, rfl⟩ : ∃ Y : Nat, y = Y := ⟨y.toNat, by omega⟩
  have hX := numOf_dec X (by omega)
  have hY := numOf_dec Y (by omega)
  have hK : (kindOf (kindL k) : Int) = k ∧ kindOf (kindL k) ≠ 0 := by
    have : k = 1 ∨ k = 2 ∨ k = 3 := by omega
    rcases this with rfl | rfl | rfl <;> decide
  have hlen : 3 ≤ (wayL ⟨k, X, Y, t⟩).length := by simp only [wayL, List.length_append, List.length_cons]; have : 4 ≤ (kindL k).length := (by unfold kindL; split; decide; split <;> decide); omega
  have e4 : min 4 ((wayL ⟨k, X, Y, t⟩).length + 1) - 1 = 3 := by omega
  unfold wayOf Lib.splitN
  rw [e4]
  simp only [wayL, Int.toNat_natCast]
  rw [split_hit 32 2 _ _ (kind_noblank k), split_hit 32 1 _ _ (dec_noblank X)]
  rcases ht with (rfl | rfl) | rfl
  · simp only [takeL]
    rw [show Lib.decDigits Y ++ (if (0 : Int) = 1 then [32, 116, 97, 107, 101] else if (0 : Int) = 2 then [32, 113, 117, 105, 101, 116] else []) = Lib.decDigits Y by simp]
    rw [split_no 32 1 _ (dec_noblank Y)]
    simp only [wayW]
    rw [if_neg hK.2, hX, hY, hK.1]
  · rw [show takeL 1 = 32 :: [116, 97, 107, 101] from rfl, split_hit 32 0 _ _ (dec_noblank Y)]
    simp only [wayW, Lib.splitK]
    rw [if_neg (by rintro (h | h); exact hK.2 h; exact absurd h (by decide)), hX, hY, hK.1]
    rfl
  · rw [show takeL 2 = 32 :: [113, 117, 105, 101, 116] from rfl, split_hit 32 0 _ _ (dec_noblank Y)]
    simp only [wayW, Lib.splitK]
    rw [if_neg (by rintro (h | h); exact hK.2 h; exact absurd h (by decide)), hX, hY, hK.1]
    rfl
theorem kindL_of (l : List UInt8) (h : kindOf l ≠ 0) : kindL (kindOf l : Nat) = l := by
  unfold kindOf at *
  split at h
  · rename_i e; subst e; rfl
  split at h
  · rename_i e; subst e; rfl
  split at h
  · rename_i e; subst e; rfl
  · exact absurd rfl h
theorem takeL_of (l : List UInt8) (h : takeOf l ≠ 0) : takeL (takeOf l : Nat) = 32 :: l := by
  unfold takeOf at *
  split at h
  · rename_i e; subst e; rfl
  split at h
  · rename_i e; subst e; rfl
  · exact absurd rfl h
/-- The text, out of the way that it gives. -/
theorem wayL_wayOf (l : List UInt8) (z : Wy) (h : wayOf l = some z) : wayL z = l := by
  unfold wayOf Lib.splitN at h
  have e := join_split 32 (min 4 (l.length + 1) - 1) l
  generalize Lib.splitK [32] 0 (min 4 (l.length + 1) - 1) l = P at h e
  subst e
  unfold wayW at h
  split at h
  · rename_i a b c
    split at h
    · cases h
    · rename_i hk
      split at h
      · rename_i x y hx hy
        obtain rfl := Option.some.inj h
        simp only [wayL, Int.toNat_natCast, joinC]
        rw [kindL_of a hk, ← numOf_back b x hx, ← numOf_back c y hy]
        simp [takeL]
      · cases h
  · rename_i a b c d
    split at h
    · cases h
    · rename_i hk
      split at h
      · rename_i x y hx hy
        obtain rfl := Option.some.inj h
        simp only [wayL, Int.toNat_natCast, joinC]
        rw [kindL_of a (fun e => hk (Or.inl e)), ← numOf_back b x hx, ← numOf_back c y hy, takeL_of d (fun e => hk (Or.inr e))]
      · cases h
  · cases h
end Go.Proofs.YtfhmpgjemobjhaaGreatDoor

namespace Go.Proofs.YtfhmpgjemobjhaaGreatDoor

theorem index_sep (c : UInt8) (r : List UInt8) : ∀ (a b : List UInt8), c ∉ a → Lib.index (a ++ (c :: r ++ b)) (c :: r) = (a.length : Nat)
  | [], b, _ => by
    have hp : (c :: r).isPrefixOf (c :: (r ++ b)) = true := by rw [List.isPrefixOf_iff_prefix]; exact ⟨b, rfl⟩
    rw [List.nil_append, List.cons_append, Lib.index, hp]; rfl
  | x :: t, b, h => by
    have hx : x ≠ c := fun e => h (by simp [e])
    have ht : c ∉ t := fun e => h (by simp [e])
    have hp : (c :: r).isPrefixOf (x :: (t ++ (c :: r ++ b))) = false := by simp [List.isPrefixOf, Ne.symm hx]
    rw [List.cons_append, Lib.index, hp, index_sep c r t b ht]
    have : ¬ (((t.length : Nat) : Int) == -1) = true := by simp
    rw [if_neg (by simp), if_neg this]
    simp
theorem index_sep_no (c : UInt8) (r : List UInt8) : ∀ (a : List UInt8), c ∉ a → Lib.index a (c :: r) = -1
  | [], _ => by simp [Lib.index]
  | x :: t, h => by
    have hx : x ≠ c := fun e => h (by simp [e])
    have ht : c ∉ t := fun e => h (by simp [e])
    have hp : (c :: r).isPrefixOf (x :: t) = false := by simp [List.isPrefixOf, Ne.symm hx]
    rw [Lib.index, hp, index_sep_no c r t ht]
    rfl
theorem cut_hit (c : UInt8) (r a b : List UInt8) (h : c ∉ a) : Lib.cut (a ++ (c :: r ++ b)) (c :: r) = (a, b, true) := by
  unfold Lib.cut
  rw [index_sep c r a b h, if_pos (by omega)]
  simp only [Int.toNat_natCast, List.take_left]
  rw [← List.drop_drop, List.drop_left, List.drop_left]
theorem cut_no (c : UInt8) (r a : List UInt8) (h : c ∉ a) : Lib.cut a (c :: r) = (a, [], false) := by
  unfold Lib.cut
  rw [index_sep_no c r a h, if_neg (by omega)]
/-- What is cut, put together. -/
theorem cut_back (s sep : List UInt8) (h : (Lib.cut s sep).2.2 = true) : s = (Lib.cut s sep).1 ++ (sep ++ (Lib.cut s sep).2.1) := by
  unfold Lib.cut at *
  rcases Lib.index_spec s sep with ⟨h1, -⟩ | ⟨i, h1, h2, h3, -⟩
  · rw [h1, if_neg (by omega)] at h; cases h
  · rw [h1, if_pos (by omega)]
    simp only [Int.toNat_natCast]
    unfold Lib.occAt at h3
    obtain ⟨t, ht⟩ := List.isPrefixOf_iff_prefix.1 h3
    rw [← List.drop_drop, ← ht, List.drop_left, ht, List.take_append_drop]
theorem cut_whole (s sep : List UInt8) (h : (Lib.cut s sep).2.2 = false) : (Lib.cut s sep).1 = s ∧ (Lib.cut s sep).2.1 = [] := by
  unfold Lib.cut at *
  split at h
  · cases h
  · rename_i hh; rw [if_neg hh]; exact ⟨rfl, rfl⟩
theorem cut_shorter (s sep : List UInt8) (hs : sep ≠ []) (h : (Lib.cut s sep).2.2 = true) : (Lib.cut s sep).2.1.length < s.length := by
  have e := congrArg List.length (cut_back s sep h)
  have := List.length_pos_iff.2 hs
  simp only [List.length_append] at e
  omega

/-- Ways out of their text, cut at ", ". -/
def waysF : Nat → List UInt8 → Option (List Wy)
  | 0, _ => none
  | n + 1, s => match wayOf (Lib.cut s [44, 32]).1 with
    | none => none
    | some z => if (Lib.cut s [44, 32]).2.2 then (waysF n (Lib.cut s [44, 32]).2.1).map (z :: ·) else some [z]
theorem join_more (a b : List UInt8) (t : List (List UInt8)) (sep : List UInt8) : Lib.join (a :: b :: t) sep = a ++ (sep ++ Lib.join (b :: t) sep) := by
  rw [Lib.join_cons, Lib.join_cons]
  simp [Lib.joinTail]
theorem dec_no (c : UInt8) (h : c.toNat < 48 ∨ 57 < c.toNat) (n : Nat) : c ∉ Lib.decDigits n := by
  intro hc
  have := dec_digits n c hc
  omega
theorem way_nocomma (z : Wy) : (44 : UInt8) ∉ wayL z := by
  unfold wayL
  have hd := fun n => dec_no 44 (Or.inl (by decide)) n
  have hk : (44 : UInt8) ∉ kindL z.k := by
    unfold kindL
    split
    · decide
    · split <;> decide
  have ht : (44 : UInt8) ∉ takeL z.t := by
    unfold takeL
    split
    · decide
    · split <;> decide
  simp only [List.mem_append, List.mem_cons, hk, hd, ht, false_or, or_false]
  decide
theorem waysF_of : ∀ (ws : List Wy) (n : Nat), ws ≠ [] → ws.length ≤ n → ws.all Wy.ok = true → waysF n (Lib.join (ws.map wayL) [44, 32]) = some ws
  | [], _, h, _, _ => absurd rfl h
  | [z], n + 1, _, _, ho => by
    have hz : z.ok = true := by simpa using ho
    rw [List.map_cons, List.map_nil, Lib.join_one, waysF, cut_no 44 [32] _ (way_nocomma z)]
    simp only [wayOf_wayL z hz]
    rfl
  | z :: y :: t, n + 1, _, hn, ho => by
    have ho' : z.ok = true ∧ (y :: t).all Wy.ok = true := by
      rw [List.all_cons, Bool.and_eq_true] at ho
      exact ho
    have ih := waysF_of (y :: t) n (by simp) (by simp only [List.length_cons] at hn ⊢; omega) ho'.2
    rw [List.map_cons, List.map_cons, join_more, ← List.map_cons, waysF, cut_hit 44 [32] _ _ (way_nocomma z)]
    simp only [wayOf_wayL z ho'.1, ih, if_true]
    rfl
  | z :: t, 0, _, hn, _ => absurd hn (by simp)
theorem waysF_back : ∀ (n : Nat) (s : List UInt8) (ws : List Wy), waysF n s = some ws → ws ≠ [] ∧ Lib.join (ws.map wayL) [44, 32] = s
  | 0, _, _, h => by cases h
  | n + 1, s, ws, h => by
    rw [waysF] at h
    split at h
    · cases h
    · rename_i z hz
      have ez := wayL_wayOf _ z hz
      by_cases hc : (Lib.cut s [44, 32]).2.2 = true
      · rw [if_pos hc] at h
        cases hr : waysF n (Lib.cut s [44, 32]).2.1 with
        | none => rw [hr] at h; cases h
        | some r =>
          rw [hr] at h
          obtain rfl : z :: r = ws := Option.some.inj h
          obtain ⟨hne, hj⟩ := waysF_back n _ r hr
          refine ⟨by simp, ?_⟩
          cases r with
          | nil => exact absurd rfl hne
          | cons y t =>
            rw [List.map_cons, List.map_cons, join_more, ← List.map_cons, hj, ez]
            exact (cut_back s [44, 32] hc).symm
      · rw [if_neg hc] at h
        obtain rfl : [z] = ws := Option.some.inj h
        refine ⟨by simp, ?_⟩
        rw [List.map_cons, List.map_nil, Lib.join_one, ez]
        exact (cut_whole s [44, 32] (Bool.eq_false_iff.2 hc)).1

/-- A piece out of its text. -/
def pieceF (s : List UInt8) : Option Pc :=
  match letterOf (Lib.cut (Lib.cut s [58, 32]).1 [32]).1, numOf (Lib.cut (Lib.cut s [58, 32]).1 [32]).2.1 with
  | some l, some v => if (Lib.cut s [58, 32]).2.2 then (waysF (s.length + 1) (Lib.cut s [58, 32]).2.1).map fun ws => ⟨l.toNat, (v : Nat), ws⟩ else some ⟨l.toNat, (v : Nat), []⟩
  | _, _ => none
theorem cap_nat (l : Nat) (h : capB (l : Int) = true) : 65 ≤ l ∧ l ≤ 90 := by
  unfold capB at h
  simp only [Bool.and_eq_true, decide_eq_true_eq] at h
  omega
theorem pieceF_of (p : Pc) (h : pcB p.l p.v p.ws = true) : pieceF (pieceL (UInt8.ofNat p.l) p.v p.ws) = some p := by
  obtain ⟨l, v, ws⟩ := p
  simp only [pcB, inB, Bool.and_eq_true, decide_eq_true_eq] at h
  obtain ⟨⟨⟨hl, hv0, hv⟩, hw⟩, ho⟩ := h
  obtain ⟨V, rfl⟩ : ∃ V : Nat, v = V := ⟨v.toNat, by omega⟩
  have hL := cap_nat l hl
  have eL : (UInt8.ofNat l).toNat = l := by rw [UInt8.toNat_ofNat']; omega
  have hV := numOf_dec V (by omega)
  have hlo : letterOf [UInt8.ofNat l] = some (UInt8.ofNat l) := by simp only [letterOf]; rw [eL, if_pos hl]
  have hb : (32 : UInt8) ∉ [UInt8.ofNat l] := by
    intro hh
    have := congrArg UInt8.toNat (List.mem_singleton.1 hh)
    rw [eL] at this
    have e : (32 : UInt8).toNat = 32 := rfl
    omega
  have hcol : (58 : UInt8) ∉ UInt8.ofNat l :: 32 :: Lib.decDigits V := by
    intro hh
    rcases List.mem_cons.1 hh with hh | hh
    · have := congrArg UInt8.toNat hh
      rw [eL] at this
      have e : (58 : UInt8).toNat = 58 := rfl
      omega
    · rcases List.mem_cons.1 hh with hh | hh
      · exact absurd hh (by decide)
      · exact dec_no 58 (Or.inr (by decide)) V hh
  have hhead : Lib.cut (UInt8.ofNat l :: 32 :: Lib.decDigits V) [32] = ([UInt8.ofNat l], Lib.decDigits V, true) := cut_hit 32 [] [UInt8.ofNat l] (Lib.decDigits V) hb
  by_cases hn : ws = []
  · subst hn
    have e : pieceL (UInt8.ofNat l) (V : Nat) [] = UInt8.ofNat l :: 32 :: Lib.decDigits V := by simp [pieceL]
    unfold pieceF
    rw [e, cut_no 58 [32] _ hcol]
    simp only [hhead, hlo, hV, eL]
    rfl
  · have e : pieceL (UInt8.ofNat l) (V : Nat) ws = (UInt8.ofNat l :: 32 :: Lib.decDigits V) ++ (58 :: [32] ++ Lib.join (ws.map wayL) [44, 32]) := by simp [pieceL, hn]
    have hlen : ws.length ≤ (pieceL (UInt8.ofNat l) (V : Nat) ws).length + 1 := by
      rw [e]
      have : ∀ r : List Wy, r.length ≤ (Lib.join (r.map wayL) [44, 32]).length + 1 := by
        intro r
        induction r with
        | nil => simp
        | cons z t ih =>
          cases t with
          | nil => simp
          | cons y t =>
            rw [List.map_cons, List.map_cons, join_more, ← List.map_cons]
            simp only [List.length_append, List.length_cons] at ih ⊢
            omega
      have := this ws
      simp only [List.length_append, List.length_cons]
      omega
    have hws := waysF_of ws _ hn hlen ho
    unfold pieceF
    rw [show Lib.cut (pieceL (UInt8.ofNat l) (V : Nat) ws) [58, 32] = (UInt8.ofNat l :: 32 :: Lib.decDigits V, Lib.join (ws.map wayL) [44, 32], true) by rw [e]; exact cut_hit 58 [32] _ _ hcol]
    simp only [hhead, hlo, hV, eL, hws, if_true]
    rfl
theorem pieceF_back (s : List UInt8) (p : Pc) (h : pieceF s = some p) : pieceL (UInt8.ofNat p.l) p.v p.ws = s ∧ p.l < 256 := by
  unfold pieceF at h
  split at h
  · rename_i l v hl hv
    have hhd : (Lib.cut s [58, 32]).1 = l :: 32 :: Lib.decDigits v := by
      have ev := numOf_back _ _ hv
      have el : (Lib.cut (Lib.cut s [58, 32]).1 [32]).1 = [l] := by
        unfold letterOf at hl
        split at hl
        · rename_i c hc
          split at hl
          · rw [hc, Option.some.inj hl]
          · cases hl
        · cases hl
      by_cases hf : (Lib.cut (Lib.cut s [58, 32]).1 [32]).2.2 = true
      · rw [cut_back _ _ hf, ev, el]; rfl
      · have := (cut_whole _ _ (Bool.eq_false_iff.2 hf)).2
        rw [this] at ev
        exact absurd ev.symm (dec_ne v)
    have el2 : UInt8.ofNat l.toNat = l := by simp
    by_cases hc : (Lib.cut s [58, 32]).2.2 = true
    · rw [if_pos hc] at h
      cases hw : waysF (s.length + 1) (Lib.cut s [58, 32]).2.1 with
      | none => rw [hw] at h; cases h
      | some ws =>
        rw [hw] at h
        obtain rfl := Option.some.inj h
        obtain ⟨hne, hj⟩ := waysF_back _ _ ws hw
        refine ⟨?_, l.toNat_lt⟩
        have e := cut_back s [58, 32] hc
        rw [hhd, ← hj] at e
        rw [el2, e]
        simp [pieceL, hne]
    · rw [if_neg hc] at h
      obtain rfl := Option.some.inj h
      refine ⟨?_, l.toNat_lt⟩
      have e := (cut_whole s [58, 32] (Bool.eq_false_iff.2 hc)).1
      rw [hhd] at e
      rw [el2, ← e]
      simp [pieceL]
  · cases h
end Go.Proofs.YtfhmpgjemobjhaaGreatDoor
