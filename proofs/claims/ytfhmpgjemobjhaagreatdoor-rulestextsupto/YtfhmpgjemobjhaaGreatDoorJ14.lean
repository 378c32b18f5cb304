/-
  Plain mathematics: what is written is read.
  Plain mathematics: what Check asks of what was read; lists that were cut short.
  Plain mathematics: what Read answers; there and back.
-/
import Derived.Test.YtfhmpgjemobjhaaGreatDoorM16
namespace Go.Proofs.YtfhmpgjemobjhaaGreatDoor

theorem ten_cells (C : List UInt8) (h : cellsB C = true) : (10 : UInt8) ∉ C := by
  intro hc
  simp only [cellsB, List.all_eq_true] at h
  exact absurd (h _ hc) (by decide)
theorem ten_rows (W : Nat) (C : List UInt8) (h : cellsB C = true) : ∀ y, (10 : UInt8) ∉ wrows W C y
  | 0 => by simp [wrows]
  | y + 1 => by
    rw [wrows, List.mem_append]
    rintro (hc | hc)
    · exact ten_cells _ (cellsB_sub C _ _ h) hc
    · split at hc
      · simp at hc
      · rcases List.mem_cons.1 hc with hc | hc
        · exact absurd hc (by decide)
        · exact ten_rows W C h y hc
theorem ten_caps : ∀ (A : List UInt8) (m : Int), capsB m A = true → (10 : UInt8) ∉ A
  | [], _, _ => by simp
  | c :: t, m, h => by
    rw [capsB, Bool.and_eq_true, Bool.and_eq_true] at h
    intro hc
    rcases List.mem_cons.1 hc with hc | hc
    · subst hc; exact absurd h.1.1 (by decide)
    · exact ten_caps t _ h.2 hc
theorem ten_hand (A : List UInt8) (h : handB A = true) : (10 : UInt8) ∉ whand A := by
  rw [handB, Bool.and_eq_true] at h
  unfold whand
  split
  · decide
  · exact ten_caps A _ h.2
theorem ten_txt (W H : Nat) (C : List UInt8) (T : Int) (A B : List UInt8) (h : posB W H C T A B = true) : (10 : UInt8) ∉ wtxt W H C T A B := by
  simp only [posB, Bool.and_eq_true] at h
  obtain ⟨⟨⟨⟨-, -, hc⟩, -⟩, ha⟩, hb⟩ := h
  have h1 := ten_rows W C hc H
  have h2 := ten_hand A ha
  have h3 := ten_hand B hb
  unfold wtxt
  simp only [List.mem_append, List.mem_cons, h1, h2, h3, false_or, or_false]
  split <;> decide
theorem ten_way (z : Wy) : (10 : UInt8) ∉ wayL z := by
  unfold wayL
  have hd := fun n => dec_no 10 (Or.inl (by decide)) n
  have hk : (10 : UInt8) ∉ kindL z.k := by
    unfold kindL
    split
    · decide
    · split <;> decide
  have ht : (10 : UInt8) ∉ takeL z.t := by
    unfold takeL
    split
    · decide
    · split <;> decide
  simp only [List.mem_append, List.mem_cons, hk, hd, ht, false_or, or_false]
  decide
theorem ten_join : ∀ ws : List Wy, (10 : UInt8) ∉ Lib.join (ws.map wayL) [44, 32]
  | [] => by simp [Lib.join_nil]
  | [z] => by rw [List.map_cons, List.map_nil, Lib.join_one]; exact ten_way z
  | z :: y :: t => by
    have ih := ten_join (y :: t)
    rw [List.map_cons, List.map_cons, join_more, ← List.map_cons]
    simp only [List.mem_append, List.mem_cons, ten_way z, ih, false_or, or_false]
    decide
theorem ten_piece (l : UInt8) (v : Int) (ws : List Wy) (h : l ≠ 10) : (10 : UInt8) ∉ pieceL l v ws := by
  have hd := dec_no 10 (Or.inl (by decide)) v.toNat
  have hj := ten_join ws
  unfold pieceL
  split
  · simp only [List.mem_append, List.mem_cons, hd, false_or, or_false, List.not_mem_nil, Ne.symm h]
    decide
  · simp only [List.mem_append, List.mem_cons, hd, hj, false_or, or_false, Ne.symm h]
    decide

/-- These lines lead from there to there. -/
def Runs (last : Nat) (x : Rl) (s : List UInt8) (last' : Nat) (x' : Rl) : Prop := ∀ n k, s.length ≤ n → ∃ k', linesF n last x s k = (some (last', x'), k')
theorem runs_nil (last : Nat) (x : Rl) : Runs last x [] last x := by
  intro n k _
  cases n with
  | zero => exact ⟨k, rfl⟩
  | succ n => exact ⟨k, by rw [linesF, if_pos rfl]⟩
theorem runs_line {last : Nat} {x y X : Rl} {l r : List UInt8} {L : Nat} (hl : (10 : UInt8) ∉ l) (h : lineF last x l = some y) (hr : Runs (lineOf (Lib.cut l [32]).1) y r L X) : Runs last x ((l ++ [10]) ++ r) L X := by
  intro n k hn
  cases n with
  | zero => simp at hn
  | succ n =>
    have e : Lib.cut ((l ++ [10]) ++ r) [10] = (l, r, true) := by
      have := cut_hit 10 [] l r hl
      rw [List.append_assoc]
      exact this
    have hne : (l ++ [10]) ++ r ≠ [] := by simp
    obtain ⟨k', hk'⟩ := hr n (k + 1) (by simp only [List.length_append, List.length_cons, List.length_nil] at hn; omega)
    refine ⟨k', ?_⟩
    rw [linesF, if_neg hne, e]
    simp only [h]
    rw [if_neg (by decide)]
    exact hk'
theorem cut_word (wd rest : List UInt8) (h : (32 : UInt8) ∉ wd) : Lib.cut (wd ++ 32 :: rest) [32] = (wd, rest, true) := cut_hit 32 [] wd rest h
theorem may_up (last k : Nat) (h : 2 ≤ last) (h' : last < k) : mayB last k = true := by
  unfold mayB
  rw [if_neg (by omega), if_neg (by omega)]
  split
  · rw [decide_eq_true_eq]; omega
  · rw [decide_eq_true_eq]; omega

theorem ten_dec (n : Nat) : (10 : UInt8) ∉ Lib.decDigits n := dec_no 10 (Or.inl (by decide)) n
theorem ten_word (wd rest : List UInt8) (h : (10 : UInt8) ∉ wd) (h' : (10 : UInt8) ∉ rest) : (10 : UInt8) ∉ wd ++ 32 :: rest := by
  simp only [List.mem_append, List.mem_cons, h, h', false_or, or_false]
  decide

theorem f_plies (last : Nat) (x : Rl) (pl : Nat) (h : 2 ≤ last) (h' : last < 8) (hp : pl ≤ 9999) : Runs last x (lineL [wPlies, Lib.decDigits pl]) 8 { x with pl := pl } := by
  have hc := cut_word wPlies (Lib.decDigits pl) (by decide)
  have ek : lineOf wPlies = 8 := by decide
  have hf : lineF last x (wPlies ++ 32 :: Lib.decDigits pl) = some { x with pl := pl } := by
    unfold lineF
    simp (config := { decide := true }) only [hc, ek, may_up last 8 h h', if_false, if_true, numOf_dec pl hp]
    rfl
  rw [line_two, ← List.append_nil ((wPlies ++ 32 :: Lib.decDigits pl) ++ [10])]
  refine runs_line (ten_word _ _ (by decide) (ten_dec pl)) hf ?_
  rw [hc, ek]
  exact runs_nil _ _
theorem f_stuck (last : Nat) (x : Rl) (st : Bool) (r : List UInt8) (X : Rl) (L : Nat) (h : 2 ≤ last) (h' : last < 7) (hx : x.st = false) (hr : ∀ last', last ≤ last' → last' < 8 → Runs last' { x with st := st } r L X) : Runs last x (stuckL st ++ r) L X := by
  cases st with
  | false =>
    have := hr last (Nat.le_refl _) (by omega)
    rw [show ({ x with st := false } : Rl) = x by cases x; simp only at hx; rw [hx]] at this
    exact this
  | true =>
    have hc := cut_no 32 [] wStuck (by decide)
    have ek : lineOf wStuck = 7 := by decide
    have hf : lineF last x wStuck = some { x with st := true } := by
      unfold lineF
      simp (config := { decide := true }) only [hc, ek, may_up last 7 h h', if_false, if_true]
    rw [show stuckL true = wStuck ++ [10] from line_one _]
    refine runs_line (by decide) hf ?_
    rw [hc, ek]
    exact hr 7 (by omega) (by omega)
theorem f_drops (last : Nat) (x : Rl) (dr : Bool) (r : List UInt8) (X : Rl) (L : Nat) (h : 2 ≤ last) (h' : last < 3) (hx : x.dr = false) (hr : ∀ last', last ≤ last' → last' < 4 → Runs last' { x with dr := dr } r L X) : Runs last x (dropsL dr ++ r) L X := by
  cases dr with
  | false =>
    have := hr last (Nat.le_refl _) (by omega)
    rw [show ({ x with dr := false } : Rl) = x by cases x; simp only at hx; rw [hx]] at this
    exact this
  | true =>
    have hc := cut_no 32 [] wDrops (by decide)
    have ek : lineOf wDrops = 3 := by decide
    have hf : lineF last x wDrops = some { x with dr := true } := by
      unfold lineF
      simp (config := { decide := true }) only [hc, ek, may_up last 3 h h', if_false, if_true]
    rw [show dropsL true = wDrops ++ [10] from line_one _]
    refine runs_line (by decide) hf ?_
    rw [hc, ek]
    exact hr 3 (by omega) (by omega)
theorem letterOf_cap (c : UInt8) (h : capB (c.toNat : Nat) = true) : letterOf [c] = some c := by simp only [letterOf]; rw [if_pos h]
theorem ten_cap (c : UInt8) (h : capB (c.toNat : Nat) = true) : (10 : UInt8) ∉ [c] := by
  intro hc
  rw [← List.mem_singleton.1 hc] at h
  exact absurd h (by decide)
theorem f_lose (last : Nat) (x : Rl) (c : UInt8) (r : List UInt8) (X : Rl) (L : Nat) (h : 2 ≤ last) (h' : last < 4) (hx : x.lo = 0) (hcp : c = 0 ∨ capB (c.toNat : Nat) = true) (hr : ∀ last', last ≤ last' → last' < 5 → Runs last' { x with lo := c } r L X) : Runs last x (letL wLose c ++ r) L X := by
  by_cases h0 : c = 0
  · subst h0
    have := hr last (Nat.le_refl _) (by omega)
    rw [show ({ x with lo := 0 } : Rl) = x by cases x; simp only at hx; rw [hx]] at this
    exact this
  · have hcp' : capB (c.toNat : Nat) = true := hcp.resolve_left h0
    have hc := cut_word wLose [c] (by decide)
    have ek : lineOf wLose = 4 := by decide
    have hf : lineF last x (wLose ++ 32 :: [c]) = some { x with lo := c } := by
      unfold lineF
      simp (config := { decide := true }) only [hc, ek, may_up last 4 h h', if_false, if_true, letterOf_cap c hcp']
      rfl
    rw [letL, if_neg h0, line_two]
    refine runs_line (ten_word _ _ (by decide) (ten_cap c hcp')) hf ?_
    rw [hc, ek]
    exact hr 4 (by omega) (by omega)
theorem f_reach (last : Nat) (x : Rl) (c : UInt8) (r : List UInt8) (X : Rl) (L : Nat) (h : 2 ≤ last) (h' : last < 6) (hx : x.re = 0) (hcp : c = 0 ∨ capB (c.toNat : Nat) = true) (hr : ∀ last', last ≤ last' → last' < 7 → Runs last' { x with re := c } r L X) : Runs last x (letL wReach c ++ r) L X := by
  by_cases h0 : c = 0
  · subst h0
    have := hr last (Nat.le_refl _) (by omega)
    rw [show ({ x with re := 0 } : Rl) = x by cases x; simp only at hx; rw [hx]] at this
    exact this
  · have hcp' : capB (c.toNat : Nat) = true := hcp.resolve_left h0
    have hc := cut_word wReach [c] (by decide)
    have ek : lineOf wReach = 6 := by decide
    have hf : lineF last x (wReach ++ 32 :: [c]) = some { x with re := c } := by
      unfold lineF
      simp (config := { decide := true }) only [hc, ek, may_up last 6 h h', if_false, if_true, letterOf_cap c hcp']
      rfl
    rw [letL, if_neg h0, line_two]
    refine runs_line (ten_word _ _ (by decide) (ten_cap c hcp')) hf ?_
    rw [hc, ek]
    exact hr 6 (by omega) (by omega)
theorem f_line (last : Nat) (x : Rl) (n : Nat) (r : List UInt8) (X : Rl) (L : Nat) (h : 2 ≤ last) (h' : last < 5) (hx : x.li = 0) (hn : n ≤ 9999) (hr : ∀ last', last ≤ last' → last' < 6 → Runs last' { x with li := n } r L X) : Runs last x (numL n ++ r) L X := by
  by_cases h0 : n = 0
  · subst h0
    have := hr last (Nat.le_refl _) (by omega)
    rw [show ({ x with li := 0 } : Rl) = x by cases x; simp only at hx; rw [hx]] at this
    exact this
  · have hc := cut_word wLine (Lib.decDigits n) (by decide)
    have ek : lineOf wLine = 5 := by decide
    have hp : 0 < n := by omega
    have hf : lineF last x (wLine ++ 32 :: Lib.decDigits n) = some { x with li := n } := by
      unfold lineF
      simp (config := { decide := true }) only [hc, ek, may_up last 5 h h', if_false, if_true, numOf_dec n hn]
      simp only [Option.bind_some, hp, if_true]
    rw [numL, if_neg (by omega), line_two]
    refine runs_line (ten_word _ _ (by decide) (ten_dec _)) (by rw [Int.toNat_natCast]; exact hf) ?_
    rw [Int.toNat_natCast, hc, ek]
    exact hr 5 (by omega) (by omega)
theorem f_pieces : ∀ (ps : List Pc) (last : Nat) (x : Rl) (r : List UInt8) (X : Rl) (L : Nat), (last = 2 ∨ (last = 1 ∧ ps ≠ [])) → (∀ p ∈ ps, pcB p.l p.v p.ws = true) → Runs 2 { x with ps := x.ps ++ ps } r L X → Runs last x (ps.flatMap pcL ++ r) L X
  | [], last, x, r, X, L, hl, _, hr => by
    obtain rfl : last = 2 := by
      rcases hl with hl | hl
      · exact hl
      · exact absurd rfl hl.2
    rw [List.append_nil] at hr
    exact hr
  | p :: t, last, x, r, X, L, hl, hp, hr => by
    have hpo := hp p (by simp)
    have hcap : 65 ≤ p.l ∧ p.l ≤ 90 := by
      simp only [pcB, Bool.and_eq_true] at hpo
      exact cap_nat p.l hpo.1.1.1
    have hc := cut_word wPiece (pieceL (UInt8.ofNat p.l) p.v p.ws) (by decide)
    have ek : lineOf wPiece = 2 := by decide
    have hm : mayB last 2 = true := by rcases hl with rfl | ⟨rfl, -⟩ <;> decide
    have hf : lineF last x (wPiece ++ 32 :: pieceL (UInt8.ofNat p.l) p.v p.ws) = some { x with ps := x.ps ++ [p] } := by
      unfold lineF
      simp (config := { decide := true }) only [hc, ek, hm, if_false, if_true, pieceF_of p hpo]
      rfl
    have hten : UInt8.ofNat p.l ≠ 10 := by
      intro e
      have := congrArg UInt8.toNat e
      rw [UInt8.toNat_ofNat'] at this
      have e10 : (10 : UInt8).toNat = 10 := rfl
      omega
    rw [List.flatMap_cons, pcL, line_two, List.append_assoc]
    refine runs_line (ten_word _ _ (by decide) (ten_piece _ _ _ hten)) hf ?_
    rw [hc, ek]
    refine f_pieces t 2 _ r X L (Or.inl rfl) (fun q hq => hp q (by simp [hq])) ?_
    simp only [List.append_assoc, List.singleton_append]
    exact hr
theorem f_start (W H : Nat) (C : List UInt8) (T : Int) (A B : List UInt8) (r : List UInt8) (X : Rl) (L : Nat) (h : posB W H C T A B = true) (hr : Runs 1 { Rl.none with W := W, H := H, C := C, T := T, A := A, B := B } r L X) : Runs 0 Rl.none (lineL [wStart, wtxt W H C T A B] ++ r) L X := by
  have hc := cut_word wStart (wtxt W H C T A B) (by decide)
  have ek : lineOf wStart = 1 := by decide
  have hm : mayB 0 1 = true := by decide
  have hf : lineF 0 Rl.none (wStart ++ 32 :: wtxt W H C T A B) = some { Rl.none with W := W, H := H, C := C, T := T, A := A, B := B } := by
    unfold lineF
    simp (config := { decide := true }) only [hc, ek, hm, if_false, if_true, read_written W H C T A B h]
  rw [line_two]
  refine runs_line (ten_word _ _ (by decide) (ten_txt W H C T A B h)) hf ?_
  rw [hc, ek]
  exact hr
/-- WHAT IS WRITTEN IS READ. -/
theorem rules_there (x : Rl) (hp : posB x.W x.H x.C x.T x.A x.B = true) (hps : x.ps ≠ []) (hpc : ∀ p ∈ x.ps, pcB p.l p.v p.ws = true) (hlo : x.lo = 0 ∨ capB (x.lo.toNat : Nat) = true) (hre : x.re = 0 ∨ capB (x.re.toNat : Nat) = true) (hli : x.li ≤ 9999) (hpl : x.pl ≤ 9999) :
    Runs 0 Rl.none x.txt 8 x := by
  unfold Rl.txt rulesL
  simp only [List.append_assoc, Int.toNat_natCast]
  refine f_start _ _ _ _ _ _ _ _ _ hp ?_
  refine f_pieces _ _ _ _ _ _ (Or.inr ⟨rfl, hps⟩) hpc ?_
  refine f_drops _ _ _ _ _ _ (by omega) (by omega) rfl fun l1 a1 b1 => ?_
  refine f_lose _ _ _ _ _ _ (by omega) (by omega) rfl hlo fun l2 a2 b2 => ?_
  refine f_line _ _ _ _ _ _ (by omega) (by omega) rfl hli fun l3 a3 b3 => ?_
  refine f_reach _ _ _ _ _ _ (by omega) (by omega) rfl hre fun l4 a4 b4 => ?_
  refine f_stuck _ _ _ _ _ _ (by omega) (by omega) rfl fun l5 a5 b5 => ?_
  have := f_plies l5 { W := x.W, H := x.H, C := x.C, T := x.T, A := x.A, B := x.B, ps := x.ps, dr := x.dr, lo := x.lo, li := x.li, re := x.re, st := x.st, pl := 0 } x.pl (by omega) (by omega) hpl
  exact this
end Go.Proofs.YtfhmpgjemobjhaaGreatDoor

namespace Go.Proofs.YtfhmpgjemobjhaaGreatDoor

theorem okP_all : ∀ (ps : List Pc) (S : Nat), okP S ps = true → ∀ p ∈ ps, pcB p.l p.v p.ws = true
  | [], _, _, p, hp => absurd hp (by simp)
  | q :: t, S, h, p, hp => by
    rw [okP, Bool.and_eq_true, Bool.and_eq_true] at h
    rcases List.mem_cons.1 hp with rfl | hp
    · exact h.1.1
    · exact okP_all t _ h.2 p hp
/-- Nine ways at most, eleven pieces at most: as the reader keeps them. -/
def Pc.cap (p : Pc) : Pc := ⟨p.l, p.v, p.ws.take 9⟩
def capP (ps : List Pc) : List Pc := (ps.map Pc.cap).take 11
theorem capP_ok (ps : List Pc) (h : psB (capP ps) = true) : capP ps = ps := by
  simp only [psB, inB, Bool.and_eq_true, decide_eq_true_eq] at h
  obtain ⟨⟨-, hl⟩, ho⟩ := h
  have hlen : ps.length ≤ 10 := by
    simp only [capP, List.length_take, List.length_map] at hl
    omega
  have e : capP ps = ps.map Pc.cap := List.take_of_length_le (by simp; omega)
  rw [e] at ho ⊢
  have hall := okP_all _ _ ho
  refine (List.map_congr_left fun p hp => ?_).trans (List.map_id ps)
  have := hall p.cap (List.mem_map_of_mem hp)
  simp only [pcB, Bool.and_eq_true, decide_eq_true_eq, Pc.cap, List.length_take] at this
  obtain ⟨l, v, ws⟩ := p
  simp only [Pc.cap, id]
  rw [List.take_of_length_le]
  have := this.1.2
  simp only at this
  omega
theorem capP_snoc (ps : List Pc) (p : Pc) : capP (ps ++ [p]) = (capP ps ++ [p.cap]).take 11 := by
  unfold capP
  rw [List.map_append, List.take_append, List.take_append, List.take_take]
  simp only [List.length_take, List.length_map, List.map_cons, List.map_nil, Nat.min_self]
  congr 1
  by_cases h : ps.length ≤ 11
  · rw [Nat.min_eq_right h]
  · rw [Nat.min_eq_left (by omega)]
    rw [show 11 - ps.length = 0 by omega]
theorem take_snoc9 (ws : List Wy) (z : Wy) : (ws ++ [z]).take 9 = (ws.take 9 ++ [z]).take 9 := by
  rw [List.take_append, List.take_append, List.take_take]
  simp only [List.length_take, Nat.min_self]
  congr 1
  by_cases h : ws.length ≤ 9
  · rw [Nat.min_eq_right h]
  · rw [Nat.min_eq_left (by omega)]
    rw [show 9 - ws.length = 0 by omega]
/-- Rules that Check takes are read as they were written. -/
theorem rules_ok (x : Rl) (h : rulesB x.W x.H x.C x.T x.A x.B x.ps x.lo.toNat x.li x.re.toNat x.pl = true) : Runs 0 Rl.none x.txt 8 x := by
  simp only [rulesB, inB, Bool.and_eq_true, Bool.or_eq_true, decide_eq_true_eq] at h
  obtain ⟨⟨⟨⟨⟨⟨hps, hpos⟩, -⟩, hlo⟩, hre⟩, hli⟩, hpl⟩ := h
  have hz : ∀ (S : Nat) (c : UInt8), hasZ S c.toNat = true → c = 0 ∨ capB (c.toNat : Nat) = true := by
    intro S c hc
    simp only [hasZ, hasL, Bool.and_eq_true, Bool.or_eq_true, decide_eq_true_eq] at hc
    rcases hc with hc | hc
    · exact Or.inl (UInt8.toNat_inj.1 (by simpa using hc))
    · exact Or.inr hc.1
  have hpp := hps
  simp only [psB, inB, Bool.and_eq_true, decide_eq_true_eq] at hpp
  refine rules_there x hpos ?_ (okP_all _ _ hpp.2) (hz _ _ hlo) (hz _ _ hre) (by omega) (by omega)
  intro e
  rw [e] at hpp
  simp at hpp
end Go.Proofs.YtfhmpgjemobjhaaGreatDoor

namespace Go.Proofs.YtfhmpgjemobjhaaGreatDoor

theorem capP_of (ps : List Pc) (h : psB ps = true) : capP ps = ps := by
  simp only [psB, inB, Bool.and_eq_true, decide_eq_true_eq] at h
  obtain ⟨⟨-, hl⟩, ho⟩ := h
  have e : capP ps = ps.map Pc.cap := List.take_of_length_le (by simp; omega)
  rw [e]
  have hall := okP_all _ _ ho
  refine (List.map_congr_left fun p hp => ?_).trans (List.map_id ps)
  have := hall p hp
  simp only [pcB, Bool.and_eq_true, decide_eq_true_eq] at this
  obtain ⟨l, v, ws⟩ := p
  simp only [Pc.cap, id]
  rw [List.take_of_length_le]
  have := this.1.2
  simp only at this
  omega
/-- P6 of what was read, as the reader keeps it. -/
def Rl.ok (x : Rl) : Bool := rulesB x.W x.H x.C x.T x.A x.B (capP x.ps) x.lo.toNat x.li x.re.toNat x.pl
def Rl.whole (x : Rl) : Bool := rulesB x.W x.H x.C x.T x.A x.B x.ps x.lo.toNat x.li x.re.toNat x.pl
theorem whole_of_ok (x : Rl) (h : x.ok = true) : capP x.ps = x.ps ∧ x.whole = true := by
  have hp : psB (capP x.ps) = true := by
    simp only [Rl.ok, rulesB, Bool.and_eq_true] at h
    exact h.1.1.1.1.1.1
  have e := capP_ok _ hp
  refine ⟨e, ?_⟩
  unfold Rl.ok at h
  rw [e] at h
  exact h
theorem ok_of_whole (x : Rl) (h : x.whole = true) : x.ok = true := by
  have hp : psB x.ps = true := by
    simp only [Rl.whole, rulesB, Bool.and_eq_true] at h
    exact h.1.1.1.1.1.1
  unfold Rl.ok
  rw [capP_of _ hp]
  exact h
/-- What Read answers: the rules, or none; the fault's two numbers. -/
def readR (s : List UInt8) : Option Rl × Int × Int :=
  match linesF s.length 0 Rl.none s 0 with
  | (some (last, x), k) => if last = 8 then (if x.ok then (some x, 0, 0) else (none, 1, -1)) else (none, 3, (k : Int))
  | (none, k) => (none, 3, (k : Int))
theorem readR_back (s : List UInt8) (x : Rl) (c : Int × Int) (h : readR s = (some x, c)) : x.txt = s ∧ capP x.ps = x.ps ∧ x.whole = true := by
  unfold readR at h
  split at h
  · rename_i last y k hl
    split at h
    · rename_i h8
      split at h
      · rename_i hok
        simp only [Prod.mk.injEq, Option.some.injEq] at h
        obtain ⟨rfl, -⟩ := h
        subst h8
        exact ⟨rules_back _ _ _ hl, whole_of_ok _ hok⟩
      · simp at h
    · simp at h
  · simp at h
theorem readR_there (x : Rl) (h : x.whole = true) : readR x.txt = (some x, 0, 0) := by
  obtain ⟨k, hk⟩ := rules_ok x h x.txt.length 0 (Nat.le_refl _)
  unfold readR
  rw [hk]
  simp only [if_true, ok_of_whole x h]
/-- The fault's number tells. -/
theorem readR_code (s : List UInt8) : ((readR s).1 = none ∧ (readR s).2.1 ≠ 0) ∨ ∃ x, readR s = (some x, 0, 0) := by
  unfold readR
  split
  · split
    · split
      · exact Or.inr ⟨_, rfl⟩
      · exact Or.inl ⟨rfl, by decide⟩
    · exact Or.inl ⟨rfl, by simp⟩
  · exact Or.inl ⟨rfl, by simp⟩
end Go.Proofs.YtfhmpgjemobjhaaGreatDoor
