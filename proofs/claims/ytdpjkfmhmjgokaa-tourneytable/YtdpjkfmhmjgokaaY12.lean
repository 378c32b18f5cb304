/-
  What a result changes of two ratings: both ways to reckon it come to one (plain mathematics).
-/
import Derived.Test.YtdpjkfmhmjgokaaY11
namespace Go.Proofs.Ytdpjkfmhmjgokaa
open Ieee

abbrev oneW : Nat := 4607182418800017408
abbrev halfW : Nat := 4602678819172646912
abbrev w800 : Nat := 4650248090236747776
abbrev twoW : Nat := 4611686018427387904
abbrev hiW : Nat := 4696837146684686336
abbrev loW : Nat := 13920209183539462144
/-- Halves as a float. -/
def sW (h : Int) : Nat := if h = 0 then 0 else if h = 1 then halfW else oneW

theorem un_one : un oneW = 1 * 2 ^ 1074 := by decide +kernel
theorem un_half : un halfW ≤ 1 * 2 ^ 1074 := by decide +kernel
theorem un_hi : un hiW = 1000000 * 2 ^ 1074 := by decide +kernel
theorem one_lt : oneW < double.infRung := by decide +kernel
theorem half_lt : halfW < double.infRung := by decide +kernel
theorem hi_lt : hiW < double.infRung := by decide +kernel
theorem zero_lt' : 0 < double.infRung := by decide +kernel
theorem one_word : oneW = double.word false oneW := rfl
theorem half_word : halfW = double.word false halfW := rfl
theorem hi_word : hiW = double.word false hiW := rfl
theorem lo_word : loW = double.word true hiW := by decide +kernel
theorem zero_word : 0 = double.word false 0 := rfl

theorem order_swap (a b : Datum) : b.order a = (a.order b).map Ordering.swap := by
  cases a with
  | nan s t => cases b <;> rfl
  | infinity s =>
    cases b with
    | nan t u => rfl
    | infinity t => cases s <;> cases t <;> rfl
    | number t m i => cases s <;> rfl
  | number s m i =>
    cases b with
    | nan t u => rfl
    | infinity t => cases t <;> rfl
    | number t n j =>
      simp only [Datum.order, Option.map_some]
      rw [Int.min_comm, Int.compare_swap]
/-- Is a number within bounds? -/
def fairB (x : Nat) : Bool := (double.order x loW == some .gt || double.order x loW == some .eq) && (double.order x hiW == some .lt || double.order x hiW == some .eq)
theorem fair_swap (x : Nat) : (double.order loW x == some .lt || double.order loW x == some .eq) = (double.order x loW == some .gt || double.order x loW == some .eq) := by
  have e : double.order loW x = (double.order x loW).map Ordering.swap := order_swap _ _
  rw [e]
  cases double.order x loW with
  | none => rfl
  | some o => cases o <;> rfl
theorem word_of (x : Nat) (h : x < 2 ^ 64) : x = double.word (x / 2 ^ 63 == 1) (x % 2 ^ 63) := by
  unfold Format.word
  have hw : double.signWeight = 2 ^ 63 := rfl
  rw [hw]
  by_cases h1 : x / 2 ^ 63 = 1
  · simp only [h1, beq_self_eq_true, if_true]; omega
  · have : (x / 2 ^ 63 == 1) = false := by simp [h1]
    rw [this]
    simp only [Bool.false_eq_true, if_false]; omega
theorem read_nan (s : Bool) {r : Nat} (h : double.infRung < r) (h2 : r < 2 ^ 63) : ∃ t, double.read (double.word s r) = .nan s t := by
  have hi : double.infRung = 2047 * 2 ^ 52 := rfl
  have hb : double.binade = 2 ^ 52 := rfl
  have hw : double.signWeight = 2 ^ 63 := rfl
  have e1 : double.word s r % double.signWeight = r := by unfold Format.word; rw [hw]; split <;> omega
  have e2 : (double.word s r / double.signWeight % 2 == 1) = s := by
    unfold Format.word
    rw [hw]
    cases s
    · have : r / 2 ^ 63 = 0 := by omega
      simp [this]
    · have : (2 ^ 63 + r) / 2 ^ 63 = 1 := by omega
      simp only [if_true, this]; rfl
  unfold Format.read
  simp only [e1, e2, hb]
  rw [if_neg (by omega), if_neg (by omega), if_neg (by omega)]
  exact ⟨_, rfl⟩
theorem fair_fl {x : Nat} (hx : x < 2 ^ 64) (h : fairB x = true) : Fl x 1000000 := by
  obtain ⟨s, hs⟩ : ∃ s, s = (x / 2 ^ 63 == 1) := ⟨_, rfl⟩
  obtain ⟨r, hr⟩ : ∃ r, r = x % 2 ^ 63 := ⟨_, rfl⟩
  have e := word_of x hx
  rw [← hs, ← hr] at e
  have hr2 : r < 2 ^ 63 := by omega
  unfold fairB at h
  rw [Bool.and_eq_true] at h
  obtain ⟨h1, h2⟩ := h
  rcases Nat.lt_trichotomy r double.infRung with hc | hc | hc
  · refine ⟨s, r, e, hc, ?_⟩
    rw [← un_hi]
    rw [e, lo_word, order_word s true hc hi_lt] at h1
    rw [e, hi_word, order_word s false hc hi_lt] at h2
    unfold si at h1 h2
    cases s
    · simp only [Bool.false_eq_true, if_false] at h2
      rcases Nat.lt_or_ge (un hiW) (un r) with h3 | h3
      · rw [Int.compare_eq_gt.2 (by omega)] at h2
        simp at h2
      · exact h3
    · simp only [if_true] at h1
      rcases Nat.lt_or_ge (un hiW) (un r) with h3 | h3
      · rw [Int.compare_eq_lt.2 (by omega)] at h1
        simp at h1
      · exact h3
  · exfalso
    rw [hc] at e
    unfold Format.order at h1 h2
    rw [e, read_inf, lo_word, read_word true hi_lt] at h1
    rw [e, read_inf, hi_word, read_word false hi_lt] at h2
    cases s
    · simp [Datum.order] at h2
    · simp [Datum.order] at h1
  · exfalso
    obtain ⟨t, ht⟩ := read_nan s hc hr2
    unfold Format.order at h1
    rw [e, ht] at h1
    simp [Datum.order] at h1
theorem order_self {x n : Nat} (h : Fl x n) : double.order x x = some .eq := by
  obtain ⟨s, r, e, h1, -⟩ := h
  rw [e, order_word s s h1 h1]
  simp
theorem order_zero {x : Nat} : (double.order x 0 == some .eq) = true → double.order 0 x = some .eq := by
  intro h2
  have e : double.order 0 x = (double.order x 0).map Ordering.swap := order_swap _ _
  rw [e]
  simp only [beq_iff_eq] at h2
  rw [h2]
  rfl

/-- What max(d, 0) gives; what min(d, 1) gives. -/
def mxF (d : Nat) : Nat := match double.order d 0 with
  | some .lt => 0
  | some .gt => d
  | some .eq => if (double.read d).neg then 0 else d
  | none => 0
def mnF (d : Nat) : Nat := match double.order d oneW with
  | some .lt => d
  | some .gt => oneW
  | some .eq => if (double.read d).neg then d else oneW
  | none => 0
/-- And the document's own. -/
def d1F (d : Nat) : Nat := if (double.order d 0 == some .lt) = true then 0 else d
def d2F (d : Nat) : Nat := if (double.order (d1F d) oneW == some .gt) = true then oneW else d1F d
/-- Within 0 to 1. -/
def Cl (q : Nat) : Prop := ∃ (s : Bool) (r : Nat), q = double.word s r ∧ r < double.infRung ∧ un r ≤ 1 * 2 ^ 1074 ∧ (s = true → r = 0)
theorem nn_order {d c : Nat} (h : NN d) {t : Bool} {r : Nat} (hc : c = double.word t r) (hr : r < double.infRung) : ∃ o, double.order d c = some o := by
  obtain ⟨s, r', e, h1⟩ := h
  rcases Nat.lt_or_eq_of_le h1 with h2 | h2
  · rw [e, hc, order_word s t h2 hr]; exact ⟨_, rfl⟩
  · unfold Format.order
    rw [e, hc, h2, read_inf, read_word t hr]
    exact ⟨_, rfl⟩
theorem ord01 : double.order 0 oneW = some .lt := by decide +kernel
theorem clamp {d : Nat} (h : NN d) : (mnF (mxF d) = d2F d ∨ (mnF (mxF d) = 0 ∧ d2F d = double.word true 0)) ∧ Cl (d2F d) ∧ NN (mxF d) := by
  have c0 : Cl 0 := ⟨false, 0, rfl, zero_lt', by rw [un_zero]; exact Nat.zero_le _, fun h => by cases h⟩
  have c1 : Cl oneW := ⟨false, oneW, rfl, one_lt, Nat.le_of_eq un_one, fun h => by cases h⟩
  have n0 : NN 0 := ⟨false, 0, rfl, Nat.zero_le _⟩
  have hn := h
  obtain ⟨s, r, e, h1⟩ := h
  rcases Nat.lt_or_eq_of_le h1 with h2 | h2
  · have ho := order_word s false h2 zero_lt'
    have ho1 := order_word s false h2 one_lt
    rw [← e, ← zero_word] at ho
    rw [← e, ← one_word] at ho1
    rw [un_zero] at ho
    have hr := read_word s h2
    rw [← e] at hr
    cases s
    · -- not below 0
      simp only [si, Bool.false_eq_true, if_false] at ho ho1
      by_cases hz : un r = 0
      · have hr0 : r = 0 := un_inj (hz.trans un_zero.symm)
        have hd : d = 0 := by rw [e, hr0]; rfl
        subst hd
        have q : double.order 0 0 = some .eq := by decide +kernel
        have g1 : mxF 0 = 0 := by unfold mxF; rw [q]; simp
        have g2 : d1F 0 = 0 := by unfold d1F; rw [q]; simp
        have g3 : d2F 0 = 0 := by unfold d2F; rw [g2, ord01]; simp
        have g4 : mnF 0 = 0 := by unfold mnF; rw [ord01]
        rw [g1, g3, g4]
        exact ⟨.inl rfl, c0, n0⟩
      · have hgt : double.order d 0 = some .gt := by rw [ho, Int.compare_eq_gt.2 (by omega)]
        have g1 : mxF d = d := by unfold mxF; rw [hgt]
        have g2 : d1F d = d := by unfold d1F; rw [hgt]; simp
        rw [g1]
        have hu := un_one
        rcases Nat.lt_trichotomy (un r) (un oneW) with h3 | h3 | h3
        · rw [Int.compare_eq_lt.2 (by omega)] at ho1
          have g3 : d2F d = d := by unfold d2F; rw [g2, ho1]; simp
          have g4 : mnF d = d := by unfold mnF; rw [ho1]
          rw [g3, g4]
          exact ⟨.inl rfl, ⟨false, r, e, h2, by rw [← hu]; exact Nat.le_of_lt h3, fun h => by cases h⟩, hn⟩
        · have hd : d = oneW := by rw [e, un_inj h3]; rfl
          have ho2 : double.order d oneW = some .eq := by rw [ho1, h3]; simp
          have g3 : d2F d = oneW := by unfold d2F; rw [g2, ho2, hd]; simp
          have g4 : mnF d = oneW := by unfold mnF; rw [ho2, hr]; rfl
          rw [g3, g4]
          exact ⟨.inl rfl, c1, hn⟩
        · rw [Int.compare_eq_gt.2 (by omega)] at ho1
          have g3 : d2F d = oneW := by unfold d2F; rw [g2, ho1]; simp
          have g4 : mnF d = oneW := by unfold mnF; rw [ho1]
          rw [g3, g4]
          exact ⟨.inl rfl, c1, hn⟩
    · simp only [si, Bool.false_eq_true, if_true, if_false] at ho ho1
      by_cases hz : un r = 0
      · have hr0 : r = 0 := un_inj (hz.trans un_zero.symm)
        have hd : d = double.word true 0 := by rw [e, hr0]
        rw [hd]
        have q : double.order (double.word true 0) 0 = some .eq := by decide +kernel
        have q1 : double.order (double.word true 0) oneW = some .lt := by decide +kernel
        have q2 : (double.read (double.word true 0)).neg = true := by decide +kernel
        have g1 : mxF (double.word true 0) = 0 := by unfold mxF; rw [q]; simp only [q2, if_true]
        have g2 : d1F (double.word true 0) = double.word true 0 := by unfold d1F; rw [q]; simp
        have g3 : d2F (double.word true 0) = double.word true 0 := by unfold d2F; rw [g2, q1]; simp
        have g4 : mnF 0 = 0 := by unfold mnF; rw [ord01]
        rw [g1, g3, g4]
        exact ⟨.inr ⟨rfl, rfl⟩, ⟨true, 0, rfl, zero_lt', by rw [un_zero]; exact Nat.zero_le _, fun _ => rfl⟩, n0⟩
      · have hlt : double.order d 0 = some .lt := by rw [ho, Int.compare_eq_lt.2 (by omega)]
        have g1 : mxF d = 0 := by unfold mxF; rw [hlt]
        have g2 : d1F d = 0 := by unfold d1F; rw [hlt]; simp
        have g3 : d2F d = 0 := by unfold d2F; rw [g2, ord01]; simp
        have g4 : mnF 0 = 0 := by unfold mnF; rw [ord01]
        rw [g1, g3, g4]
        exact ⟨.inl rfl, c0, n0⟩
  · subst h2
    cases s
    · have hgt : double.order d 0 = some .gt := by rw [e]; decide +kernel
      have hgt1 : double.order d oneW = some .gt := by rw [e]; decide +kernel
      have g1 : mxF d = d := by unfold mxF; rw [hgt]
      have g2 : d1F d = d := by unfold d1F; rw [hgt]; simp
      have g3 : d2F d = oneW := by unfold d2F; rw [g2, hgt1]; simp
      have g4 : mnF d = oneW := by unfold mnF; rw [hgt1]
      rw [g1, g3, g4]
      exact ⟨.inl rfl, c1, hn⟩
    · have hlt : double.order d 0 = some .lt := by rw [e]; decide +kernel
      have g1 : mxF d = 0 := by unfold mxF; rw [hlt]
      have g2 : d1F d = 0 := by unfold d1F; rw [hlt]; simp
      have g3 : d2F d = 0 := by unfold d2F; rw [g2, ord01]; simp
      have g4 : mnF 0 = 0 := by unfold mnF; rw [ord01]
      rw [g1, g3, g4]
      exact ⟨.inl rfl, c0, n0⟩
theorem div_nn {x : Nat} (h : NN x) : ∃ z, double.div x w800 = some z ∧ NN z := by
  obtain ⟨s, r, e, h1⟩ := h
  have h8 : double.read w800 = .number false 7036874417766400 (-43) := by decide +kernel
  rcases Nat.lt_or_eq_of_le h1 with h2 | h2
  · unfold Format.div
    rw [e, read_word s h2, h8]
    exact ⟨_, rfl, write_nn _ _ _⟩
  · unfold Format.div
    rw [e, h2, read_inf, h8]
    exact ⟨_, rfl, ⟨_, _, rfl, Nat.le_refl _⟩⟩
theorem add_nn {x : Nat} (h : NN x) : ∃ z, double.add x halfW = some z ∧ NN z := by
  obtain ⟨s, r, e, h1⟩ := h
  rcases Nat.lt_or_eq_of_le h1 with h2 | h2
  · obtain ⟨u, mag, k, e2, -⟩ := sum_words s false h2 half_lt
    unfold Format.add
    rw [e, half_word, e2]
    exact ⟨_, rfl, write_nn _ _ _⟩
  · unfold Format.add
    rw [e, h2, read_inf, half_word, read_word false half_lt]
    exact ⟨_, rfl, ⟨_, _, rfl, Nat.le_refl _⟩⟩
theorem sub_cl {h : Int} {q : Nat} (hq : Cl q) : ∃ z, double.sub (sW h) q = some z ∧ Fl z 1 := by
  obtain ⟨s, r, e, h1, h2, h3⟩ := hq
  have hs : ∃ R, sW h = double.word false R ∧ R < double.infRung ∧ un R ≤ 1 * 2 ^ 1074 := by
    unfold sW
    split
    · exact ⟨0, rfl, zero_lt', by rw [un_zero]; exact Nat.zero_le _⟩
    · split
      · exact ⟨halfW, rfl, half_lt, un_half⟩
      · exact ⟨oneW, rfl, one_lt, Nat.le_of_eq un_one⟩
  obtain ⟨R, e2, hR, hu⟩ := hs
  refine Fl.dif e2 hR e h1 1 (by omega) (by omega) ?_
  cases s
  · simp only [si, Bool.not_false, Bool.false_eq_true, if_false, if_true]
    omega
  · have := h3 rfl
    subst this
    rw [un_zero]
    simp only [si, Bool.not_true, Bool.false_eq_true, if_false]
    omega
theorem sub_same (h : Int) : double.sub (sW h) 0 = double.sub (sW h) (double.word true 0) := by
  unfold sW
  split
  · decide +kernel
  · split <;> decide +kernel

/-- What the first one's rating grows by. -/
def chg (a b : Nat) (h : Int) (k : Nat) : Nat :=
  (double.mul k ((double.sub (sW h) (d2F ((double.add ((double.div ((double.sub a b).getD 0) w800).getD 0) halfW).getD 0))).getD 0)).getD 0
theorem chg_ok {a b k n : Nat} (ha : Fl a n) (hb : Fl b n) (h : Int) (hk : Fl k 1000000) (h0 : 0 < n) (hn : n < 2 ^ 52) : ∃ d1 d2 d3 t, double.sub a b = some d1 ∧ double.div d1 w800 = some d2 ∧ double.add d2 halfW = some d3 ∧ NN d3 ∧ NN (mxF d3) ∧ double.sub (sW h) (mnF (mxF d3)) = some t ∧ double.sub (sW h) (d2F d3) = some t ∧ double.mul k t = some (chg a b h k) ∧ Fl (chg a b h k) 1000000 := by
  obtain ⟨d1, e1, n1⟩ := Fl.sub ha hb (by omega) (by omega)
  obtain ⟨d2, e2, n2⟩ := div_nn n1.nn
  obtain ⟨d3, e3, n3⟩ := add_nn n2
  obtain ⟨c1, c2, c3⟩ := clamp n3
  obtain ⟨t, e4, n4⟩ := sub_cl (h := h) c2
  obtain ⟨c, e5, n5⟩ := Fl.mul hk n4 (by omega) (by omega)
  have ec : chg a b h k = c := by
    unfold chg
    rw [e1, Option.getD_some, e2, Option.getD_some, e3, Option.getD_some, e4, Option.getD_some, e5, Option.getD_some]
  refine ⟨d1, d2, d3, t, e1, e2, e3, n3, c3, ?_, e4, by rw [ec]; exact e5, by rw [ec]; exact n5⟩
  rcases c1 with e | ⟨ea, eb⟩
  · rw [e]; exact e4
  · rw [ea, sub_same, ← eb]; exact e4
end Go.Proofs.Ytdpjkfmhmjgokaa
