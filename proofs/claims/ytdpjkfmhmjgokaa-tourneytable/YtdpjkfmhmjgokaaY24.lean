/-
  gamelaw.TourneyTable, walked.
-/
import Derived.Test.YtdpjkfmhmjgokaaY5
import Derived.Test.YtdpjkfmhmjgokaaY6
import Derived.Test.YtdpjkfmhmjgokaaY17
import Derived.Test.YtdpjkfmhmjgokaaY18
import Derived.Test.YtdpjkfmhmjgokaaY22
import Derived.Test.YtdpjkfmhmjgokaaY23
import Derived.Deep.CutRange
namespace Go.Proofs.Ytdpjkfmhmjgokaa
open Go.RowKit Ieee
attribute [local go_sem ↓] Go.wp_at_zero Go.wp_at_succ

/-- What Table takes. -/
def okTb (n : Int) (l : List Re) : Bool := decide (0 ≤ n) && decide (n ≤ 200) && okLB n l
/-- What Table handed back. -/
def TabR (n : Int) (l : List Re) (base : Nat) (oa : Option Addr) (na ca : Nat) (ev : Int) (u : World) : Prop :=
  (okTb n l = false ∧ na = 0 ∧ ev = 1) ∨ (okTb n l = true ∧ ev = 0 ∧ ∃ (m : Nat) (ts : List Rk), n = (m : Int) ∧ m ≤ 200 ∧ okL m l ∧ SoR l m ts ∧ u.ownsRow base 34 3 (.slice oa na ca) ts.length (rvs ts))
theorem TabR.keep {n : Int} {l : List Re} {base : Nat} {oa : Option Addr} {na ca : Nat} {ev : Int} {u u' : World} (h : TabR n l base oa na ca ev u) (hb : Below u.heap.size u u') : TabR n l base oa na ca ev u' := by
  rcases h with h | ⟨h1, h2, m, ts, h3, h4, h5, h6, h7⟩
  · exact .inl h
  · exact .inr ⟨h1, h2, m, ts, h3, h4, h5, h6, row_keep h7 fun g hg => hb.block g (row_block h7 hg).2⟩
theorem okTb_is {n : Int} {l : List Re} : okTb n l = true ↔ 0 ≤ n ∧ n ≤ 200 ∧ okL n l := by
  unfold okTb
  simp only [Bool.and_eq_true, decide_eq_true_eq, and_assoc]
  by_cases h : okL n l
  · simp [okLB_t h, h]
  · simp [okLB_f h, h]
theorem TaE.tab {n : Int} {l : List Re} {w w' : World} {e : Ending} (h : TaE n l w e w') : ∃ oa na ca ev, e = .returned (.tuple #[.slice oa na ca, .int .i64 ev]) ∧ na ≤ 9223372036854775807 ∧ TabR n l w.heap.size oa na ca ev w' := by
  rcases h.out with ⟨h1, h2⟩ | ⟨m, g, ts, h1, h2, h3, h4, h5, h6, h7, h8⟩
  · refine ⟨none, 0, 0, 1, h2, by omega, .inl ⟨?_, rfl, rfl⟩⟩
    cases hq : okTb n l
    · rfl
    · exact absurd (okTb_is.1 hq) h1
  · refine ⟨_, m, m, 0, h4, by omega, .inr ⟨okTb_is.2 (by rw [h1]; exact ⟨by omega, by omega, h3⟩), rfl, m, ts, h1, h2, h3, ⟨h7, h8⟩, by rw [h5]; exact h6⟩⟩
/-- What Rate takes, ahead of the ratings. -/
def okRb (xs : List Nat) (l : List Re) (k : Nat) : Bool := decide (xs.length ≤ 200) && okLB xs.length l && fairB k
/-- What Rate handed back. -/
def RatR (xs : List Nat) (l : List Re) (k : Nat) (base : Nat) (oa : Option Addr) (na ca : Nat) (ev : Int) (u : World) : Prop :=
  ((okRb xs l k && fairL xs) = false ∧ na = 0 ∧ ev = 1) ∨ ((okRb xs l k && fairL xs) = true ∧ ev = 0 ∧ okRt xs l k ∧ u.ownsRow base 24 1 (.slice oa na ca) ((rat k xs l).map unsF).length (fvs ((rat k xs l).map unsF)))
theorem RatR.keep {xs : List Nat} {l : List Re} {k base : Nat} {oa : Option Addr} {na ca : Nat} {ev : Int} {u u' : World} (h : RatR xs l k base oa na ca ev u) (hb : Below u.heap.size u u') : RatR xs l k base oa na ca ev u' := by
  rcases h with h | ⟨h1, h2, h3, h7⟩
  · exact .inl h
  · exact .inr ⟨h1, h2, h3, row_keep h7 fun g hg => hb.block g (row_block h7 hg).2⟩
theorem okRb_is {xs : List Nat} {l : List Re} {k : Nat} : (okRb xs l k && fairL xs) = true ↔ okRt xs l k := by
  unfold okRb okRt
  simp only [Bool.and_eq_true, decide_eq_true_eq]
  by_cases h : okL xs.length l
  · simp only [okLB_t h, h, true_and, and_true]
    constructor
    · rintro ⟨⟨h1, h2⟩, h3⟩; exact ⟨h1, h3, h2⟩
    · rintro ⟨h1, h3, h2⟩; exact ⟨⟨h1, h2⟩, h3⟩
  · simp [okLB_f h, h]
theorem RtE.rated {xs : List Nat} {l : List Re} {k : Nat} {w w' : World} {e : Ending} (h : RtE xs l k w e w') : ∃ oa na ca ev, e = .returned (.tuple #[.slice oa na ca, .int .i64 ev]) ∧ na ≤ 9223372036854775807 ∧ RatR xs l k w.heap.size oa na ca ev w' := by
  rcases h.out with ⟨h1, h2⟩ | ⟨h1, g, h2, h3⟩
  · refine ⟨none, 0, 0, 1, h2, by omega, .inl ⟨?_, rfl, rfl⟩⟩
    cases hq : (okRb xs l k && fairL xs)
    · rfl
    · exact absurd (okRb_is.1 hq) h1
  · have e := h3.row
    rw [show ((rat k xs l).map unsF).length = xs.length by rw [List.length_map, rat_len]] at e
    refine ⟨_, xs.length, xs.length, 0, h2, by have := h1.1; omega, .inr ⟨okRb_is.2 h1, rfl, h1, ?_⟩⟩
    rw [show ((rat k xs l).map unsF).length = xs.length by rw [List.length_map, rat_len]]
    exact e
theorem rat_same {xs : List Nat} {l : List Re} {k : Nat} (hk : k < 2 ^ 64) (hx : ∀ x ∈ xs, x < 2 ^ 64) (h : okRt xs l k) : ∀ (i x y : Nat), ((rat k xs l).map unsF)[i]? = some x → (rat k xs l)[i]? = some y → FloatKind.f64.format.order x y = some .eq := by
  intro i x y h1 h2
  rw [List.getElem?_map, h2] at h1
  cases h1
  have h3 := List.all_eq_true.1 h.2.2.1
  have := rat_fl (fair_fl hk h.2.2.2) (fun x hxx => fair_fl (hx x hxx) (h3 x hxx)) h.2.1 l.length (Nat.le_refl _) y (by rw [List.take_length]; exact List.mem_of_getElem? h2)
  exact uns_same this

set_option maxHeartbeats 8000000 in
set_option maxRecDepth 100000 in
theorem tourneyTable_any (n : Int) (k : Nat) (hk : k < 2 ^ 64) (xs : List Nat) (hx : ∀ x ∈ xs, x < 2 ^ 64) (l : List Re) (so ao : Option Addr) (sc cap : Nat) (w : World) (hs : isFs w w.heap.size so sc xs) (h : isRs w w.heap.size ao cap l) :
    Calls Try.prog 3 #[.int .i64 n, .slice ao l.length cap, .slice so xs.length sc, .float .f64 k] w fun e w' => e = .returned (.bool true) ∧ Below w.heap.size w w' := by
  have HT := hide (Table_any n l ao cap w h)
  have hsk : ∀ u, Below w.heap.size w u → isFs u u.heap.size so sc xs := fun u hu => hs.keep (fun k hk => hu.block k hk) hu.size
  have hrk : ∀ u, Below w.heap.size w u → isRs u u.heap.size ao cap l := fun u hu => h.keep (fun k hk => hu.block k hk) hu.size
  have HRT : Hid (∀ u, Below w.heap.size w u → Calls Try.prog 7 #[.slice so xs.length sc, .slice ao l.length cap, .float .f64 k] u (RtE xs l k u)) := hide (fun u hu => Rate_any k hk xs hx l so ao sc cap u (hsk u hu) (hrk u hu))
  have HRE : Hid (∀ (m : Int) u, Below w.heap.size w u → Calls Try.prog 8 #[.int .i64 m, .slice ao l.length cap] u fun e w' => e = .returned (.bool (okLB m l)) ∧ Below u.heap.size u w') := hide (fun m u hu => rResults_any m l ao cap u (hrk u hu))
  have HRK : Hid (∀ (m : Nat) u, m ≤ 200 → okL m l → Below w.heap.size w u → Calls Try.prog 10 #[.int .i64 (m : Int), .slice ao l.length cap] u (RsE m l u)) := hide (fun m u hm hl hu => Ranks_walk m hm l hl ao cap u (hrk u hu))
  have HRD : Hid (∀ u, okRt xs l k → Below w.heap.size w u → Calls Try.prog 13 #[.slice so xs.length sc, .slice ao l.length cap, .float .f64 k] u (RdE (rat k xs l) u)) := hide (fun u hok hu => by
    have h3 := List.all_eq_true.1 hok.2.2.1
    exact Rated_walk k (fair_fl hk hok.2.2.2) xs (fun x hxx => fair_fl (hx x hxx) (h3 x hxx)) hok.1 l hok.2.1 so ao sc cap u (hsk u hu) (hrk u hu))
  have HSM := hide (fun hok => rat_same hk hx (l := l) (k := k) hok)
  have HFA : Hid (∀ x u, Calls Try.prog 11 #[.float .f64 x] u fun e w' => e = .returned (.bool (fairB x)) ∧ w' = u) := hide (fun x u => Fair_any x u)
  have HSK := hide hsk
  obtain ⟨N, hN⟩ : ∃ N, N = l.length := ⟨_, rfl⟩
  obtain ⟨M, hM⟩ : ∃ M, M = xs.length := ⟨_, rfl⟩
  have hsc := hs.mx
  have hsl := hs.le
  have hcap := h.mx
  have hle := h.le
  rw [← hM] at hsl
  rw [← hN] at hle
  unfold maxLen at hsc hcap
  obtain ⟨D, hD⟩ : ∃ D : Bool, okTb n l = D := ⟨_, rfl⟩
  obtain ⟨B, hB⟩ : ∃ B : Bool, okRb xs l k = B := ⟨_, rfl⟩
  have HD : Hid ((decide (0 ≤ n) && decide (n ≤ 200) && okLB n l) = D) := hide hD
  have HB : Hid ((decide (M ≤ 200) && okLB M l && fairB k) = B) := hide (by rw [← hB, hM]; rfl)
  have HDE := hide hD
  have HBE := hide hB
  have HM := hide hM
  rw [← hN] at HT HRT HRE HRK HRD
  rw [← hM] at HRT HRD
  rw [← hN, ← hM]
  clear hN hM hs h hsk hrk hD hB hk hx
  go_enter Try.func3, Try.ntmps3
  go_wp2_with fail
  refine (unhide HT).mono ?_
  intro e w1 hT
  obtain ⟨oa, na, ca, ev, rfl, hna, htab⟩ := hT.tab
  have HTB := hide htab
  have HB1 := hide hT.bw
  have HR1 := hide (unhide HRT w1 hT.bw)
  clear hT htab HT HRT
  go_wp2_with fail
  refine (unhide HR1).mono ?_
  intro e w2 hR
  obtain ⟨ob, nb, cb, fv, rfl, hnb, hrat⟩ := hR.rated
  have HTB2 := hide ((unhide HTB).keep hR.bw)
  have HRB2 := hide hrat
  have HB2 := hide ((unhide HB1).trans (hR.bw.mono (unhide HB1).size))
  clear hR hrat HR1 HTB HB1
  go_upto_region 3 with fail
  go_cut [39] from 28 to 38 (fun v wz => v = .bool (!D) ∧ Below w2.heap.size w2 wz)
  case first =>
    clear HRK HRD HSM HFA HSK HTB2 HRB2
    by_cases h1 : n < 0
    · have HY : Hid (D = false) := hide (by rw [← unhide HD]; simp; omega)
      clear HD HRE
      go_wp2_with fail
      go_meet
      case rel => exact ⟨by rw [unhide HY]; rfl, Below.refl _ _⟩
    · by_cases h2 : 200 < n
      · have HY : Hid (D = false) := hide (by rw [← unhide HD]; simp; omega)
        clear HD HRE
        go_wp2_with fail
        go_meet
        case rel => exact ⟨by rw [unhide HY]; rfl, Below.refl _ _⟩
      · have HC := hide (unhide HRE n w2 (unhide HB2))
        obtain ⟨X, hX⟩ : ∃ X, X = okLB n l := ⟨_, rfl⟩
        rw [← hX] at HC
        have HY : Hid (D = X) := hide (by rw [← unhide HD, ← hX]; simp; omega)
        clear HD HRE hX
        go_wp2_with fail
        refine (unhide HC).mono ?_
        rintro e w3 ⟨rfl, hb3⟩
        have HB3 := hide hb3
        clear hb3 HC
        go_wp2_with fail
        go_meet
        case rel => exact ⟨by rw [unhide HY], unhide HB3⟩
  case rest =>
    obtain ⟨rfl, hb3⟩ := hcut
    have HTB3 := hide ((unhide HTB2).keep hb3)
    have HRB3 := hide ((unhide HRB2).keep hb3)
    have HB3 := hide ((unhide HB2).trans (hb3.mono (unhide HB2).size))
    clear hb3 HTB2 HRB2 HB2
    go_upto_if 39 with fail
    go_cut [] from 40 to 56 (fun wz => Below wc.heap.size wc wz)
    case first =>
      clear HRD HSM HFA HSK HRB3 HRE
      cases D
      · obtain ⟨rfl, rfl⟩ : na = 0 ∧ ev = 1 := by
          rcases unhide HTB3 with ⟨-, h1, h2⟩ | ⟨h1, -⟩
          · exact ⟨h1, h2⟩
          · rw [unhide HDE] at h1; cases h1
        go_wp2_with fail
        go_meet
        case rel => exact Below.refl _ _
      · obtain ⟨rfl, m, ts, rfl, hm, hok, hso, hrow⟩ : ev = 0 ∧ ∃ (m : Nat) (ts : List Rk), n = (m : Int) ∧ m ≤ 200 ∧ okL m l ∧ SoR l m ts ∧ wc.ownsRow w.heap.size 34 3 (.slice oa na ca) ts.length (rvs ts) := by
          rcases unhide HTB3 with ⟨h1, -⟩ | ⟨-, h1, h2⟩
          · rw [unhide HDE] at h1; cases h1
          · exact ⟨h1, h2⟩
        have HC := hide (unhide HRK m wc hm hok (unhide HB3))
        have HSO := hide hso
        have HROW := hide hrow
        clear hso hrow HRK HTB3 hok
        go_wp2_with fail
        refine (unhide HC).mono ?_
        rintro e w4 ⟨hb4, v, T, rfl, hT, hrow4⟩
        have eT : T = ts := ord_one hT.perm (unhide HSO).perm hT.ord (unhide HSO).ord
        subst eT
        have HC2 := hide (SameR_same (.slice oa na ca) v _ _ T w4 (row_keep (unhide HROW) fun g hg => hb4.block g (row_block (unhide HROW) hg).2) hrow4)
        obtain ⟨vo, vl, vc, rfl⟩ : ∃ vo vl vc, v = .slice vo vl vc := by
          obtain ⟨vo, vc, e, -⟩ := row_read hrow4
          exact ⟨vo, _, vc, e⟩
        have HB4 := hide hb4
        clear hb4 hT hrow4 HROW HC
        go_wp2_with fail
        refine (unhide HC2).mono ?_
        rintro e w5 ⟨rfl, hb5⟩
        have HB5 := hide ((unhide HB4).trans (hb5.mono (unhide HB4).size))
        clear hb5 HC2 HB4
        go_wp2_with fail
        go_meet
        case rel => exact unhide HB5
    case rest =>
      have HRB4 := hide ((unhide HRB3).keep hcut)
      have HB4 := hide ((unhide HB3).trans (hcut.mono (unhide HB3).size))
      clear hcut HRB3 HB3 HTB3 HRK HDE HD
      go_upto_region 8 with fail
      go_cut [13] from 57 to 69 (fun v wz => v = .bool B ∧ Below wc.heap.size wc wz)
      case first =>
        clear HRD HSM HSK HRB4
        by_cases h1 : M ≤ 200
        · have h1i : (M : Int) ≤ 200 := by omega
          have HC := hide (unhide HRE (M : Int) wc (unhide HB4))
          obtain ⟨X, hX⟩ : ∃ X, X = okLB (M : Int) l := ⟨_, rfl⟩
          rw [← hX] at HC
          obtain ⟨F, hF⟩ : ∃ F, F = fairB k := ⟨_, rfl⟩
          have HFK : Hid (∀ u, Calls Try.prog 11 #[.float .f64 k] u fun e w' => e = .returned (.bool F) ∧ w' = u) := hide (by rw [hF]; exact unhide HFA k)
          have HY : Hid ((X && F) = B) := hide (by rw [← unhide HB, ← hX, ← hF]; simp [h1])
          clear HB HRE hX hF HFA
          go_wp2_with fail
          refine (unhide HC).mono ?_
          rintro e w3 ⟨rfl, hb3⟩
          have HB3 := hide hb3
          clear hb3 HC
          cases X
          · go_wp2_with fail
            go_meet
            case rel => exact ⟨by rw [← unhide HY]; rfl, unhide HB3⟩
          · go_wp2_with fail
            refine (unhide HFK _).mono ?_
            rintro e w4 ⟨rfl, rfl⟩
            go_wp2_with fail
            go_meet
            case rel => exact ⟨by rw [← unhide HY]; rfl, unhide HB3⟩
        · have h1i : ¬ (M : Int) ≤ 200 := by omega
          have HY : Hid (B = false) := hide (by rw [← unhide HB]; simp [h1])
          clear HB HRE HFA
          go_wp2_with fail
          go_meet
          case rel => exact ⟨by rw [unhide HY], Below.refl _ _⟩
      case rest =>
        obtain ⟨rfl, hb5⟩ := hcut
        have HRB5 := hide ((unhide HRB4).keep hb5)
        have HB5 := hide ((unhide HB4).trans (hb5.mono (unhide HB4).size))
        clear hb5 HRB4 HB4 HRE HB
        go_wp2
        go_loopw [13, 72] (fun bv iv wr => ∃ i : Nat, i ≤ M ∧ bv = .bool (B && (xs.take i).all fairB) ∧ iv = .int .i64 (i : Int) ∧ wr = wc) (fun _ iv _ => M - (intOf iv).toNat)
        case atStart => exact ⟨0, Nat.zero_le _, by simp, rfl, rfl⟩
        case round =>
          obtain ⟨i, hi, rfl, rfl, rfl⟩ := hrel
          by_cases hlt : i < M
          · have hlti : (i : Int) < (M : Int) := by omega
            have hi0 : (0 : Int) ≤ (i : Int) := by omega
            obtain ⟨x, hx⟩ : ∃ x, xs[i]? = some x := ⟨_, List.getElem?_eq_getElem (by rw [← unhide HM]; exact hlt)⟩
            obtain ⟨g, off, rfl, hg, c0⟩ := (unhide HSK _ (unhide HB5)).at_ hx
            obtain ⟨X, hX⟩ : ∃ X, X = (B && (xs.take i).all fairB) := ⟨_, rfl⟩
            obtain ⟨F, hF⟩ : ∃ F, F = fairB x := ⟨_, rfl⟩
            have HC := hide (unhide HFA x wr)
            rw [← hF] at HC
            have HY : Hid ((B && (xs.take (i + 1)).all fairB) = (X && F)) := hide (by rw [fairL_take hx, hX, hF, Bool.and_assoc])
            rw [← hX]
            clear hX hF hx
            cases X
            · go_wp2
              go_roundw
              case rel => exact ⟨i + 1, by omega, by rw [unhide HY]; rfl, by go_num, by first | rfl | trivial⟩
              case measure => simp only [intOf]; omega
            · go_wp2_with fail
              refine (unhide HC).mono ?_
              rintro e w4 ⟨rfl, rfl⟩
              clear HC
              go_wp2
              go_roundw
              case rel => exact ⟨i + 1, by omega, by rw [unhide HY]; rfl, by go_num, by first | rfl | trivial⟩
              case measure => simp only [intOf]; omega
          · have hlti : ¬ (i : Int) < (M : Int) := by omega
            have hall : (B && (xs.take i).all fairB) = (okRb xs l k && fairL xs) := by
              rw [List.take_of_length_le (by have := unhide HM; omega), unhide HBE]
              rfl
            rw [hall]
            obtain ⟨X, hX⟩ : ∃ X, X = (okRb xs l k && fairL xs) := ⟨_, rfl⟩
            rw [← hX]
            cases X
            · obtain ⟨rfl, rfl⟩ : nb = 0 ∧ fv = 1 := by
                rcases unhide HRB5 with ⟨-, h1, h2⟩ | ⟨h1, -⟩
                · exact ⟨h1, h2⟩
                · rw [← hX] at h1; cases h1
              clear hX hall HRB5 HRD HSM HFA HSK
              go_wp2
              go_ret
              exact ⟨rfl, unhide HB5⟩
            · obtain ⟨rfl, hok, hrow⟩ : fv = 0 ∧ okRt xs l k ∧ wr.ownsRow w1.heap.size 24 1 (.slice ob nb cb) ((rat k xs l).map unsF).length (fvs ((rat k xs l).map unsF)) := by
                rcases unhide HRB5 with ⟨h1, -⟩ | ⟨-, h1, h2⟩
                · rw [← hX] at h1; cases h1
                · exact ⟨h1, h2⟩
              have HC := hide (unhide HRD wr hok (unhide HB5))
              have HEQ := hide (unhide HSM hok)
              have HROW := hide hrow
              clear hX hall HRB5 HRD HSM HFA HSK hok hrow
              go_wp2_with fail
              refine (unhide HC).mono ?_
              rintro e w6 ⟨hb6, v, rfl, hrow6⟩
              have HC2 := hide (SameF_same (.slice ob nb cb) v _ _ ((rat k xs l).map unsF) (rat k xs l) (by rw [List.length_map]) (unhide HEQ) w6 (row_keep (unhide HROW) fun g hg => hb6.block g (row_block (unhide HROW) hg).2) hrow6)
              obtain ⟨vo, vl, vc, rfl⟩ : ∃ vo vl vc, v = .slice vo vl vc := by
                obtain ⟨vo, vc, e, -⟩ := rowF_read hrow6
                exact ⟨vo, _, vc, e⟩
              have HB6 := hide ((unhide HB5).trans (hb6.mono (unhide HB5).size))
              clear hb6 hrow6 HROW HC
              go_wp2_with fail
              refine (unhide HC2).mono ?_
              rintro e w7 ⟨rfl, hb7⟩
              have HB7 := hide ((unhide HB6).trans (hb7.mono (unhide HB6).size))
              clear hb7 HC2
              go_wp2
              go_ret
              exact ⟨rfl, unhide HB7⟩
end Go.Proofs.Ytdpjkfmhmjgokaa
