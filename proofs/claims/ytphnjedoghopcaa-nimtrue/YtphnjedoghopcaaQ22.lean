/-
  package nim, walked: each.
-/
import Derived.Test.YtphnjedoghopcaaQ21
import Derived.Laws.BitsAllLaws
import Derived.Shelf.Abstract
namespace Go.Proofs.Ytphnjedoghopcaa
open Go.RowKit
attribute [local go_sem ↓] Go.wp_at_zero Go.wp_at_succ

/-- A code's digits. -/
def digs (d : ByteArray) : List Nat := d.data.toList.map fun c => c.toNat - 48
theorem digs_len (d : ByteArray) : (digs d).length = d.size := by unfold digs; rw [List.length_map]; exact Array.length_toList
theorem digs_at {d : ByteArray} {i : Nat} (h : i < d.size) : (digs d)[i]! = d[i].toNat - 48 := by
  rw [getElem!_pos _ i (by rw [digs_len]; exact h)]; simp [digs]; rfl
theorem bit_facts : ∀ q, q < 8 → (q &&& 1 = q % 2) ∧ ((q &&& 2 != 0) = decide (q / 2 % 2 = 1)) ∧ ((q &&& 4 == 0) = !decide (q / 4 % 2 = 1)) := by decide
theorem two_more (rest a : Nat) : ∀ k, a < k → ∃ R, two rest k = two rest a ++ ([a + 1, rest - (a + 1)] :: R)
  | 0, h => by omega
  | k + 1, h => by
    rcases Nat.lt_succ_iff_lt_or_eq.1 h with h1 | h1
    · obtain ⟨R, hR⟩ := two_more rest a k h1
      exact ⟨R ++ [[k + 1, rest - (k + 1)]], by rw [two_succ, hR, List.append_assoc]; rfl⟩
    · subst h1
      exact ⟨[], by rw [two_succ]⟩
theorem isIs_nil (w : World) (B : Nat) : isIs w B none 0 (natI []) := ⟨Nat.le_refl _, by unfold maxLen; omega, fun h => absurd rfl h⟩
theorem isIs_one (w : World) (x : Nat) : isIs (w.alloc (.cells #[.int .i64 (x : Int)] 3 (0, 0))) (w.alloc (.cells #[.int .i64 (x : Int)] 3 (0, 0))).heap.size (some ⟨w.heap.size, 0, none⟩) 1 (natI [x]) := by
  refine ⟨Nat.le_refl _, by unfold maxLen; omega, fun _ => ⟨w.heap.size, 0, rfl, by simp, fun k y hy => ?_⟩⟩
  match k, hy with
  | 0, hy => simp [natI] at hy; subst hy; simp
theorem isIs_two (w : World) (x y : Nat) : isIs (w.alloc (.cells #[.int .i64 (x : Int), .int .i64 (y : Int)] 3 (0, 0))) (w.alloc (.cells #[.int .i64 (x : Int), .int .i64 (y : Int)] 3 (0, 0))).heap.size (some ⟨w.heap.size, 0, none⟩) 2 (natI [x, y]) := by
  refine ⟨Nat.le_refl _, by unfold maxLen; omega, fun _ => ⟨w.heap.size, 0, rfl, by simp, fun k z hz => ?_⟩⟩
  match k, hz with
  | 0, hz => simp [natI] at hz; subst hz; simp
  | 1, hz => simp [natI] at hz; subst hz; simp
/-- Enough, or all of Q was handed on. -/
def eP (I : List (List Nat) → World → Prop) (stop : List Nat → Bool) (T Q : List (List Nat)) (b : Bool) (w : World) : Prop := (b = true ∧ I (upTo stop T) w) ∨ (b = false ∧ I Q w ∧ ∀ y ∈ Q, stop y = false)
/-- What each leaves: all that was handed on, up to the first that was enough. -/
structure EachEnd (I : List (List Nat) → World → Prop) (l : List (List Nat)) (w : World) (e : Ending) (w' : World) : Prop where
  ret : e = .returned (.tuple #[])
  inv : I l w'

set_option maxHeartbeats 4000000 in
set_option maxRecDepth 100000 in
theorem each_any (d : ByteArray) (n : Nat) (F : FuncId) (cs : Array Value) (stop : List Nat → Bool) (I : List (List Nat) → World → Prop) (w : World)
    (hd6 : d.size ≤ 6) (hdig : d.data.toList.all digB = true) (hn : n ≤ 400)
    (hE : ∀ args (u : World), (callFunc F args).run Try.prog u = .ok (.enter F args) u)
    (hI : ∀ (P : List (List Nat)) (u : World) (o : Obj), I P u → I P (u.alloc o))
    (hC : ∀ (P : List (List Nat)) (x : List Nat) (ao : Option Addr) (cap : Nat) (u : World), (∃ R, tks (digs d) n = P ++ x :: R) → (∀ y ∈ P, stop y = false) → I P u → isIs u u.heap.size ao cap (natI x) → (ao = none → cap = 0) →
      Calls Try.prog F (#[.slice ao x.length cap] ++ cs) u fun e u' => e = .returned (.bool (stop x)) ∧ I (P ++ [x]) u')
    (h0 : I [] w) :
    Calls Try.prog 28 #[.string d, .int .i64 (n : Int), .func (.func F) #[] cs] w fun e w' => EachEnd I (upTo stop (tks (digs d) n)) w e w' := by
  obtain ⟨m, hm⟩ : ∃ m, m = min n d.size := ⟨_, rfl⟩
  have hmi : min (n : Int) (d.size : Int) = (m : Int) := by omega
  have hmn : m ≤ n := by omega
  have hmd : m ≤ d.size := by omega
  obtain ⟨T, hT⟩ : ∃ T, T = tks (digs d) n := ⟨_, rfl⟩
  have hTm : T = tkTo (digs d) n m := by rw [hT, hm]; unfold tks; rw [digs_len]
  have hTat : ∀ k, k < m → ∃ R, T = tkTo (digs d) n k ++ (tk1 (digs d)[k]! (n - (k + 1)) ++ R) := fun k hk => by rw [hT]; exact tks_at (digs d) (by rw [digs_len]; omega)
  rw [← hT] at hC ⊢
  have HTM := hide hTm
  have HTAT := hide hTat
  have HC := hide hC
  have HI := hide hI
  have HDG := hide hdig
  have H0 := hide h0
  clear hm hT hTm hTat hC hI hdig h0
  go_enter Try.func28, Try.ntmps28
  go_upto_region 0 with fail
  go_cut [13, 14] (fun mv iv wz => mv = .int .i64 (m : Int) ∧ iv = .int .i64 0 ∧ wz = w)
  case first =>
    by_cases hnd : (n : Int) ≤ (d.size : Int)
    · have hmx : (n : Int) = (m : Int) := by omega
      go_wp2
      all_goals go_meet
      all_goals exact ⟨by first | rfl | (rw [hmx]) | omega, rfl, rfl⟩
    · have hmx : (d.size : Int) = (m : Int) := by omega
      go_wp2
      all_goals go_meet
      all_goals exact ⟨by first | rfl | (rw [hmx]) | omega, rfl, rfl⟩
  case rest =>
  obtain ⟨rfl, rfl, rfl⟩ := hcut
  clear hmi
  go_wp2
  go_loopw [14] (fun iv wr => ∃ i : Nat, i ≤ m ∧ iv = .int .i64 (i : Int) ∧ Hid (I (tkTo (digs d) n i) wr) ∧ Hid (∀ y ∈ tkTo (digs d) n i, stop y = false)) (fun iv _ => m - (intOf iv).toNat)
  case atStart => exact ⟨0, Nat.zero_le _, rfl, H0, hide (fun y hy => by simp [tkTo] at hy)⟩
  case round =>
    obtain ⟨i, hi, rfl, HIW, HS⟩ := hrel
    clear H0
    by_cases hlt : i < m
    · have hlti : (i : Int) < (m : Int) := by omega
      have hi0 : (0 : Int) ≤ (i : Int) := by omega
      have hid : i < d.size := by omega
      have hidi : (i : Int) < (d.size : Int) := by omega
      have hdb : digB d[i] = true := List.all_eq_true.1 (unhide HDG) _ (List.getElem_mem (l := d.data.toList) (by rw [Array.length_toList]; exact hid))
      unfold digB at hdb
      rw [Bool.and_eq_true, decide_eq_true_eq, decide_eq_true_eq] at hdb
      obtain ⟨R, hR⟩ := unhide HTAT i hlt
      rw [digs_at hid] at hR
      have hsu : tkTo (digs d) n (i + 1) = tkTo (digs d) n i ++ tk1 (d[i].toNat - 48) (n - (i + 1)) := by rw [tkTo_succ, digs_at hid]
      obtain ⟨q, hq⟩ : ∃ q, q = d[i].toNat - 48 := ⟨_, rfl⟩
      have hq8 : q < 8 := by omega
      have hqw : IntKind.u8.wrap ((d[i].toNat : Int) - 48) = (q : Int) := by rw [IntKind.wrap_u8']; omega
      rw [← hq] at hR hsu
      obtain ⟨rest, hrest⟩ : ∃ rest, rest = n - (i + 1) := ⟨_, rfl⟩
      have hri : (n : Int) - ((i : Int) + 1) = (rest : Int) := by omega
      have hrb : rest ≤ 400 := by omega
      rw [← hrest] at hR hsu
      obtain ⟨P, hP⟩ : ∃ P, P = tkTo (digs d) n i := ⟨_, rfl⟩
      rw [← hP] at hR hsu HIW HS
      obtain ⟨f1, f2, f4⟩ := bit_facts q hq8
      have a1 : bits .and .u8 (q : Int) 1 = ((q % 2 : Nat) : Int) := by have := u8_and_nat q 1 (by omega) (by omega); rw [f1] at this; exact this
      have a2 : bits .and .u8 (q : Int) 2 = ((q &&& 2 : Nat) : Int) := u8_and_nat q 2 (by omega) (by omega)
      have a4 : bits .and .u8 (q : Int) 4 = ((q &&& 4 : Nat) : Int) := u8_and_nat q 4 (by omega) (by omega)
      obtain ⟨b1, hb1⟩ : ∃ b, b = decide (q % 2 = 1) := ⟨_, rfl⟩
      obtain ⟨b2, hb2⟩ : ∃ b, b = decide (q / 2 % 2 = 1) := ⟨_, rfl⟩
      obtain ⟨b4, hb4⟩ : ∃ b, b = decide (q / 4 % 2 = 1) := ⟨_, rfl⟩
      rw [← hb2] at f2
      rw [← hb4] at f4
      have n1 : (((q % 2 : Nat) : Int) != 0) = b1 := by
        rw [hb1]
        rcases Nat.mod_two_eq_zero_or_one q with h | h <;> rw [h] <;> rfl
      have n2 : (((q &&& 2 : Nat) : Int) != 0) = b2 := by rw [← f2]; exact Bool.eq_iff_iff.2 (by simp)
      have n4 : (((q &&& 4 : Nat) : Int) == 0) = !b4 := by rw [← f4]; exact Bool.eq_iff_iff.2 (by simp)
      obtain ⟨A1, hA1⟩ : ∃ A1, A1 = q % 2 := ⟨_, rfl⟩
      obtain ⟨A2, hA2⟩ : ∃ A2, A2 = q &&& 2 := ⟨_, rfl⟩
      obtain ⟨A4, hA4⟩ : ∃ A4, A4 = q &&& 4 := ⟨_, rfl⟩
      rw [← hA1] at a1 n1
      rw [← hA2] at a2 n2
      rw [← hA4] at a4 n4
      have o1 : one1 q rest = if b1 = true ∧ rest = 0 then [[]] else [] := by unfold one1; rw [hb1]; simp
      have o2 : one2 q rest = if b2 = true ∧ 0 < rest then [[rest]] else [] := by unfold one2; rw [hb2]; simp
      have o4 : one4 q rest = if b4 = true then two rest (rest / 2) else [] := by unfold one4; rw [hb4]; simp
      have htk : tk1 q rest = one1 q rest ++ (one2 q rest ++ one4 q rest) := rfl
      rw [htk] at hR hsu
      generalize one1 q rest = p1 at *
      generalize one2 q rest = p2 at *
      generalize one4 q rest = p4 at *
      have HR := hide hR
      have HSU := hide hsu
      have HO1 := hide o1
      have HO2 := hide o2
      have HO4 := hide o4
      clear hR hsu o1 o2 o4 htk hq hrest hP hb1 hb2 hb4 hA1 hA2 hA4 f1 f2 f4 hdb
      rename World => wi
      go_upto_region 4 with fail
      go_cut [35] (fun v wz => ∃ b : Bool, v = .bool b ∧ Hid (eP I stop T (P ++ p1) b wz))
      case first =>
        cases b1 with
        | false =>
          have HF : Hid (eP I stop T (P ++ p1) false wi) := hide (.inr (by rw [unhide HO1, if_neg (by simp), List.append_nil]; exact ⟨rfl, unhide HIW, unhide HS⟩))
          go_wp2
          go_meet
          case rel => exact ⟨false, rfl, HF⟩
        | true =>
          by_cases hr0 : rest = 0
          · have hr0i : ((rest : Int) == 0) = true := by simp [hr0]
            have hp1 : p1 = [[]] := by rw [unhide HO1, if_pos ⟨rfl, hr0⟩]
            have hmem : ∃ R, T = P ++ [] :: R := ⟨p2 ++ p4 ++ R, by rw [unhide HR, hp1]; simp⟩
            have HCC := hide (unhide HC P [] none 0 wi hmem (unhide HS) (unhide HIW) (isIs_nil _ _) (fun _ => rfl))
            have HHIT : Hid (stop [] = true → upTo stop T = P ++ [[]]) := hide (fun h => by rw [unhide HR, hp1]; exact upTo_hit stop P [] _ (unhide HS) h)
            have HP1 := hide hp1
            clear hr0 hp1 hmem
            go_wp2_with fail
            refine (unhide HCC).mono ?_
            rintro e w1 ⟨rfl, hi1⟩
            have HF : Hid (eP I stop T (P ++ p1) (stop []) w1) := hide (by
              unfold eP
              cases hst : stop [] with
              | true => exact .inl ⟨rfl, by rw [unhide HHIT hst]; exact hi1⟩
              | false => exact .inr ⟨rfl, by rw [unhide HP1]; exact hi1, fun y hy => by
                  rw [unhide HP1] at hy
                  rcases List.mem_append.1 hy with hy | hy
                  · exact unhide HS y hy
                  · simp only [List.mem_singleton] at hy; rw [hy]; exact hst⟩)
            clear hi1
            generalize stop [] = sb at *
            go_wp2
            go_meet
            case rel => exact ⟨sb, rfl, HF⟩
          · have hr0i : ((rest : Int) == 0) = false := by simp; omega
            have HF : Hid (eP I stop T (P ++ p1) false wi) := hide (.inr (by rw [unhide HO1, if_neg (fun h => hr0 h.2), List.append_nil]; exact ⟨rfl, unhide HIW, unhide HS⟩))
            clear hr0
            go_wp2
            go_meet
            case rel => exact ⟨false, rfl, HF⟩
      case rest =>
      obtain ⟨b, rfl, HB⟩ := hcut
      clear HIW HS HO1 n1 a1
      cases b with
      | true =>
        have HE : Hid (I (upTo stop T) wc) := hide (by
          rcases unhide HB with h | h
          · exact h.2
          · cases h.1)
        go_wp2
        exact bodyPost_ret (results_none rfl _ _ _) rfl ⟨rfl, unhide HE⟩
      | false =>
      have hB : I (P ++ p1) wc ∧ ∀ y ∈ P ++ p1, stop y = false := by
        rcases unhide HB with h | h
        · cases h.1
        · exact h.2
      obtain ⟨P1, hP1⟩ : ∃ P1, P1 = P ++ p1 := ⟨_, rfl⟩
      rw [← hP1] at hB
      have HI1 := hide hB.1
      have HS1 := hide hB.2
      have HR1 : Hid (T = P1 ++ (p2 ++ (p4 ++ R))) := hide (by rw [unhide HR, hP1]; simp [List.append_assoc])
      have HSU1 : Hid (tkTo (digs d) n (i + 1) = P1 ++ (p2 ++ p4)) := hide (by rw [unhide HSU, hP1]; simp [List.append_assoc])
      clear hB HB hP1 HR HSU
      rename World => wj
      go_upto_region 5 with fail
      go_cut [48] (fun v wz => ∃ b : Bool, v = .bool b ∧ Hid (eP I stop T (P1 ++ p2) b wz))
      case first =>
        cases b2 with
        | false =>
          have HF : Hid (eP I stop T (P1 ++ p2) false wj) := hide (.inr (by rw [unhide HO2, if_neg (by simp), List.append_nil]; exact ⟨rfl, unhide HI1, unhide HS1⟩))
          go_wp2
          go_meet
          case rel => exact ⟨false, rfl, HF⟩
        | true =>
          by_cases hr0 : 0 < rest
          · have hr0i : (0 : Int) < (rest : Int) := by omega
            have hp2 : p2 = [[rest]] := by rw [unhide HO2, if_pos ⟨rfl, hr0⟩]
            have hmem : ∃ R, T = P1 ++ [rest] :: R := ⟨p4 ++ R, by rw [unhide HR1, hp2]; simp⟩
            have HCC := hide (unhide HC P1 [rest] _ 1 _ hmem (unhide HS1) (unhide HI _ _ (.cells #[.int .i64 (rest : Int)] 3 (0, 0)) (unhide HI1)) (isIs_one wj rest) (fun h => by cases h))
            have HHIT : Hid (stop [rest] = true → upTo stop T = P1 ++ [[rest]]) := hide (fun h => by rw [unhide HR1, hp2]; exact upTo_hit stop P1 [rest] _ (unhide HS1) h)
            have HP2 := hide hp2
            clear hr0 hp2 hmem
            go_wp2_with fail
            refine (unhide HCC).mono ?_
            rintro e w1 ⟨rfl, hi1⟩
            have HF : Hid (eP I stop T (P1 ++ p2) (stop [rest]) w1) := hide (by
              unfold eP
              cases hst : stop [rest] with
              | true => exact .inl ⟨rfl, by rw [unhide HHIT hst]; exact hi1⟩
              | false => exact .inr ⟨rfl, by rw [unhide HP2]; exact hi1, fun y hy => by
                  rw [unhide HP2] at hy
                  rcases List.mem_append.1 hy with hy | hy
                  · exact unhide HS1 y hy
                  · simp only [List.mem_singleton] at hy; rw [hy]; exact hst⟩)
            clear hi1
            generalize stop [rest] = sb at *
            go_wp2
            go_meet
            case rel => exact ⟨sb, rfl, HF⟩
          · have hr0i : ¬ (0 : Int) < (rest : Int) := by omega
            have HF : Hid (eP I stop T (P1 ++ p2) false wj) := hide (.inr (by rw [unhide HO2, if_neg (fun h => hr0 h.2), List.append_nil]; exact ⟨rfl, unhide HI1, unhide HS1⟩))
            clear hr0
            go_wp2
            go_meet
            case rel => exact ⟨false, rfl, HF⟩
      case rest =>
      obtain ⟨b, rfl, HB⟩ := hcut
      clear HI1 HS1 HO2 n2 a2
      cases b with
      | true =>
        have HE : Hid (I (upTo stop T) wc) := hide (by
          rcases unhide HB with h | h
          · exact h.2
          · cases h.1)
        go_wp2
        exact bodyPost_ret (results_none rfl _ _ _) rfl ⟨rfl, unhide HE⟩
      | false =>
      have hB : I (P1 ++ p2) wc ∧ ∀ y ∈ P1 ++ p2, stop y = false := by
        rcases unhide HB with h | h
        · cases h.1
        · exact h.2
      obtain ⟨P2, hP2⟩ : ∃ P2, P2 = P1 ++ p2 := ⟨_, rfl⟩
      rw [← hP2] at hB
      have HI2 := hide hB.1
      have HS2 := hide hB.2
      have HR2 : Hid (T = P2 ++ (p4 ++ R)) := hide (by rw [unhide HR1, hP2]; simp [List.append_assoc])
      have HSU2 : Hid (tkTo (digs d) n (i + 1) = P2 ++ p4) := hide (by rw [unhide HSU1, hP2]; simp [List.append_assoc])
      clear hB HB hP2 HR1 HSU1
      rename World => wk
      cases b4 with
      | false =>
        have hp4 : p4 = [] := by rw [unhide HO4, if_neg (by simp)]
        have HI3 : Hid (I (tkTo (digs d) n (i + 1)) wk) := hide (by rw [unhide HSU2, hp4, List.append_nil]; exact unhide HI2)
        have HS3 : Hid (∀ y ∈ tkTo (digs d) n (i + 1), stop y = false) := hide (by rw [unhide HSU2, hp4, List.append_nil]; exact unhide HS2)
        clear hp4
        go_wp2
        go_roundw
        case rel => exact ⟨i + 1, by omega, by go_num, HI3, HS3⟩
        case measure => simp only [intOf]; omega
      | true =>
        have hp4 : p4 = two rest (rest / 2) := by rw [unhide HO4, if_pos rfl]
        subst hp4
        obtain ⟨h, hh⟩ : ∃ h, h = rest / 2 := ⟨_, rfl⟩
        rw [← hh] at HR2 HSU2
        have hh1 : 2 * h ≤ rest := by omega
        have hh2 : rest < 2 * h + 2 := by omega
        clear hh HO4
        go_wp2
        go_loopw [9] (fun sv wr => ∃ s : Nat, 1 ≤ s ∧ s ≤ h + 1 ∧ sv = .int .i64 (s : Int) ∧ Hid (I (P2 ++ two rest (s - 1)) wr) ∧ Hid (∀ y ∈ P2 ++ two rest (s - 1), stop y = false)) (fun sv _ => h + 1 - (intOf sv).toNat)
        case atStart => exact ⟨1, Nat.le_refl _, by omega, rfl, hide (by simpa [two] using unhide HI2), hide (by simpa [two] using unhide HS2)⟩
        case round =>
          obtain ⟨s, hs1, hsh, rfl, HIA, HSA⟩ := hrel
          clear HI2 HS2
          rename World => wa
          obtain ⟨a, ha⟩ : ∃ a, a = s - 1 := ⟨_, rfl⟩
          rw [← ha] at HIA HSA
          have hs : s = a + 1 := by omega
          by_cases hlta : a < h
          · obtain ⟨t, ht⟩ : ∃ t, t = rest - (a + 1) := ⟨_, rfl⟩
            have hti : (rest : Int) - (s : Int) = (t : Int) := by omega
            have hle : (s : Int) ≤ (t : Int) := by omega
            obtain ⟨R2, hR2⟩ := two_more rest a h hlta
            have hsx : two rest (a + 1) = two rest a ++ [[s, t]] := by rw [two_succ, hs, ht]
            rw [← ht, ← hs] at hR2
            have hmem : ∃ R, T = (P2 ++ two rest a) ++ [s, t] :: R := ⟨R2 ++ R, by rw [unhide HR2, hR2]; simp⟩
            have HCC := hide (unhide HC (P2 ++ two rest a) [s, t] _ 2 _ hmem (unhide HSA) (unhide HI _ _ (.cells #[.int .i64 (s : Int), .int .i64 (t : Int)] 3 (0, 0)) (unhide HIA)) (isIs_two wa s t) (fun h => by cases h))
            have HHIT : Hid (stop [s, t] = true → upTo stop T = (P2 ++ two rest a) ++ [[s, t]]) := hide (fun hst => by
              rw [unhide HR2, hR2]
              have : P2 ++ (two rest a ++ [s, t] :: R2 ++ R) = (P2 ++ two rest a) ++ [s, t] :: (R2 ++ R) := by simp [List.append_assoc]
              rw [this]
              exact upTo_hit stop (P2 ++ two rest a) [s, t] _ (unhide HSA) hst)
            have HSX := hide hsx
            clear hR2 hsx hmem
            have HSS := hide hs
            clear ha hs ht
            go_wp2_with fail
            refine (unhide HCC).mono ?_
            rintro e w1 ⟨rfl, hi1⟩
            cases hst : stop [s, t] with
            | true =>
              have HE : Hid (I (upTo stop T) w1) := hide (by rw [unhide HHIT hst]; exact hi1)
              clear hi1 hst
              go_wp2
              exact bodyPost_ret (results_none rfl _ _ _) rfl ⟨rfl, unhide HE⟩
            | false =>
              have HI4 : Hid (I (P2 ++ two rest (a + 1)) w1) := hide (by rw [unhide HSX, ← List.append_assoc]; exact hi1)
              have HS4 : Hid (∀ y ∈ P2 ++ two rest (a + 1), stop y = false) := hide (fun y hy => by
                rw [unhide HSX, ← List.append_assoc] at hy
                rcases List.mem_append.1 hy with hy | hy
                · exact unhide HSA y hy
                · simp only [List.mem_singleton] at hy; rw [hy]; exact hst)
              clear hi1 hst
              go_wp2
              go_roundw
              case rel => exact ⟨s + 1, by omega, by omega, by go_num, by rw [Nat.add_sub_cancel, unhide HSS]; exact HI4, by rw [Nat.add_sub_cancel, unhide HSS]; exact HS4⟩
              case measure => simp only [intOf]; omega
          · obtain rfl : a = h := by omega
            clear ha
            have hle : ¬ (s : Int) ≤ (rest : Int) - (s : Int) := by omega
            have HI3 : Hid (I (tkTo (digs d) n (i + 1)) wa) := hide (by rw [unhide HSU2]; exact unhide HIA)
            have HS3 : Hid (∀ y ∈ tkTo (digs d) n (i + 1), stop y = false) := hide (by rw [unhide HSU2]; exact unhide HSA)
            clear hs hlta
            go_wp2
            go_roundw
            case rel => exact ⟨i + 1, by omega, by go_num, HI3, HS3⟩
            case measure => simp only [intOf]; omega
    · have hlti : ¬ (i : Int) < (m : Int) := by omega
      obtain rfl : i = m := by omega
      have HE : Hid (I (upTo stop T) wr) := hide (by rw [unhide HTM, upTo_all stop _ (unhide HS)]; exact unhide HIW)
      go_wp2
      exact bodyPost_ret (results_none rfl _ _ _) rfl ⟨rfl, unhide HE⟩
end Go.Proofs.Ytphnjedoghopcaa
