/-
  package nim, walked: values, Values.
-/
import Derived.Test.YtphnjedoghopcaaQ4
import Derived.Deep.DeepCutAuto
namespace Go.Proofs.Ytphnjedoghopcaa
open Go.RowKit
attribute [local go_sem ↓] Go.wp_at_zero Go.wp_at_succ

theorem through_any (G : List (List Int)) (ok : OkG G) (ao : Option Addr) (cap b gf gv B : Nat) (h1 : B ≤ gf) (h2 : B ≤ gv) (h3 : gf ≠ gv) (h4 : b ≠ gf) (h5 : b ≠ gv) : ∀ (f : Nat)
    (i : Nat) (F V : List Nat) (w : World), isG w B ao cap G → isWk w b ao G.length cap gf gv → rowN w gf F → rowN w gv V → Dfs G F V → zer F < f → i < G.length → (∀ j : Nat, F[j]! = 1 → Reach G j i) →
    Calls Try.prog 35 #[.pointer (some ⟨b, 0, none⟩), .int .i64 (i : Int)] w fun e w' => ThrEnd G gf gv F V i w e w'
  | 0, _, _, _, _, _, _, _, _, _, hz, _, _ => absurd hz (Nat.not_lt_zero _)
  | f + 1, i, F, V, w, hG, hW, hF, hV, hI, hz, hi, hR => through_step G ok ao cap b gf gv B h1 h2 h3 h4 h5 f (through_any G ok ao cap b gf gv B h1 h2 h3 h4 h5 f) i F V w hG hW hF hV hI hz hi hR
theorem rep0 (n j : Nat) : (List.replicate n 0 : List Nat)[j]! = 0 := by
  by_cases h : j < n
  · rw [getElem!_pos _ j (by simpa using h)]; simp
  · rw [getElem!_neg _ j (by simpa using h)]; rfl
theorem al0 (w : World) (o0 o1 o2 : Obj) : (((w.alloc o0).alloc o1).alloc o2).drew.heap[w.heap.size]? = some o0 := by
  show (((w.alloc o0).alloc o1).alloc o2).heap[w.heap.size]? = some o0
  rw [Below.heap_alloc _ _ _ (by simp; omega), Below.heap_alloc _ _ _ (by simp)]
  exact heap_alloc_new w o0
theorem al1 (w : World) (o0 o1 o2 : Obj) : (((w.alloc o0).alloc o1).alloc o2).drew.heap[w.heap.size + 1]? = some o1 := by
  show (((w.alloc o0).alloc o1).alloc o2).heap[w.heap.size + 1]? = some o1
  rw [Below.heap_alloc _ _ _ (by simp)]
  have := heap_alloc_new (w.alloc o0) o1
  rwa [show (w.alloc o0).heap.size = w.heap.size + 1 by simp] at this
theorem al2 (w : World) (o0 o1 o2 : Obj) : (((w.alloc o0).alloc o1).alloc o2).drew.heap[w.heap.size + 1 + 1]? = some o2 := by
  show (((w.alloc o0).alloc o1).alloc o2).heap[w.heap.size + 1 + 1]? = some o2
  have := heap_alloc_new ((w.alloc o0).alloc o1) o2
  rwa [show ((w.alloc o0).alloc o1).heap.size = w.heap.size + 1 + 1 by simp] at this
theorem al_below (w : World) (o0 o1 o2 : Obj) : Below w.heap.size w (((w.alloc o0).alloc o1).alloc o2).drew := ((((Below.refl _ w).alloc (Nat.le_refl _) o0).alloc (by simp) o1).alloc (by simp; omega) o2).drew
/-- What values leaves. -/
structure ValEnd (G : List (List Int)) (w : World) (e : Ending) (w' : World) : Prop where
  low : Below w.heap.size w w'
  out : (∃ gv V, e = .returned (.tuple #[.slice (some ⟨gv, 0, none⟩) G.length G.length, .bool true]) ∧ w.heap.size ≤ gv ∧ rowN w' gv V ∧ Solves G V ∧ ∃ rk, Down G rk) ∨ (e = .returned (.tuple #[.slice none 0 0, .bool false]) ∧ ∃ c, Reach G c c)

set_option maxHeartbeats 4000000 in
set_option maxRecDepth 100000 in
theorem values_any (G : List (List Int)) (ok : OkG G) (ao : Option Addr) (cap : Nat) (w : World) (hG : isG w w.heap.size ao cap G) :
    Calls Try.prog 24 #[.slice ao G.length cap] w fun e w' => ValEnd G w e w' := by
  have hle := hG.1
  have hmx := hG.2.1
  unfold maxLen at hmx
  have hn := ok.len
  have hmk := made_ints G.length (by omega)
  have HG := hide hG
  clear hG
  go_enter Try.func24, Try.ntmps24
  go_upto_region 1 with fail
  go_cut [4] (fun v wz => ∃ b gf gv, v = .pointer (some ⟨b, 0, none⟩) ∧ isWk wz b ao G.length cap gf gv ∧ rowN wz gf (List.replicate G.length 0) ∧ rowN wz gv (List.replicate G.length 0) ∧ w.heap.size ≤ gf ∧ w.heap.size ≤ gv ∧ gf ≠ gv ∧ b ≠ gf ∧ b ≠ gv ∧ w.heap.size ≤ b ∧ Below w.heap.size w wz)
  case first =>
    go_region_held3 (fun u => True) (trivial) (fail)
    all_goals go_wp2
    all_goals go_meet
    all_goals first
      | exact ⟨_, w.heap.size + 1, w.heap.size + 1 + 1, rfl, al0 w _ _ _, al1 w _ _ _, al2 w _ _ _, by omega, by omega, by omega, by omega, by omega, by omega, al_below w _ _ _⟩
      | exact ⟨_, w.heap.size + 1 + 1, w.heap.size + 1, rfl, al0 w _ _ _, al2 w _ _ _, al1 w _ _ _, by omega, by omega, by omega, by omega, by omega, by omega, al_below w _ _ _⟩
      | exact ⟨_, w.heap.size, w.heap.size + 1 + 1, rfl, al1 w _ _ _, al0 w _ _ _, al2 w _ _ _, by omega, by omega, by omega, by omega, by omega, by omega, al_below w _ _ _⟩
      | exact ⟨_, w.heap.size + 1 + 1, w.heap.size, rfl, al1 w _ _ _, al2 w _ _ _, al0 w _ _ _, by omega, by omega, by omega, by omega, by omega, by omega, al_below w _ _ _⟩
      | exact ⟨_, w.heap.size, w.heap.size + 1, rfl, al2 w _ _ _, al0 w _ _ _, al1 w _ _ _, by omega, by omega, by omega, by omega, by omega, by omega, al_below w _ _ _⟩
      | exact ⟨_, w.heap.size + 1, w.heap.size, rfl, al2 w _ _ _, al1 w _ _ _, al0 w _ _ _, by omega, by omega, by omega, by omega, by omega, by omega, al_below w _ _ _⟩
  case rest =>
    obtain ⟨b, gf, gv, rfl, hW, hF, hV, h1, h2, h3, h4, h5, h6, hb⟩ := hcut
    have HB0 := hide hb
    have HW := hide hW
    have HF := hide hF
    have HV := hide hV
    clear hW hF hV hb hmk
    go_wp2
    go_loopw [16] (fun iv wr => ∃ (k : Nat) (F V : List Nat), k ≤ G.length ∧ iv = .int .i64 (k : Int) ∧ rowN wr gf F ∧ rowN wr gv V ∧ isWk wr b ao G.length cap gf gv ∧ Dfs G F V ∧ Hid (∀ j : Nat, j < k → F[j]! = 2) ∧ Hid (∀ j : Nat, F[j]! ≠ 1) ∧ Below w.heap.size w wr) (fun iv _ => G.length - (intOf iv).toNat)
    case atStart => exact ⟨0, _, _, Nat.zero_le _, rfl, unhide HF, unhide HV, unhide HW, Dfs.start G, hide (fun j hj => by omega), hide (fun j hj => by rw [rep0] at hj; omega), unhide HB0⟩
    case round =>
      obtain ⟨k, F, V, hk, rfl, hF, hV, hW, hI, HD, HN, hb⟩ := hrel
      clear HF HV HW HB0
      by_cases hlt : k < G.length
      · have hlti : (k : Int) < (G.length : Int) := by omega
        have hk0 : (0 : Int) ≤ (k : Int) := by omega
        have HREC := hide (through_any G ok ao cap b gf gv w.heap.size h1 h2 h3 h4 h5 (zer F + 1) k F V wr ((unhide HG).below hb (Nat.le_refl _)) hW hF hV hI (Nat.lt_succ_self _) hlt (fun j hj => absurd hj (unhide HN j)))
        have HB := hide hb
        have HW := hide hW
        clear hW hF hV hI hb
        go_wp2_with fail
        refine (unhide HREC).mono ?_
        rintro e w3 ⟨hfr, hout⟩
        have hb3 : Below w.heap.size w w3 := (unhide HB).trans (hfr.below h1 h2 (unhide HB).size)
        have HB3 := hide hb3
        rcases hout with ⟨rfl, F', V', hF', hV', hI', hE', hX⟩ | ⟨rfl, hcyc⟩
        · have HF' := hide hF'
          have HV' := hide hV'
          have HI' := hide hI'
          have HW' := hide ((unhide HW).fr hfr h4 h5)
          have HDD : Hid (∀ j : Nat, j < k + 1 → F'[j]! = 2) := hide fun j hj => by
            rcases Nat.lt_succ_iff_lt_or_eq.1 hj with h | h
            · have a := unhide HD j h
              rw [(hE'.keep j (by rw [a]; omega)).1]; exact a
            · rw [h]; exact hX
          have HNN : Hid (∀ j : Nat, F'[j]! ≠ 1) := hide fun j hj => unhide HN j (hE'.same j hj)
          clear hF' hV' hI' hE' hX hb3 hfr
          go_wp2
          go_roundw
          case rel => exact ⟨k + 1, F', V', by omega, by go_num, unhide HF', unhide HV', unhide HW', unhide HI', HDD, HNN, unhide HB3⟩
          case measure => simp only [intOf]; omega
        · have HCY := hide hcyc
          clear hcyc hb3 hfr
          go_wp2
          go_ret2
          exact ⟨unhide HB3, .inr ⟨rfl, unhide HCY⟩⟩
      · have hlti : ¬ (k : Int) < (G.length : Int) := by omega
        obtain rfl : k = G.length := by omega
        obtain ⟨c0, c1, c2⟩ := hW.all
        obtain ⟨hs, hd⟩ := hI.all (unhide HD)
        have HS := hide hs
        have HDN := hide hd
        have HV := hide hV
        have HB := hide hb
        clear hW hF hV hI hb hs hd
        go_wp2
        go_ret2
        exact ⟨unhide HB, .inl ⟨gv, V, rfl, h2, unhide HV, unhide HS, unhide HDN⟩⟩
end Go.Proofs.Ytphnjedoghopcaa
