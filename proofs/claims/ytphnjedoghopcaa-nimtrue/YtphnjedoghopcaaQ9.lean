/-
  package nim, walked: Both.
-/
import Derived.Test.YtphnjedoghopcaaQ8
namespace Go.Proofs.Ytphnjedoghopcaa
open Go.RowKit
attribute [local go_sem ↓] Go.wp_at_zero Go.wp_at_succ

/-- Two graphs that may be told side by side. -/
structure OkAB (A C : List (List Int)) : Prop where
  a : OkG A
  c : OkG C
  big : bigB A C = false
theorem OkAB.len {A C : List (List Int)} (h : OkAB A C) : A.length * C.length ≤ 1000 := by
  have := h.big
  unfold bigB at this
  simp at this
  omega
theorem mostN_ge : ∀ (G : List (List Int)) (a : Nat) (r : List Int), r ∈ G → r.length ≤ G.foldl (fun n r => max n r.length) a
  | x :: G, a, r, h => by
    rw [List.foldl_cons]
    rcases List.mem_cons.1 h with rfl | h
    · have big : ∀ (l : List (List Int)) (b : Nat), b ≤ l.foldl (fun n r => max n r.length) b := by
        intro l
        induction l with
        | nil => intro b; exact Nat.le_refl _
        | cons x l ih => intro b; rw [List.foldl_cons]; have := ih (max b x.length); omega
      have := big G (max a r.length)
      omega
    · exact mostN_ge G _ r h
theorem OkAB.row {A C : List (List Int)} (h : OkAB A C) (i : Nat) (a : List Int) (j : Nat) (c : List Int) (ha : A[i]? = some a) (hc : C[j]? = some c) : a.length + c.length ≤ 1000 := by
  have := h.big
  unfold bigB mostN at this
  simp at this
  have h1 := mostN_ge A 0 a (List.mem_of_getElem? ha)
  have h2 := mostN_ge C 0 c (List.mem_of_getElem? hc)
  omega
/-- What Both's error is. -/
def bothI (A C : List (List Int)) : Int := if chkI A ≠ 0 then chkI A else if chkI C ≠ 0 then chkI C else if bigB A C then 2 else 0
theorem bothI_ok {A C : List (List Int)} : bothI A C = 0 ↔ OkAB A C := by
  unfold bothI
  constructor
  · intro h
    split at h
    · contradiction
    · rename_i h1
      split at h
      · contradiction
      · rename_i h2
        split at h
        · omega
        · rename_i h3
          exact ⟨chk_ok.1 (by simpa using h1), chk_ok.1 (by simpa using h2), by simpa using h3⟩
  · intro h
    rw [if_neg (by rw [chk_ok.2 h.a]; simp), if_neg (by rw [chk_ok.2 h.c]; simp), if_neg (by rw [h.big]; simp)]
/-- What Both leaves. -/
structure BothEnd (A C : List (List Int)) (w : World) (e : Ending) (w' : World) : Prop where
  low : Below w.heap.size w w'
  out : (OkAB A C ∧ ∃ gb cap, e = .returned (.tuple #[.slice (some ⟨gb, 0, none⟩) (A.length * C.length) cap, .int .i64 0]) ∧ isG w' w'.heap.size (some ⟨gb, 0, none⟩) cap (bothG A C)) ∨ (bothI A C ≠ 0 ∧ e = .returned (.tuple #[.slice none 0 0, .int .i64 (bothI A C)]))

set_option maxHeartbeats 4000000 in
set_option maxRecDepth 100000 in
theorem Both_any (A C : List (List Int)) (aa ca : Option Addr) (ka kc : Nat) (w : World) (hA : isG w w.heap.size aa ka A) (hC : isG w w.heap.size ca kc C) :
    Calls Try.prog 15 #[.slice aa A.length ka, .slice ca C.length kc] w fun e w' => BothEnd A C w e w' := by
  obtain ⟨wa, hwa⟩ : ∃ wa, wa = w.alloc (.cells #[.slice aa A.length ka, .slice ca C.length kc] 53 (0, 0)) := ⟨_, rfl⟩
  have hba : Below w.heap.size w wa := by rw [hwa]; exact (Below.refl _ _).alloc (Nat.le_refl _) _
  have hbx : wa.heap[w.heap.size]? = some (.cells #[.slice aa A.length ka, .slice ca C.length kc] 53 (0, 0)) := by rw [hwa]; exact heap_alloc_new w _
  have c0 : wa.cell? ⟨w.heap.size, 0, none⟩ = some (.slice aa A.length ka) := cell_of_row _ _ _ _ _ _ hbx
  have c1 : wa.cell? ⟨w.heap.size, 1, none⟩ = some (.slice ca C.length kc) := cell_of_row _ _ _ _ _ _ hbx
  have hA' := (hA.below hba (Nat.le_refl _)).keep (fun _ _ => rfl) hba.size
  have hC' := (hC.below hba (Nat.le_refl _)).keep (fun _ _ => rfl) hba.size
  have HCA := hide (check_any _ aa ka A wa hA')
  have HCC := hide (check_any _ ca kc C wa hC')
  have HA := hide hA'
  have HC := hide hC'
  have HBA := hide hba
  have HWA := hide hwa
  clear hA hC hA' hC' hwa hba hbx
  by_cases h1 : chkI A = 0
  · have ok1 := chk_ok.1 h1
    rw [h1] at HCA
    by_cases h2 : chkI C = 0
    · have ok2 := chk_ok.1 h2
      rw [h2] at HCC
      have HTL := hide (isTooLarge_any A C ok1 ok2 _ aa ca ka kc wa (unhide HA) (unhide HC))
      have hbi : bothI A C = if bigB A C then 2 else 0 := by unfold bothI; rw [if_neg (by rw [h1]; simp), if_neg (by rw [h2]; simp)]
      have HBI := hide hbi
      have HO1 := hide ok1
      have HO2 := hide ok2
      clear hbi ok1 ok2 h1 h2
      go_enter Try.func15, Try.ntmps15
      go_wp2
      rw [← unhide HWA]
      clear HWA
      go_loopw [13] (fun iv wr => wr = wa ∧ (iv = .int .i64 0 ∨ iv = .int .i64 1 ∨ iv = .int .i64 2)) (fun iv _ => 2 - (intOf iv).toNat)
      case atStart => exact ⟨rfl, .inl rfl⟩
      case round =>
        obtain ⟨rfl, rfl | rfl | rfl⟩ := hrel
        · go_wp2_with fail
          refine (unhide HCA).mono ?_
          rintro e w1 ⟨rfl, rfl⟩
          go_wp2
          go_roundw
          case rel => exact ⟨trivial, .inr (.inl rfl)⟩
          case measure => simp [intOf]
        · go_wp2_with fail
          refine (unhide HCC).mono ?_
          rintro e w1 ⟨rfl, rfl⟩
          go_wp2
          go_roundw
          case rel => exact ⟨trivial, .inr (.inr rfl)⟩
          case measure => simp [intOf]
        · go_wp2_with fail
          refine (unhide HTL).mono ?_
          rintro e w1 ⟨rfl, rfl⟩
          cases hb : bigB A C with
          | true =>
            have HE : Hid (BothEnd A C w (.returned (.tuple #[.slice none 0 0, .int .i64 2])) w1) := hide ⟨unhide HBA, .inr (by rw [unhide HBI, hb]; exact ⟨by simp, rfl⟩)⟩
            clear hb
            go_wp2
            go_ret2
            exact unhide HE
          | false =>
            have hok : OkAB A C := ⟨unhide HO1, unhide HO2, hb⟩
            have HSD := hide (side_any A C (unhide HO1) (unhide HO2) hok.len hok.row aa ca ka kc w1 (unhide HA) (unhide HC))
            have HOK := hide hok
            clear hb hok
            go_wp2_with fail
            refine (unhide HSD).mono ?_
            rintro e w2 ⟨hb2, gb, cap, rfl, hg⟩
            have HE : Hid (BothEnd A C w (.returned (.tuple #[.slice (some ⟨gb, 0, none⟩) (A.length * C.length) cap, .int .i64 0])) w2) := hide ⟨(unhide HBA).trans (hb2.mono (unhide HBA).size), .inl ⟨unhide HOK, gb, cap, rfl, hg⟩⟩
            clear hb2 hg
            go_wp2
            go_ret2
            exact unhide HE
    · have HE : Hid (BothEnd A C w (.returned (.tuple #[.slice none 0 0, .int .i64 (chkI C)])) wa) := hide ⟨unhide HBA, .inr (by unfold bothI; rw [if_neg (by rw [h1]; simp), if_pos h2]; exact ⟨h2, rfl⟩)⟩
      have hne : (chkI C != 0) = true := by simp [h2]
      generalize chkI C = E2 at *
      clear h1 h2 ok1
      go_enter Try.func15, Try.ntmps15
      go_wp2
      rw [← unhide HWA]
      clear HWA
      go_loopw [13] (fun iv wr => wr = wa ∧ (iv = .int .i64 0 ∨ iv = .int .i64 1)) (fun iv _ => 2 - (intOf iv).toNat)
      case atStart => exact ⟨rfl, .inl rfl⟩
      case round =>
        obtain ⟨rfl, rfl | rfl⟩ := hrel
        · go_wp2_with fail
          refine (unhide HCA).mono ?_
          rintro e w1 ⟨rfl, rfl⟩
          go_wp2
          go_roundw
          case rel => exact ⟨trivial, .inr rfl⟩
          case measure => simp [intOf]
        · go_wp2_with fail
          refine (unhide HCC).mono ?_
          rintro e w1 ⟨rfl, rfl⟩
          go_wp2
          go_ret2
          exact unhide HE
  · have HE : Hid (BothEnd A C w (.returned (.tuple #[.slice none 0 0, .int .i64 (chkI A)])) wa) := hide ⟨unhide HBA, .inr (by unfold bothI; rw [if_pos h1]; exact ⟨h1, rfl⟩)⟩
    have hne : (chkI A != 0) = true := by simp [h1]
    generalize chkI A = E1 at *
    clear h1
    go_enter Try.func15, Try.ntmps15
    go_wp2
    rw [← unhide HWA]
    clear HWA
    go_loopw [13] (fun iv wr => wr = wa ∧ iv = .int .i64 0) (fun iv _ => 2 - (intOf iv).toNat)
    case atStart => exact ⟨rfl, rfl⟩
    case round =>
      obtain ⟨rfl, rfl⟩ := hrel
      go_wp2_with fail
      refine (unhide HCA).mono ?_
      rintro e w1 ⟨rfl, rfl⟩
      go_wp2
      go_ret2
      exact unhide HE
end Go.Proofs.Ytphnjedoghopcaa
