/-
  package nim, walked: isTooLarge, sideBySide.
-/
import Derived.Test.YtphnjedoghopcaaQ6
import Derived.Test.YtphnjedoghopcaaM42
namespace Go.Proofs.Ytphnjedoghopcaa
open Go.RowKit
attribute [local go_sem ↓] Go.wp_at_zero Go.wp_at_succ

/-- Are the two together too large? -/
def bigB (A C : List (List Int)) : Bool := decide (1000 < A.length * C.length) || decide (1000 < mostN A + mostN C)

set_option maxHeartbeats 2000000 in
set_option maxRecDepth 100000 in
theorem isTooLarge_any (A C : List (List Int)) (okA : OkG A) (okC : OkG C) (B : Nat) (aa ca : Option Addr) (ka kc : Nat) (w : World) (hA : isG w B aa ka A) (hC : isG w B ca kc C) :
    Calls Try.prog 25 #[.slice aa A.length ka, .slice ca C.length kc] w fun e w' => e = .returned (.bool (bigB A C)) ∧ w' = w := by
  have h1 := okA.len
  have h2 := okC.len
  have m1 : mostN A ≤ 1000 := (mostN_le A 1000 0 (by omega)).2 (fun r hr => by obtain ⟨i, hi⟩ := List.getElem?_of_mem hr; exact okA.row i r hi)
  have m2 : mostN C ≤ 1000 := (mostN_le C 1000 0 (by omega)).2 (fun r hr => by obtain ⟨i, hi⟩ := List.getElem?_of_mem hr; exact okC.row i r hi)
  have HMA := hide (most_any B aa ka A w hA)
  have HMC := hide (most_any B ca kc C w hC)
  obtain ⟨P, hP⟩ : ∃ P, P = A.length * C.length := ⟨_, rfl⟩
  have hPi : (A.length : Int) * (C.length : Int) = (P : Int) := by rw [hP]; simp
  have hPb : P ≤ 1000000 := by rw [hP]; exact Nat.mul_le_mul h1 h2
  obtain ⟨R, hR⟩ : ∃ R, R = bigB A C := ⟨_, rfl⟩
  rw [← hR]
  unfold bigB at hR
  rw [← hP] at hR
  have hla := hA.1
  have hlc := hC.1
  generalize mostN A = MA at *
  generalize mostN C = MC at *
  have HR := hide hR
  clear hR hP hA hC
  by_cases hb : 1000 < P
  · have hbi : (1000 : Int) < (P : Int) := by omega
    have hre : R = true := by rw [unhide HR, decide_eq_true hb]; rfl
    have HRE := hide hre
    clear hre hb
    go_enter Try.func25, Try.ntmps25
    go_wp2_with fail
    go_ret
    exact ⟨ret_bool (unhide HRE).symm, rfl⟩
  · have hbi : ¬ (1000 : Int) < (P : Int) := by omega
    have hre : R = decide (1000 < MA + MC) := by rw [unhide HR, decide_eq_false hb]; rfl
    have HRE := hide hre
    clear hre hb
    go_enter Try.func25, Try.ntmps25
    go_wp2_with fail
    refine (unhide HMA).mono ?_
    rintro e w1 ⟨rfl, rfl⟩
    go_wp2_with fail
    refine (unhide HMC).mono ?_
    rintro e w2 ⟨rfl, rfl⟩
    go_wp2
    go_ret
    exact ⟨ret_bool (by rw [unhide HRE]; exact decide_eq_decide.2 (by omega)), rfl⟩
end Go.Proofs.Ytphnjedoghopcaa
