/-
  The library's two listed errors, as the law's start lays them.
-/
import Derived.Test.YtihojhfpepbjhaaGreatDoorHoU
import Derived.Test.YtihojhfpepbjhaaGreatDoorRows
import Derived.Lib.LaidU8
namespace Go.Proofs.YtihojhfpepbjhaaGreatDoor
open Go.RowKit

theorem sentX {P : Program} {w : World} {n nm : String} {d : DataW Unit} (hr : Lib.VarReads P w n (.iface nm d)) (g : Nat) (hg : P.globalNamed n = some g) (t : TypeId) (ht : (P.globals[g]?).map (·.type) = some t) (ms : Array (String × TypeId)) (hu : P.underlying t = some (.interface ms)) :
    ∃ tp p y z, w.heap[g]? = some (.cells #[.iface tp p] y z) := by
  obtain ⟨g', t', cs, fuel, p, h1, h2, h3, h4⟩ := hr
  rw [hg] at h1
  cases h1
  rw [ht] at h2
  cases h2
  have hc : ∃ tp q, cs = #[.iface tp q] := by
    cases fuel with
    | zero => simp [DataW.trod] at h4
    | succ fuel =>
      unfold DataW.trod at h4
      rw [hu] at h4
      obtain ⟨l⟩ := cs
      match l, h4 with
      | [.iface tp q], _ => exact ⟨tp, q, rfl⟩
      | [.nilIface], h4 => simp at h4
      | [], h4 => simp at h4
      | a :: b :: l, h4 => simp at h4
  obtain ⟨tp, q, rfl⟩ := hc
  unfold World.var? at h3
  rw [hg] at h3
  simp only [Option.bind_some] at h3
  split at h3
  · rename_i c y z hh
    injection h3 with h3
    subst h3
    exact ⟨tp, q, y, z, hh⟩
  · cases h3
theorem gErrR : (Tryz.prog.globals[2]?).map (·.type) = some 102 := by kernel_rfl
theorem gErrS : (Tryz.prog.globals[1]?).map (·.type) = some 102 := by kernel_rfl
theorem er_of {W : World} {l : List (String × DataW Unit)} (h : laidMet Tryz.prog l W) (h1 : ("strconv.ErrSyntax", Rows.laid_strconv_ErrSyntax) ∈ l) (h2 : ("strconv.ErrRange", Rows.laid_strconv_ErrRange) ∈ l) : isEr W := by
  obtain ⟨ps, hl, -⟩ := h
  obtain ⟨t1, p1, y1, z1, e1⟩ := sentX (Lib.LaidVars_reads hl _ _ h1) 1 glob1 102 gErrS _ Tryz.underlying102
  obtain ⟨t2, p2, y2, z2, e2⟩ := sentX (Lib.LaidVars_reads hl _ _ h2) 2 glob2 102 gErrR _ Tryz.underlying102
  exact ⟨t1, p1, t2, p2, y1, z1, y2, z2, e1, e2⟩
end Go.Proofs.YtihojhfpepbjhaaGreatDoor
