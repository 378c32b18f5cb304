/-
  package record, walked: parts, text.
-/
import Derived.Test.YtdibjdpnleepmacDoorN19
namespace Go.Proofs.YtdibjdpnleepmacDoor
open Go.RowKit
attribute [local go_sem ↓] Go.wp_at_zero Go.wp_at_succ

def strs (L : List (List UInt8)) : List Value := L.map fun x => .string (ofL x)
/-- What parts leaves. -/
structure PartsEnd (l : List Nt) (w : World) (e : Ending) (w' : World) : Prop where
  ex : ∃ v, e = .returned v ∧ w'.ownsRow w.heap.size 9 1 v (partsL l).length (strs (partsL l))
  low : Below w.heap.size w w'
theorem strs_at {w : World} {base : Nat} {bk cap : Nat} {L : List (List UInt8)} (h : w.ownsRow base 9 1 (.slice (some ⟨bk, 0, none⟩) L.length cap) L.length (strs L)) : ∀ (j : Nat) (x : ByteArray), (L.map ofL)[j]? = some x → w.cell? ⟨bk, 0 + j, none⟩ = some (.string x) := by
  intro j x hx
  rw [List.getElem?_map] at hx
  cases hq : L[j]? with
  | none => rw [hq] at hx; cases hx
  | some y =>
    rw [hq] at hx
    simp only [Option.map_some, Option.some.injEq] at hx
    subst hx
    have hj := (List.getElem?_eq_some_iff.1 hq).1
    have hs : (strs L)[j]? = some (.string (ofL y)) := by unfold strs; rw [List.getElem?_map, hq]; rfl
    rw [Nat.zero_add]
    rw [h.cellAt j (by omega)]
    exact hs
theorem map_ofL (L : List (List UInt8)) : (L.map ofL).map (·.data.toList) = L := by
  rw [List.map_map]
  conv => rhs; rw [← List.map_id L]
  exact List.map_congr_left fun x _ => ofL_list x

set_option maxHeartbeats 1000000 in
theorem recText_of (ao : Option Addr) (cap : Nat) (l : List Nt) (w : World) (hp : Calls Tryd.prog 18 #[.slice ao l.length cap] w fun e w' => PartsEnd l w e w') (hlen : (textL (foL l)).length ≤ 1000000) :
    Calls Tryd.prog 12 #[.slice ao l.length cap] w fun e w' => e = .returned (.string (ofL (textL (foL l)))) ∧ Below w.heap.size w w' := by
  have hpt := parts_text l
  have hpc := parts_count l
  obtain ⟨T, hT⟩ : ∃ T, T = textL (foL l) := ⟨_, rfl⟩
  obtain ⟨L, hL⟩ : ∃ L, L = partsL l := ⟨_, rfl⟩
  have HP : Hid (Calls Tryd.prog 18 #[.slice ao l.length cap] w fun e w' => PartsEnd l w e w') := hide hp
  rw [← hT] at hpt hpc hlen ⊢
  rw [← hL] at hpt hpc
  have HL := hide hL
  have HPT := hide hpt
  clear hp hL hT hpt
  go_enter Tryd.func12, Tryd.ntmps12
  go_wp2_with fail
  refine (unhide HP).mono ?_
  rintro e w2 ⟨⟨v, rfl, hrow⟩, hb⟩
  rw [← unhide HL] at hrow
  rcases hrow.2 with ⟨h1, h2⟩ | ⟨bk, cp, cur, h1, hbk, hg, hnc, hcm, -⟩
  · have hL0 : L = [] := List.eq_nil_of_length_eq_zero (by omega)
    have hT0 : T = [] := by rw [← unhide HPT, hL0]; rfl
    have HT0 : Hid (ofL T = ⟨#[]⟩) := hide (by rw [hT0]; rfl)
    have HJ := hide (Tryd.strings_Join_none none 0 ⟨#[32]⟩ w2)
    rw [h1]
    clear hrow h1 h2 hL0 hT0
    go_wp2_with fail
    refine (unhide HJ).mono ?_
    rintro e w3 ⟨rfl, rfl⟩
    go_wp2
    go_ret
    exact ⟨by rw [unhide HT0]; rfl, hb⟩
  · rw [h1] at hrow
    have hjn := Tryd.strings_Join bk 0 cp (L.map ofL) ⟨#[32]⟩ w2 (strs_at hrow) (ltBlock hg) (by rw [List.length_map]; omega) (by rw [List.length_map]; exact hnc) (by rw [map_ofL]; show (Lib.join L [32]).length ≤ _; rw [unhide HPT]; omega)
    rw [map_ofL, List.length_map] at hjn
    rw [show (⟨#[32]⟩ : ByteArray).data.toList = [32] from rfl, unhide HPT] at hjn
    have HJ := hide hjn
    rw [h1]
    clear hrow h1 hjn hg hnc hcm hbk
    go_wp2_with fail
    refine (unhide HJ).mono ?_
    rintro e w3 ⟨rfl, hb3⟩
    have hb4 := hb.trans (hb3.mono hb.size)
    clear hb3
    go_wp2
    go_ret
    exact ⟨rfl, hb4⟩
end Go.Proofs.YtdibjdpnleepmacDoor
