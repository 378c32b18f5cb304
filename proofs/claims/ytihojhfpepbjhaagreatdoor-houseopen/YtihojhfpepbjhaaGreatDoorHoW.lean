/-
  package house, walked: Open.
-/
import Derived.Test.YtihojhfpepbjhaaGreatDoorHoV
import Derived.Test.YtihojhfpepbjhaaGreatDoorHoD
namespace Go.Proofs.YtihojhfpepbjhaaGreatDoor
open Go.RowKit
attribute [local go_sem ↓] Go.wp_at_zero Go.wp_at_succ

theorem open_succ (G : Gm) (f : Nat) (x : Ho) (s : List UInt8) : G.open_ (f + 1) x s = if (Lib.cut s [10]).2.2 = true then (match G.line x ⟨(Lib.cut s [10]).1.toArray⟩ with | none => x | some y => G.open_ f y (Lib.cut s [10]).2.1) else x := by
  rw [Gm.open_]
  rfl
theorem cut_shorter {r l1 l2 : List UInt8} (h : Lib.cut r [10] = (l1, l2, true)) : l2.length < r.length := by
  unfold Lib.cut at h
  split at h
  · rename_i hi
    have hr := Lib.index_room r [10] hi
    injection h with _ h
    injection h with h _
    rw [← h, List.length_drop]
    simp only [List.length_cons, List.length_nil] at hr ⊢
    omega
  · injection h with _ h
    injection h with _ h
    cases h
theorem line_I {G : Gm} {ok : Po → Prop} (hG : G.Ok ok) {x y : Ho} (hx : HoI G ok x) {l : ByteArray} (h : G.line x l = some y) : HoI G ok y := by
  unfold Gm.line at h
  split at h
  · cases h
  · rename_i p a mv hm
    split at h
    · injection h with h
      rw [← h]
      refine hx.step hG ?_
      unfold msgOf at hm
      split at hm
      · split at hm
        · rename_i h1 _ _ h2
          cases hm
          have := Lib.atoiAll_bounds h2
          show a < _
          omega
        · cases hm
      · cases hm
    · cases h
def txLen : Value → Nat
  | .string s => s.size
  | _ => 0
/-- One house, and what it leaves alone. -/
structure OneH (G : Gm) (s : Po) (ps : List Pc) (dr st : Bool) (lo re : Nat) (li : Int) (w w' : World) (b : Nat) (ao2 : Option Addr) (cp2 : Nat) (w00 : World) (y : Ho) : Prop where
  b0 : w.heap.size ≤ b
  sz : w00.heap.size = b
  low : Below b w00 w'
  lw : Below w.heap.size w w'
  ho : isHo w' b (.int .i64 s.W) (.int .i64 s.H) (.string s.C) (.int .i64 s.T) (.string s.A) (.string s.B) (.slice ao2 ps.length cp2) (.bool dr) (.int .u8 (lo : Int)) (.int .i64 li) (.int .u8 (re : Int)) (.bool st) (.int .i64 G.pl) y (G.ended y)
section
variable {G : Gm} {s : Po} {ps : List Pc} {dr st : Bool} {lo re : Nat} {li : Int} {w w' w'' : World} {b : Nat} {ao2 : Option Addr} {cp2 : Nat} {w00 : World} {y z : Ho}
theorem OneH.below (h : OneH G s ps dr st lo re li w w' b ao2 cp2 w00 y) (hb : Below w'.heap.size w' w'') : OneH G s ps dr st lo re li w w'' b ao2 cp2 w00 y :=
  have hl := isH.lt h.ho
  ⟨h.b0, h.sz, h.low.trans (hb.mono (Nat.le_of_lt hl)), h.lw.trans (hb.mono (Nat.le_trans h.b0 (Nat.le_of_lt hl))), isH.below h.ho hb hl⟩
theorem OneH.step (h : OneH G s ps dr st lo re li w w' b ao2 cp2 w00 y) (hx : Ex b w'.heap.size w' w'') (hh : isHo w'' b (.int .i64 s.W) (.int .i64 s.H) (.string s.C) (.int .i64 s.T) (.string s.A) (.string s.B) (.slice ao2 ps.length cp2) (.bool dr) (.int .u8 (lo : Int)) (.int .i64 li) (.int .u8 (re : Int)) (.bool st) (.int .i64 G.pl) z (G.ended z)) : OneH G s ps dr st lo re li w w'' b ao2 cp2 w00 z :=
  have hl := isH.lt h.ho
  ⟨h.b0, h.sz, h.low.trans (hx.fresh (Nat.le_refl _) (Nat.le_of_lt hl)), h.lw.trans (hx.fresh h.b0 (Nat.le_trans h.b0 (Nat.le_of_lt hl))), hh⟩
/-- Another house behind it is changed. -/
theorem OneH.other (h : OneH G s ps dr st lo re li w w' b ao2 cp2 w00 y) {c : Nat} (hx : Ex c w'.heap.size w' w'') (hc : b < c) : OneH G s ps dr st lo re li w w'' b ao2 cp2 w00 y :=
  have hl := isH.lt h.ho
  ⟨h.b0, h.sz, h.low.trans (hx.fresh (Nat.le_of_lt hc) (Nat.le_of_lt hl)), h.lw.trans (hx.fresh (Nat.le_trans h.b0 (Nat.le_of_lt hc)) (Nat.le_trans h.b0 (Nat.le_of_lt hl))), isH.ex h.ho hx hl (by omega)⟩
theorem OneH.new {time : Int} {u : World} (h : NewE G s.W s.H s.C s.T s.A s.B ps dr st lo re li time u w' b ao2 cp2 w00) (hu : Below w.heap.size w u) : OneH G s ps dr st lo re li w w' b ao2 cp2 w00 (startX s time) :=
  ⟨Nat.le_trans hu.size h.b0, h.sz, h.low, hu.trans (h.all.mono hu.size), h.ho⟩
end
set_option maxHeartbeats 8000000 in
set_option maxRecDepth 100000 in
theorem open_yes (G : Gm) (ok : Po → Prop) (hG : G.Ok ok) (TX : Po → ByteArray) (s : Po) (hs : ok s) (ao : Option Addr) (cap : Nat) (ps : List Pc) (dr st : Bool) (lo re : Nat) (li time : Int) (w : World) (ht : 1 ≤ time ∧ time ≤ 1000000) (t : ByteArray) (hts : t.size ≤ 4294967280) (mx : Int) (hm : w.cell? ⟨0, 0, none⟩ = some (.int .i64 mx)) (hE : isEr w)
    (hNew : ∀ u, Below w.heap.size w u → Calls Tryz.prog 8 #[.agg #[.int .i64 s.W, .int .i64 s.H, .string s.C, .int .i64 s.T, .string s.A, .string s.B, .slice ao ps.length cap, .bool dr, .int .u8 (lo : Int), .int .i64 li, .int .u8 (re : Int), .bool st, .int .i64 G.pl], .int .i64 time] u fun e w' => ∃ b ao2 cp2 w00, e = .returned (.tuple #[.pointer (some ⟨b, 0, none⟩), .int .i64 0]) ∧ NewE G s.W s.H s.C s.T s.A s.B ps dr st lo re li time u w' b ao2 cp2 w00)
    (hHc : ∀ b ao2 cp2 w00, w00.heap.size = b → isPcs w00 ao2 cp2 ps → Below w.heap.size w w00 → Hc G ok TX b w00 (.int .i64 s.W) (.int .i64 s.H) (.string s.C) (.int .i64 s.T) (.string s.A) (.string s.B) (.slice ao2 ps.length cp2) (.bool dr) (.int .u8 (lo : Int)) (.int .i64 li) (.int .u8 (re : Int)) (.bool st)) :
    Calls Tryz.prog 13 #[.agg #[.int .i64 s.W, .int .i64 s.H, .string s.C, .int .i64 s.T, .string s.A, .string s.B, .slice ao ps.length cap, .bool dr, .int .u8 (lo : Int), .int .i64 li, .int .u8 (re : Int), .bool st, .int .i64 G.pl], .int .i64 time, .string t] w fun e w' => ∃ b ao2 cp2 w00, e = .returned (.tuple #[.pointer (some ⟨b, 0, none⟩), .int .i64 (G.open_ (t.size + 1) (startX s time) t.data.toList).ply, .int .i64 0]) ∧ Hc G ok TX b w00 (.int .i64 s.W) (.int .i64 s.H) (.string s.C) (.int .i64 s.T) (.string s.A) (.string s.B) (.slice ao2 ps.length cp2) (.bool dr) (.int .u8 (lo : Int)) (.int .i64 li) (.int .u8 (re : Int)) (.bool st) ∧ OneH G s ps dr st lo re li w w' b ao2 cp2 w00 (G.open_ (t.size + 1) (startX s time) t.data.toList) := by
  obtain ⟨XN, hXN⟩ : ∃ XN, XN = G.open_ (t.size + 1) (startX s time) t.data.toList := ⟨_, rfl⟩
  rw [← hXN]
  obtain ⟨w1, hw1⟩ : ∃ w1, w1 = w.alloc (.cells #[.int .i64 s.W, .int .i64 s.H, .string s.C, .int .i64 s.T, .string s.A, .string s.B, .slice ao ps.length cap, .bool dr, .int .u8 (lo : Int), .int .i64 li, .int .u8 (re : Int), .bool st, .int .i64 G.pl] 27 (0, 0)) := ⟨_, rfl⟩
  have hb1 : Below w.heap.size w w1 := by rw [hw1]; exact (Below.refl _ _).alloc (Nat.le_refl _) _
  have hr1 : isRu w1 w.heap.size (.int .i64 s.W) (.int .i64 s.H) (.string s.C) (.int .i64 s.T) (.string s.A) (.string s.B) (.slice ao ps.length cap) (.bool dr) (.int .u8 (lo : Int)) (.int .i64 li) (.int .u8 (re : Int)) (.bool st) (.int .i64 G.pl) := by rw [hw1]; exact heap_alloc_new w _
  have hmx : ∀ u, Below w.heap.size w u → u.cell? ⟨0, 0, none⟩ = some (.int .i64 mx) := fun u hu => (hu.cell (p := ⟨0, 0, none⟩) (World.block_lt_of_cell? w ⟨0, 0, none⟩ hm)).trans hm
  have hEr : ∀ u, Below w.heap.size w u → isEr u := fun u hu => hE.below hu hE.lt
  have HNW := hide (hNew w1 hb1)
  have HB1 := hide hb1
  have HW1 := hide hw1
  have HMX := hide hmx
  have HER := hide hEr
  have HHC := hide hHc
  have HGG := hide hG
  have hI0 : HoI G ok (startX s time) := start_I hG hs ht
  have HI0 := hide hI0
  have HXN := hide hXN
  obtain ⟨r0, r1, r2, r3, r4, r5, r6, r7, r8, r9, r10, r11, r12⟩ := hr1.cells
  clear hNew hb1 hw1 hmx hEr hHc hG hI0 hXN hr1 hm hE ht hs
  go_enter Tryz.func13, Tryz.ntmps13
  go_upto_region 1 with fail
  rw [← unhide HW1]
  clear HW1
  go_wp2_with fail
  refine (unhide HNW).mono ?_
  rintro e w2 ⟨b, ao2, cp2, w00, rfl, hne⟩
  have hO := OneH.new hne (unhide HB1)
  have HC := hide (unhide HHC b ao2 cp2 w00 hne.sz hne.pcs ((unhide HB1).trans (hne.lw.mono (unhide HB1).size)))
  have HO := hide hO
  clear hne hO HNW HB1 HHC r0 r1 r2 r3 r4 r5 r6 r7 r8 r9 r10 r11 r12
  go_wp2_with fail
  go_loopw [2] (fun iv wr => ∃ (f : Nat) (r : List UInt8) (y : Ho), iv = .string ⟨r.toArray⟩ ∧ r.length ≤ t.size ∧ r.length < f ∧ Hid (HoI G ok y ∧ XN = G.open_ f y r) ∧ Hid (OneH G s ps dr st lo re li w wr b ao2 cp2 w00 y)) (fun iv _ => txLen iv)
  case atStart => exact ⟨t.size + 1, t.data.toList, startX s time, rfl, Nat.le_of_eq Array.length_toList, by have : t.data.toList.length = t.size := Array.length_toList; omega, hide ⟨unhide HI0, unhide HXN⟩, HO⟩
  case round =>
    clear HO HI0 HXN
    obtain ⟨f, r, y, rfl, h1, h2, HY, HO⟩ := hrel
    obtain ⟨l1, l2, c3, hcut⟩ : ∃ l1 l2 c3, Lib.cut r [10] = (l1, l2, c3) := ⟨_, _, _, rfl⟩
    have hO := unhide HO
    have hCut := Tryz.strings_Cut ⟨r.toArray⟩ ⟨#[10]⟩ mx wr (by show r.toArray.size < _; rw [List.size_toArray]; omega) (unhide HMX wr hO.lw)
    rw [show (⟨#[10]⟩ : ByteArray).data.toList = [10] from rfl, show (⟨r.toArray⟩ : ByteArray).data.toList = r from rfl, hcut] at hCut
    have HCUT := hide hCut
    obtain ⟨f', rfl⟩ : ∃ f', f = f' + 1 := ⟨f - 1, by omega⟩
    have hX := (unhide HY).2
    rw [open_succ, hcut] at hX
    have hc1 := (cut1_le r [10]).1
    rw [hcut] at hc1
    dsimp only at hX hc1
    have HX := hide hX
    have HCT := hide hcut
    clear hcut hCut hX hO
    go_wp2_with fail
    refine (unhide HCUT).mono ?_
    rintro e w3 ⟨rfl, n3, hw3⟩
    have hb3 : Below wr.heap.size wr w3 := by rw [hw3]; exact ⟨rfl, rfl, rfl, Nat.le_refl _, fun _ _ => rfl⟩
    have hO3 := (unhide HO).below hb3
    have HO3 := hide hO3
    clear hw3 hb3 HO HCUT
    cases c3 with
    | false =>
      have hX : XN = y := by rw [unhide HX, if_neg (by decide)]
      subst hX
      have cy := (isH.cells hO3.ho).2.2.2.1
      clear hO3 HX HCT
      go_upto_region 6 with fail
      refine wp_region_v [7] (fun u => u.cell? ⟨b, 22, none⟩ = some (.int .i64 XN.ply)) (by kernel_rfl) ?_
      have hHeld : (fun u => u.cell? ⟨b, 22, none⟩ = some (.int .i64 XN.ply)) (w3).drew := cy
      refine wpAnyV_tk (i := 0) (oi := _) (v := ?_) rfl (by kernel_rfl) (by kernel_rfl) (by kernel_rfl) (by kernel_rfl) (fun _ _ _ h => h) (Or.inl ⟨by rfl, ?_⟩) (by assumption) ?_
      rotate_left 1
      · (intro u hSu; (try dsimp only at hSu); go_simp; first | done | with_reducible rfl | rfl)
      simp only [Act.put, List.getElem_toArray, List.getElem_cons_zero, List.setIfInBounds_toArray, List.set_cons_zero, List.set_cons_succ]
      refine wpAnyV_tk (i := 1) (oi := _) (v := ?_) rfl (by kernel_rfl) (by kernel_rfl) (by kernel_rfl) (by kernel_rfl) (fun _ _ _ h => h) (Or.inl ⟨by rfl, ?_⟩) (by assumption) ?_
      rotate_left 1
      · (intro u hSu; (try dsimp only at hSu); go_simp; first | done | with_reducible rfl | rfl)
      simp only [Act.put, List.getElem_toArray, List.getElem_cons_zero, List.getElem_cons_succ, List.setIfInBounds_toArray, List.set_cons_zero, List.set_cons_succ]
      refine wpAnyV_tk (i := 2) (oi := _) (v := ?_) rfl (by kernel_rfl) (by kernel_rfl) (by kernel_rfl) (by kernel_rfl) (fun _ _ _ h => h) (Or.inl ⟨by rfl, ?_⟩) (by assumption) ?_
      rotate_left 1
      · (intro u hSu; (try dsimp only at hSu); go_simp; first | done | with_reducible rfl | rfl)
      simp only [Act.put, List.getElem_toArray, List.getElem_cons_zero, List.getElem_cons_succ, List.setIfInBounds_toArray, List.set_cons_zero, List.set_cons_succ]
      refine wpAnyV_tk (i := 3) (oi := _) (v := ?_) rfl (by kernel_rfl) (by kernel_rfl) (by kernel_rfl) (by kernel_rfl) (fun _ _ _ h => h) (Or.inl ⟨by rfl, ?_⟩) (by assumption) ?_
      rotate_left 1
      · (intro u hSu; (try dsimp only at hSu); go_simp; first | done | with_reducible rfl | rfl)
      simp only [Act.put, List.getElem_toArray, List.getElem_cons_zero, List.getElem_cons_succ, List.setIfInBounds_toArray, List.set_cons_zero, List.set_cons_succ]
      refine wpAnyV_tk (i := 4) (oi := _) (v := ?_) rfl (by kernel_rfl) (by kernel_rfl) (by kernel_rfl) (by kernel_rfl) (fun _ _ _ h => h) (Or.inl ⟨by rfl, ?_⟩) (by assumption) ?_
      rotate_left 1
      · (intro u hSu; (try dsimp only at hSu); go_simp; first | done | with_reducible rfl | rfl)
      simp only [Act.put, List.getElem_toArray, List.getElem_cons_zero, List.getElem_cons_succ, List.setIfInBounds_toArray, List.set_cons_zero, List.set_cons_succ]
      refine wpAnyV_tk (i := 5) (oi := _) (v := ?_) rfl (by kernel_rfl) (by kernel_rfl) (by kernel_rfl) (by kernel_rfl) (fun _ _ _ h => h) (Or.inl ⟨by rfl, ?_⟩) (by assumption) ?_
      rotate_left 1
      · (intro u hSu; (try dsimp only at hSu); go_simp; first | done | with_reducible rfl | rfl)
      simp only [Act.put, List.getElem_toArray, List.getElem_cons_zero, List.getElem_cons_succ, List.setIfInBounds_toArray, List.set_cons_zero, List.set_cons_succ]
      refine wpAnyV_tk (i := 6) (oi := _) (v := ?_) rfl (by kernel_rfl) (by kernel_rfl) (by kernel_rfl) (by kernel_rfl) (fun _ _ _ h => h) (Or.inl ⟨by rfl, ?_⟩) (by assumption) ?_
      rotate_left 1
      · (intro u hSu; (try dsimp only at hSu); go_simp; first | done | with_reducible rfl | rfl)
      simp only [Act.put, List.getElem_toArray, List.getElem_cons_zero, List.getElem_cons_succ, List.setIfInBounds_toArray, List.set_cons_zero, List.set_cons_succ]
      clear hHeld cy
      refine wpAnyV_ready (rs := [7]) (by kernel_rfl) (by simp) ?_
      refine ReadyV.cons (o := _) rfl (fun K hK => ?_) ReadyV.nil
      go_simp
      refine hK.out _ _ (fun h => absurd h (by decide)) ?_
      clear hK K
      try simp only [Act.put, List.getElem_toArray, List.getElem_cons_zero, List.getElem_cons_succ, List.setIfInBounds_toArray, List.set_cons_zero, List.set_cons_succ]
      refine wpAnyV_done (by kernel_rfl) ?_ _
      go_wp2
      exact bodyPost_ret (v := .tuple #[.pointer (some ⟨b, 0, none⟩), .int .i64 XN.ply, .int .i64 0]) (by simp [results, Tryz.results13, go_sem]) rfl ⟨b, ao2, cp2, w00, rfl, unhide HC, (unhide HO3).below ((Below.refl _ _).drew)⟩
    | true =>
      have hX := unhide HX
      rw [if_pos rfl] at hX
      have hsh := cut_shorter (unhide HCT)
      have hTL := takeLine_any G ok (unhide HGG) TX b b s.W s.H s.T li s.C s.A s.B ao2 ps.length cp2 lo re dr st w00 w3 (unhide HC) y (unhide HY).1 hO3.ho (Nat.le_refl _) hO3.low ⟨l1.toArray⟩ (by show l1.toArray.size ≤ _; rw [List.size_toArray]; omega) mx (unhide HMX w3 hO3.lw) (unhide HER w3 hO3.lw)
      have hA : G.after y ⟨l1.toArray⟩ = (G.line y ⟨l1.toArray⟩).getD y := rfl
      rw [hA] at hTL
      cases hl : G.line y ⟨l1.toArray⟩ with
      | none =>
        rw [hl] at hX hTL
        have hX : XN = y := hX
        subst hX
        have HTL := hide hTL
        clear hTL hA hl hO3 HX HCT hsh
        go_wp2_with fail
        refine (unhide HTL).mono ?_
        rintro e w4 ⟨rfl, h4, hx4⟩
        have HO4 := hide ((unhide HO3).step hx4 h4)
        have cy := (isH.cells (unhide HO4).ho).2.2.2.1
        clear h4 hx4 HO3 HTL
        go_upto_region 6 with fail
        refine wp_region_v [7] (fun u => u.cell? ⟨b, 22, none⟩ = some (.int .i64 XN.ply)) (by kernel_rfl) ?_
        have hHeld : (fun u => u.cell? ⟨b, 22, none⟩ = some (.int .i64 XN.ply)) (w4).drew := cy
        refine wpAnyV_tk (i := 0) (oi := _) (v := ?_) rfl (by kernel_rfl) (by kernel_rfl) (by kernel_rfl) (by kernel_rfl) (fun _ _ _ h => h) (Or.inl ⟨by rfl, ?_⟩) (by assumption) ?_
        rotate_left 1
        · (intro u hSu; (try dsimp only at hSu); go_simp; first | done | with_reducible rfl | rfl)
        simp only [Act.put, List.getElem_toArray, List.getElem_cons_zero, List.setIfInBounds_toArray, List.set_cons_zero, List.set_cons_succ]
        refine wpAnyV_tk (i := 1) (oi := _) (v := ?_) rfl (by kernel_rfl) (by kernel_rfl) (by kernel_rfl) (by kernel_rfl) (fun _ _ _ h => h) (Or.inl ⟨by rfl, ?_⟩) (by assumption) ?_
        rotate_left 1
        · (intro u hSu; (try dsimp only at hSu); go_simp; first | done | with_reducible rfl | rfl)
        simp only [Act.put, List.getElem_toArray, List.getElem_cons_zero, List.getElem_cons_succ, List.setIfInBounds_toArray, List.set_cons_zero, List.set_cons_succ]
        refine wpAnyV_tk (i := 2) (oi := _) (v := ?_) rfl (by kernel_rfl) (by kernel_rfl) (by kernel_rfl) (by kernel_rfl) (fun _ _ _ h => h) (Or.inl ⟨by rfl, ?_⟩) (by assumption) ?_
        rotate_left 1
        · (intro u hSu; (try dsimp only at hSu); go_simp; first | done | with_reducible rfl | rfl)
        simp only [Act.put, List.getElem_toArray, List.getElem_cons_zero, List.getElem_cons_succ, List.setIfInBounds_toArray, List.set_cons_zero, List.set_cons_succ]
        refine wpAnyV_tk (i := 3) (oi := _) (v := ?_) rfl (by kernel_rfl) (by kernel_rfl) (by kernel_rfl) (by kernel_rfl) (fun _ _ _ h => h) (Or.inl ⟨by rfl, ?_⟩) (by assumption) ?_
        rotate_left 1
        · (intro u hSu; (try dsimp only at hSu); go_simp; first | done | with_reducible rfl | rfl)
        simp only [Act.put, List.getElem_toArray, List.getElem_cons_zero, List.getElem_cons_succ, List.setIfInBounds_toArray, List.set_cons_zero, List.set_cons_succ]
        refine wpAnyV_tk (i := 4) (oi := _) (v := ?_) rfl (by kernel_rfl) (by kernel_rfl) (by kernel_rfl) (by kernel_rfl) (fun _ _ _ h => h) (Or.inl ⟨by rfl, ?_⟩) (by assumption) ?_
        rotate_left 1
        · (intro u hSu; (try dsimp only at hSu); go_simp; first | done | with_reducible rfl | rfl)
        simp only [Act.put, List.getElem_toArray, List.getElem_cons_zero, List.getElem_cons_succ, List.setIfInBounds_toArray, List.set_cons_zero, List.set_cons_succ]
        refine wpAnyV_tk (i := 5) (oi := _) (v := ?_) rfl (by kernel_rfl) (by kernel_rfl) (by kernel_rfl) (by kernel_rfl) (fun _ _ _ h => h) (Or.inl ⟨by rfl, ?_⟩) (by assumption) ?_
        rotate_left 1
        · (intro u hSu; (try dsimp only at hSu); go_simp; first | done | with_reducible rfl | rfl)
        simp only [Act.put, List.getElem_toArray, List.getElem_cons_zero, List.getElem_cons_succ, List.setIfInBounds_toArray, List.set_cons_zero, List.set_cons_succ]
        refine wpAnyV_tk (i := 6) (oi := _) (v := ?_) rfl (by kernel_rfl) (by kernel_rfl) (by kernel_rfl) (by kernel_rfl) (fun _ _ _ h => h) (Or.inl ⟨by rfl, ?_⟩) (by assumption) ?_
        rotate_left 1
        · (intro u hSu; (try dsimp only at hSu); go_simp; first | done | with_reducible rfl | rfl)
        simp only [Act.put, List.getElem_toArray, List.getElem_cons_zero, List.getElem_cons_succ, List.setIfInBounds_toArray, List.set_cons_zero, List.set_cons_succ]
        clear hHeld cy
        refine wpAnyV_ready (rs := [7]) (by kernel_rfl) (by simp) ?_
        refine ReadyV.cons (o := _) rfl (fun K hK => ?_) ReadyV.nil
        go_simp
        refine hK.out _ _ (fun h => absurd h (by decide)) ?_
        clear hK K
        try simp only [Act.put, List.getElem_toArray, List.getElem_cons_zero, List.getElem_cons_succ, List.setIfInBounds_toArray, List.set_cons_zero, List.set_cons_succ]
        refine wpAnyV_done (by kernel_rfl) ?_ _
        go_wp2
        exact bodyPost_ret (v := .tuple #[.pointer (some ⟨b, 0, none⟩), .int .i64 XN.ply, .int .i64 0]) (by simp [results, Tryz.results13, go_sem]) rfl ⟨b, ao2, cp2, w00, rfl, unhide HC, (unhide HO4).below ((Below.refl _ _).drew)⟩
      | some z =>
        rw [hl] at hX hTL
        have hX : XN = G.open_ f' z l2 := hX
        have HZI := hide (line_I (unhide HGG) (unhide HY).1 hl)
        have HTL := hide hTL
        have HXZ := hide hX
        clear hTL hA hl hO3 HX HCT hX HY
        go_wp2_with fail
        refine (unhide HTL).mono ?_
        rintro e w4 ⟨rfl, h4, hx4⟩
        have HO4 := hide ((unhide HO3).step (z := z) hx4 h4)
        clear h4 hx4 HO3 HTL
        go_wp2
        go_roundw
        case rel => exact ⟨f', l2, z, rfl, by omega, by omega, hide ⟨unhide HZI, unhide HXZ⟩, HO4⟩
        case measure => simp only [txLen]; show l2.toArray.size < r.toArray.size; simp only [List.size_toArray]; omega
end Go.Proofs.YtihojhfpepbjhaaGreatDoor
