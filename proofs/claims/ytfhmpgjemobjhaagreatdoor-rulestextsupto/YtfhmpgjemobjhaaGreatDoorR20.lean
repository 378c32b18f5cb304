/-
  package rules, walked: reader.piece.
-/
import Derived.Test.YtfhmpgjemobjhaaGreatDoorR19
namespace Go.Proofs.YtfhmpgjemobjhaaGreatDoor
open Go.RowKit
attribute [local go_sem ↓] Go.wp_at_zero Go.wp_at_succ

/-- A piece's three cells in block p. -/
def isPx (w : World) (p : Nat) (x0 x1 x2 : Value) : Prop := w.heap[p]? = some (.cells #[x0, x1, x2] 48 (0, 0))
theorem isPx.all {w : World} {p : Nat} {x0 x1 x2 : Value} (h : isPx w p x0 x1 x2) :
    (w.cell? ⟨p, 0, none⟩ = some x0 ∧ w.cell? ⟨p, 1, none⟩ = some x1 ∧ w.cell? ⟨p, 2, none⟩ = some x2) ∧
    w.frozen? ⟨p, 0, none⟩ = false ∧ w.frozen? ⟨p, 1, none⟩ = false ∧ w.frozen? ⟨p, 2, none⟩ = false := by
  unfold isPx at h; simp [World.cell?, World.frozen?, h]
theorem isPx.below {w w' : World} {p B : Nat} {x0 x1 x2 : Value} (h : isPx w p x0 x1 x2) (k : Below B w w') (hp : p < B) : isPx w' p x0 x1 x2 := by
  unfold isPx at h ⊢; rw [k.block p hp, h]
theorem isPx.set0 {w : World} {p : Nat} {x0 x1 x2 : Value} (h : isPx w p x0 x1 x2) (y : Value) : isPx (w.setCell ⟨p, 0, none⟩ y) p y x1 x2 := by
  unfold isPx at h ⊢; simp [World.setCell, Array.getElem?_modify, h]
theorem isPx.set1 {w : World} {p : Nat} {x0 x1 x2 : Value} (h : isPx w p x0 x1 x2) (y : Value) : isPx (w.setCell ⟨p, 1, none⟩ y) p x0 y x2 := by
  unfold isPx at h ⊢; simp [World.setCell, Array.getElem?_modify, h]
theorem isPx.set2 {w : World} {p : Nat} {x0 x1 x2 : Value} (h : isPx w p x0 x1 x2) (y : Value) : isPx (w.setCell ⟨p, 2, none⟩ y) p x0 x1 y := by
  unfold isPx at h ⊢; simp [World.setCell, Array.getElem?_modify, h]

/-- What is still to be read of a piece's ways. -/
def meas (sv mv : Value) : Nat := match sv, mv with | .string s, .bool true => s.size + 1 | _, _ => 0
theorem waysF_step (n : Nat) (s : List UInt8) (acc : List Wy) (z : Wy) (h : wayOf (Lib.cut s [44, 32]).1 = some z) (hf : (Lib.cut s [44, 32]).2.2 = true) : (waysF (n + 1) s).map (acc ++ ·) = (waysF n (Lib.cut s [44, 32]).2.1).map ((acc ++ [z]) ++ ·) := by
  rw [waysF, h]
  simp only [hf, if_true, Option.map_map]
  congr 1
  funext t
  simp
theorem waysF_last (n : Nat) (s : List UInt8) (acc : List Wy) (z : Wy) (h : wayOf (Lib.cut s [44, 32]).1 = some z) (hf : (Lib.cut s [44, 32]).2.2 = false) : (waysF (n + 1) s).map (acc ++ ·) = some (acc ++ [z]) := by
  rw [waysF, h]
  simp [hf]
theorem waysF_no (n : Nat) (s : List UInt8) (acc : List Wy) (h : wayOf (Lib.cut s [44, 32]).1 = none) : (waysF (n + 1) s).map (acc ++ ·) = none := by
  rw [waysF, h]
  rfl

set_option maxHeartbeats 2000000 in
set_option maxRecDepth 100000 in
theorem piece_any (g : Nat) (x : Rl) (last : Nat) (s : ByteArray) (m : Int) (w : World) (h : RS w g x last) (hs : s.size < 2000000) (hm : w.cell? ⟨0, 0, none⟩ = some (.int .i64 m)) (h0 : 0 < g) :
    Calls Tryz.prog 42 #[.pointer (some ⟨g, 0, none⟩), .string s] w fun e w' => ∃ ok : Bool, e = .returned (.bool ok) ∧ (∀ p, pieceF s.data.toList = some p → ok = true ∧ RS w' g { x with ps := x.ps ++ [p] } last) ∧ (pieceF s.data.toList = none → ok = false) ∧ Below g w w' := by
  obtain ⟨⟨v, qs, hr, hpk⟩, hsz⟩ := h
  have hglt : g < w.heap.size := isRr.lt hr
  have HR := hide hr
  have HPK := hide hpk
  have HSZ := hide hsz
  have HM := hide hm
  clear hr hpk hsz
  go_enter Tryz.func42, Tryz.ntmps42
  go_wp2_with fail
  refine (Cut_any s ⟨#[58, 32]⟩ m w hs hm).mono ?_
  rintro e w1 ⟨a, b, f, rfl, hc1, ha, hb, hl1, hz1⟩
  have hm1 : w1.cell? ⟨0, 0, none⟩ = some (.int .i64 m) := by rw [hl1.cell (p := ⟨0, 0, none⟩) (by simp only; omega)]; exact hm
  go_wp2_with fail
  refine (Cut_any a ⟨#[32]⟩ m w1 (by omega) hm1).mono ?_
  rintro e w2 ⟨c, d, f2, rfl, hc2, hcs, hds, hl2, hz2⟩
  have hm2 : w2.cell? ⟨0, 0, none⟩ = some (.int .i64 m) := by rw [hl2.cell (p := ⟨0, 0, none⟩) (by simp only; omega)]; exact hm1
  have hb2 : Below w.heap.size w w2 := hl1.trans (hl2.mono (by omega))
  have hg2 : w2.heap.size = w.heap.size := by omega
  obtain ⟨U, hU⟩ : ∃ U, U = if f then waysF (s.data.toList.length + 1) b.data.toList else some [] := ⟨_, rfl⟩
  have hPF : pieceF s.data.toList = match letterOf c.data.toList, numOf d.data.toList with
      | some l, some n => U.map fun ws => ⟨l.toNat, (n : Nat), ws⟩
      | _, _ => none := by
    have hc2' : Lib.cut a.data.toList [32] = (c.data.toList, d.data.toList, f2) := hc2
    have hc1' : Lib.cut s.data.toList [58, 32] = (a.data.toList, b.data.toList, f) := hc1
    unfold pieceF
    rw [hc1']
    simp only
    rw [hc2', hU]
    simp only
    cases letterOf c.data.toList with
    | none => rfl
    | some l =>
      cases numOf d.data.toList with
      | none => rfl
      | some n =>
        simp only
        cases f <;> simp
  have HPF := hide hPF
  have HU := hide hU
  clear hc1 hc2 hPF hU hl1 hl2 hz1 hz2 hm1 hm
  have hx1 : isPx (w2.alloc (.cells #[.int .u8 0, .int .i64 0, .slice none 0 0] 48 (0, 0))) w2.heap.size (.int .u8 0) (.int .i64 0) (.slice none 0 0) := heap_alloc_new w2 _
  have hl1 : Below w2.heap.size w2 (w2.alloc (.cells #[.int .u8 0, .int .i64 0, .slice none 0 0] 48 (0, 0))) := (Below.refl _ w2).alloc (Nat.le_refl _) _
  rw [hg2] at hx1 hl1
  go_wp2_with fail
  generalize w2.alloc (.cells #[.int .u8 0, .int .i64 0, .slice none 0 0] 48 (0, 0)) = w3 at *
  refine (readLetter_any c w3).mono ?_
  rintro e w3 ⟨rfl, rfl⟩
  obtain ⟨lv, hlv⟩ : ∃ lv, lv = ((letterOf c.data.toList).getD 0).toNat := ⟨_, rfl⟩
  obtain ⟨lb, hlb⟩ : ∃ lb, lb = (letterOf c.data.toList).isSome := ⟨_, rfl⟩
  rw [← hlv, ← hlb]
  have HLV := hide hlv
  have HLB := hide hlb
  clear hlv hlb
  have hx2 := hx1.set0 (.int .u8 (lv : Int))
  have hl2 := hl1.setCell (p := ⟨w.heap.size, 0, none⟩) (Nat.le_refl _) (.int .u8 (lv : Int))
  obtain ⟨⟨c0, c1, c2⟩, f0, f1, f2⟩ := hx1.all
  go_wp2_with fail
  clear c0 c1 c2 f0 f1 f2 hx1 hl1
  generalize w3.setCell ⟨w.heap.size, 0, none⟩ (.int .u8 (lv : Int)) = w4 at *
  refine (readNumber_any d w4).mono ?_
  rintro e w4 ⟨rfl, rfl⟩
  obtain ⟨nv, hnv⟩ : ∃ nv, nv = (numOf d.data.toList).getD 0 := ⟨_, rfl⟩
  obtain ⟨nb, hnb⟩ : ∃ nb, nb = (numOf d.data.toList).isSome := ⟨_, rfl⟩
  rw [← hnv, ← hnb]
  have HNV := hide hnv
  have HNB := hide hnb
  clear hnv hnb
  have hx3 := hx2.set1 (.int .i64 (nv : Int))
  have hl3 := hl2.setCell (p := ⟨w.heap.size, 1, none⟩) (Nat.le_refl _) (.int .i64 (nv : Int))
  obtain ⟨⟨c0, c1, c2⟩, f0, f1, f2⟩ := hx2.all
  have hl0 : Below w.heap.size w (w4.setCell ⟨w.heap.size, 1, none⟩ (.int .i64 (nv : Int))) := hb2.trans hl3
  have hlg : Below g w (w4.setCell ⟨w.heap.size, 1, none⟩ (.int .i64 (nv : Int))) := hl0.mono (by omega)
  cases lb with
  | false =>
    go_wp2
    go_ret
    have e : pieceF s.data.toList = none := by
      have h1 := unhide HLB
      have h2 := unhide HPF
      cases hh : letterOf c.data.toList with
      | none => rw [hh] at h2; exact h2
      | some l => rw [hh] at h1; simp at h1
    exact ⟨false, rfl, (fun p hp => by rw [e] at hp; cases hp), fun _ => rfl, hlg⟩
  | true =>
    cases nb with
    | false =>
      go_wp2
      go_ret
      have e : pieceF s.data.toList = none := by
        have h1 := unhide HNB
        have h2 := unhide HPF
        cases hh : numOf d.data.toList with
        | none =>
          rw [hh] at h2
          rw [h2]
          cases letterOf c.data.toList <;> rfl
        | some l => rw [hh] at h1; simp at h1
      exact ⟨false, rfl, (fun p hp => by rw [e] at hp; cases hp), fun _ => rfl, hlg⟩
    | true =>
      have hPF2 : pieceF s.data.toList = U.map fun ws => ⟨lv, (nv : Nat), ws⟩ := by
        have h1 := unhide HLB
        have h2 := unhide HNB
        have h3 := unhide HPF
        have h4 := unhide HLV
        have h5 := unhide HNV
        cases hh : letterOf c.data.toList with
        | none => rw [hh] at h1; simp at h1
        | some l =>
          cases hk : numOf d.data.toList with
          | none => rw [hk] at h2; simp at h2
          | some n =>
            rw [hh, hk] at h3
            rw [hh] at h4
            rw [hk] at h5
            rw [h3, h4, h5]
            rfl
      have hlv : lv < 256 := by rw [unhide HLV]; exact UInt8.toNat_lt _
      have HPF2 := hide hPF2
      clear hPF2 HPF HLB HNB HLV HNV hlg
      go_wp2
      clear c0 c1 c2 f0 f1 f2 hx2 hl2 hl3
      generalize w4.setCell ⟨w.heap.size, 1, none⟩ (.int .i64 (nv : Int)) = w5 at *
      go_loopw [6, 7] (fun sv mv wr => ∃ (t : ByteArray) (mo : Bool) (acc : List Wy) (u : Value), sv = .string t ∧ mv = .bool mo ∧ t.size ≤ s.size ∧ isPx wr w.heap.size (.int .u8 (lv : Int)) (.int .i64 (nv : Int)) u ∧ wr.ownsRow (w.heap.size + 1) 62 4 u (acc.take 9).length (wvals (acc.take 9)) ∧ Hid (∃ n, t.size < n ∧ U = if mo then (waysF n t.data.toList).map (acc ++ ·) else some acc) ∧ Below w.heap.size w wr) (fun sv mv _ => meas sv mv)
      case atStart =>
        refine ⟨b, f, [], .slice none 0 0, rfl, rfl, hb, hx3, World.ownsRow_nil _ _ _ _, hide ⟨s.data.toList.length + 1, by rw [len_data]; omega, ?_⟩, hl0⟩
        rw [unhide HU]
        cases f with
        | false => rfl
        | true => simp
      case round =>
        obtain ⟨t, mo, acc, u, rfl, rfl, hts, hpx, hrow, HW, hbr⟩ := hrel
        cases mo with
        | false =>
          obtain ⟨n, hn, hUe⟩ := unhide HW
          simp only [Bool.false_eq_true, if_false] at hUe
          obtain ⟨uo, un, uc, hue⟩ := row_slice hrow
          subst hue
          have hgl : g < w.heap.size := hglt
          have hrr : isRs wr g x v last := isRr.below (unhide HR) hbr hgl
          have hpk2 : isPk wr (g + 1) v qs (capP x.ps) := (unhide HPK).keep fun k _ hk => hbr.block k hk
          have hpv : Pv.is wr (g + 1) ⟨lv, (nv : Nat), uo, un, uc⟩ (Pc.cap ⟨lv, (nv : Nat), acc⟩) := ⟨rfl, hlv, rfl, row_mono hrow (by omega)⟩
          have hl11 : qs.length ≤ 11 := by rw [hpk2.len]; simp [capP]; omega
          obtain ⟨⟨c0, c1, c2⟩, f0, f1, f2⟩ := hpx.all
          have d6 := (isRr.cells hrr).2.2.2.2.2.2.1
          have hfz := isRr.frozen hrr 6
          have hszr := hbr.size
          have hup := upPiece_any (g + 1) v qs ⟨lv, (nv : Nat), uo, un, uc⟩ (wr.drew) (row_keep hpk2.row fun _ _ _ => rfl) hl11 (by show g + 1 ≤ wr.heap.size; omega)
          unfold Pv.val at hup
          have HUP := hide hup
          clear hup
          go_wp2
          go_region_with (first
            | (go_at_call 70; refine (unhide HUP).mono ?_; rintro e wu ⟨v', rfl, hrowu, hgru, hbu⟩; obtain ⟨vo, vn, vc, rfl⟩ := row_slice hrowu; have hfu : wu.frozen? ⟨g, 6, none⟩ = false := (hbu.frozen (p := ⟨g, 6, none⟩) (Nat.lt_succ_self _)).trans hfz; have hcu : wu.cell? ⟨g, 6, none⟩ = some v := (hbu.cell (p := ⟨g, 6, none⟩) (Nat.lt_succ_self _)).trans d6))
          all_goals (
            have hpk3 : isPk wr.drew (g + 1) v qs (capP x.ps) := hpk2.keep fun _ _ _ => rfl
            have hpv3 : Pv.is wr.drew (g + 1) ⟨lv, (nv : Nat), uo, un, uc⟩ (Pc.cap ⟨lv, (nv : Nat), acc⟩) := hpv.keep fun _ _ _ => rfl
            have hpk4 := hpk3.snoc hpv3 hrowu hgru
            have hpk5 : isPk (wu.setCell ⟨g, 6, none⟩ (.slice vo vn vc)) (g + 1) (.slice vo vn vc) _ _ := hpk4.keep fun k hk _ => Below.heap_setCell _ _ _ _ (by simp only; omega)
            have hrr5 := isRr.set6 (isRr.below (show isRs wr.drew g x v last from hrr) hbu (Nat.lt_succ_self _)) (.slice vo vn vc)
            have hbf : Below g w (wu.setCell ⟨g, 6, none⟩ (.slice vo vn vc)) := ((hbr.mono (by omega)).trans ((show Below g wr wr.drew from ⟨rfl, rfl, rfl, Nat.le_refl _, fun _ _ => rfl⟩).trans (hbu.mono (by omega)))).setCell (p := ⟨g, 6, none⟩) (Nat.le_refl _) _
            have HK5 := hide hpk5
            have HR5 := hide hrr5
            have HBF := hide hbf
            clear hpk3 hpv3 hpk4 hpk5 hrr5 hbf hrowu hgru hbu
            go_wp2
            go_ret
            refine ⟨true, rfl, fun p hp => ⟨rfl, ?_⟩, ?_, unhide HBF⟩
            · rw [unhide HPF2, hUe] at hp
              simp only [Option.map_some, Option.some.injEq] at hp
              subst hp
              have h5 := unhide HK5
              rw [← capP_snoc] at h5
              exact ⟨⟨_, _, unhide HR5, h5⟩, unhide HSZ⟩
            · intro hp
              rw [unhide HPF2, hUe] at hp
              cases hp)
        | true =>
          have hmr : wr.cell? ⟨0, 0, none⟩ = some (.int .i64 m) := by rw [hbr.cell (p := ⟨0, 0, none⟩) (by simp only; omega)]; exact unhide HM
          have hszr := hbr.size
          have hplt : w.heap.size < wr.heap.size := lt_of_block hpx
          go_wp2_with fail
          refine (Cut_any t ⟨#[44, 32]⟩ m wr (by omega) hmr).mono ?_
          rintro e wr1 ⟨a2, b2, f3, rfl, hc3, ha2, hbs2, hl1r, hz1r⟩
          have hmr1 : wr1.cell? ⟨0, 0, none⟩ = some (.int .i64 m) := by rw [hl1r.cell (p := ⟨0, 0, none⟩) (by simp only; omega)]; exact hmr
          have HC3 : Hid (Lib.cut t.data.toList [44, 32] = (a2.data.toList, b2.data.toList, f3)) := hide hc3
          clear hc3
          go_wp2_with fail
          refine (readWay_any a2 m wr1 (by omega) hmr1 (by omega)).mono ?_
          rintro e wr2 ⟨z, ok, rfl, hz, hl2r⟩
          have hpx2 : isPx wr2 w.heap.size (.int .u8 (lv : Int)) (.int .i64 (nv : Int)) u := (hpx.below hl1r hplt).below hl2r (by omega)
          have hrow2 := row_keep (row_keep hrow (w' := wr1) fun k _ hk => hl1r.block k hk) (w' := wr2) fun k _ hk => hl2r.block k hk
          have hbr2 : Below w.heap.size w wr2 := (hbr.trans (hl1r.mono (by omega))).trans (hl2r.mono (by omega))
          have hsz2 := hbr2.size
          clear hmr hmr1 hl1r hz1r hl2r hpx hrow hbr hszr hplt
          obtain ⟨n, hn, hUe⟩ := unhide HW
          simp only [if_true] at hUe
          obtain ⟨k, rfl⟩ : ∃ k, n = k + 1 := ⟨n - 1, by omega⟩
          cases ok with
          | false =>
            have e : pieceF s.data.toList = none := by
              rw [unhide HPF2, hUe, waysF_no _ _ _ (by rw [unhide HC3]; simpa using hz)]
              rfl
            have HE := hide e
            clear e hUe hz
            unfold Wy.v
            go_wp2
            go_ret
            exact ⟨false, rfl, (fun p hp => by rw [unhide HE] at hp; cases hp), fun _ => rfl, (hbr2.alloc hsz2 _).mono (by omega)⟩
          | true =>
            have hz' : wayOf a2.data.toList = some z := by simpa using hz
            have HW2 : Hid (∃ n, b2.size < n ∧ U = if f3 then (waysF n b2.data.toList).map ((acc ++ [z]) ++ ·) else some (acc ++ [z])) := by
              have hcut := unhide HC3
              have hz2 : wayOf (Lib.cut t.data.toList [44, 32]).1 = some z := by rw [hcut]; exact hz'
              cases f3 with
              | true =>
                have hf : (Lib.cut t.data.toList [44, 32]).2.2 = true := by rw [hcut]
                have hsh := cut_shorter t.data.toList [44, 32] (by simp) hf
                rw [hcut, len_data] at hsh
                simp only [len_data] at hsh
                refine hide ⟨k, by omega, ?_⟩
                rw [hUe, waysF_step _ _ _ _ hz2 hf, hcut]
                rfl
              | false =>
                have hf : (Lib.cut t.data.toList [44, 32]).2.2 = false := by rw [hcut]
                refine hide ⟨b2.size + 1, by omega, ?_⟩
                rw [hUe, waysF_last _ _ _ _ hz2 hf]
                rfl
            have HME : Hid (meas (.string b2) (.bool f3) < meas (.string t) (.bool true)) := by
              have hcut := unhide HC3
              refine hide ?_
              cases f3 with
              | true =>
                have hf : (Lib.cut t.data.toList [44, 32]).2.2 = true := by rw [hcut]
                have hsh := cut_shorter t.data.toList [44, 32] (by simp) hf
                rw [hcut, len_data] at hsh
                simp only [len_data] at hsh
                simp only [meas]
                omega
              | false => simp [meas]
            clear hUe hz hz' HW HC3 hn
            have hba : Below wr2.heap.size wr2 (wr2.alloc (.cells #[.int .i64 z.k, .int .i64 z.x, .int .i64 z.y, .int .i64 z.t] 62 (0, 0))) := (Below.refl _ wr2).alloc (Nat.le_refl _) _
            have hwx : isWx (wr2.alloc (.cells #[.int .i64 z.k, .int .i64 z.x, .int .i64 z.y, .int .i64 z.t] 62 (0, 0))) wr2.heap.size (.int .i64 z.k) (.int .i64 z.x) (.int .i64 z.y) (.int .i64 z.t) := heap_alloc_new wr2 _
            have hpx3 := hpx2.below hba (lt_of_block hpx2)
            have hrow3 := row_keep hrow2 fun k _ hk => hba.block k hk
            have hbr3 := hbr2.alloc hsz2 (.cells #[.int .i64 z.k, .int .i64 z.x, .int .i64 z.y, .int .i64 z.t] 62 (0, 0))
            have hplt : w.heap.size < wr2.heap.size := lt_of_block hpx2
            obtain ⟨⟨c0, c1, c2⟩, f0, f1, f2⟩ := hpx3.all
            obtain ⟨⟨d0, d1, d2, d3⟩, -⟩ := hwx.all
            unfold Wy.v
            go_wp2_with fail
            clear c0 c1 c2 d0 d1 d2 d3 f0 f1 f2 hpx2 hrow2 hbr2 hwx hba
            have hup := upWay_any (w.heap.size + 1) u (acc.take 9) z _ hrow3 (by simp; omega) (by simp; omega)
            unfold Wy.v at hup
            rw [← take_snoc9] at hup
            generalize wr2.alloc (.cells #[.int .i64 z.k, .int .i64 z.x, .int .i64 z.y, .int .i64 z.t] 62 (0, 0)) = wa at *
            refine hup.mono ?_
            rintro e wb ⟨u', rfl, hrowb, hbb⟩
            obtain ⟨uo, un, uc, rfl⟩ := row_slice hrowb
            have hpxb := hpx3.below hbb (Nat.lt_succ_self _)
            have hbrb : Below w.heap.size w wb := hbr3.trans (hbb.mono (by omega))
            have hpxc := hpxb.set2 (.slice uo un uc)
            have hbrc := hbrb.setCell (p := ⟨w.heap.size, 2, none⟩) (Nat.le_refl _) (.slice uo un uc)
            have hrowc : (wb.setCell ⟨w.heap.size, 2, none⟩ (.slice uo un uc)).ownsRow (w.heap.size + 1) 62 4 (.slice uo un uc) ((acc ++ [z]).take 9).length (wvals ((acc ++ [z]).take 9)) := row_keep hrowb fun k hk _ => Below.heap_setCell _ _ _ _ (by simp only; omega)
            obtain ⟨⟨c0, c1, c2⟩, f0, f1, f2⟩ := hpxb.all
            have HROW := hide hrowc
            clear hup hpx3 hrow3 hbr3 hbb hrowb hrowc hpxb hbrb
            go_wp2
            go_roundw
            case rel => exact ⟨b2, f3, acc ++ [z], .slice uo un uc, rfl, rfl, by omega, hpxc, unhide HROW, HW2, hbrc⟩
            case measure => exact unhide HME
end Go.Proofs.YtfhmpgjemobjhaaGreatDoor
