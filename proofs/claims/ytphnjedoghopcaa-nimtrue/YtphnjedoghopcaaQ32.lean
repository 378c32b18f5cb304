/-
  The document's answer: gameref.Grundies.
-/
import Derived.Test.YtphnjedoghopcaaQ31
import Derived.Test.YtphnjedoghopcaaM43
namespace Go.Proofs.Ytphnjedoghopcaa
open Go.RowKit
attribute [local go_sem ↓] Go.wp_at_zero Go.wp_at_succ

def boolNN : Value → Nat
  | .bool true => 1
  | _ => 0
structure GsEnd (D : List Nat) (n : Nat) (w : World) (e : Ending) (w' : World) : Prop where
  low : Below w.heap.size w w'
  out : ∃ ao cap, e = .returned (.slice ao (n + 1) cap) ∧ isIs w' w'.heap.size ao cap (natI (grL D (n + 1)))
theorem isTk.done {w : World} {base : Nat} {v : Value} {l : List (List Nat)} (h : isTk w base v l) : ∃ ao cap, v = .slice ao l.length cap ∧ isG w w.heap.size ao cap (l.map natI) := by
  obtain ⟨L, h1, h2⟩ := h
  obtain ⟨ao, cap, hv, hG⟩ := h1.done
  rw [h2] at hG
  exact ⟨ao, cap, by rw [hv, show L.length = l.length by have := congrArg List.length h2; simpa using this], hG⟩
theorem isG.nat {w : World} {B : Nat} {ao : Option Addr} {cap : Nat} {l : List (List Nat)} (h : isG w B ao cap (l.map natI)) {i : Nat} {x : List Nat} (hx : l[i]? = some x) : ∃ g off ro rc, ao = some ⟨g, off, none⟩ ∧ g < B ∧ w.cell? ⟨g, off + i, none⟩ = some (.slice ro x.length rc) ∧ isIs w B ro rc (natI x) := by
  obtain ⟨g, off, ro, rc, e, hg, c, hI⟩ := h.at_ (i := i) (r := natI x) (by rw [List.getElem?_map, hx]; rfl)
  rw [natI_len] at c
  exact ⟨g, off, ro, rc, e, hg, c, hI⟩

set_option maxHeartbeats 4000000 in
set_option maxRecDepth 100000 in
theorem rGrundies_any (s : ByteArray) (n : Nat) (w : World) (hcd : codeB s = true) (hn : n ≤ 400) :
    Calls Try.prog 11 #[.string s, .int .i64 (n : Int)] w fun e w' => GsEnd (digs (dig s)) n w e w' := by
  obtain ⟨h6, hdg⟩ := code_dig hcd
  obtain ⟨D, hD⟩ : ∃ D, D = digs (dig s) := ⟨_, rfl⟩
  have hD6 : D.length ≤ 6 := by rw [hD, digs_len]; exact h6
  have HTKS : Hid (∀ (k : Nat) (u : World), k ≤ 400 → Calls Try.prog 12 #[.string s, .int .i64 (k : Int)] u fun e w' => TkEnd (tks D k) u e w') := hide (fun k u hk => by rw [hD]; exact takings_any s k u hcd hk)
  rw [← hD]
  obtain ⟨i0, hinfo, hz0, hz1, hz2⟩ := info_parts Try.infoI
  have HI0 := hide hinfo
  have HZ0 := hide hz0
  have HZ1 := hide hz1
  have HZ2 := hide hz2
  clear hinfo hz0 hz1 hz2 hD h6 hdg hcd
  go_enter Try.func11, Try.ntmps11
  go_wp2
  go_loopw [5, 6] (fun gv hv wr => ∃ h : Nat, h ≤ n + 1 ∧ hv = .int .i64 (h : Int) ∧ wr.ownsRow w.heap.size 3 1 gv h (nvals (grL D h)) ∧ Below w.heap.size w wr) (fun _ hv _ => n + 1 - (intOf hv).toNat)
  case atStart => exact ⟨0, Nat.zero_le _, rfl, ⟨rfl, .inl ⟨rfl, rfl⟩⟩, Below.refl _ _⟩
  case round =>
    obtain ⟨h, hh, rfl, hrow, hb⟩ := hrel
    rename World => wh
    obtain ⟨uo, uc, hgv⟩ := row_len hrow
    subst hgv
    by_cases hlt : h ≤ n
    · have hlti : (h : Int) ≤ (n : Int) := by omega
      have h400 : h ≤ 400 := by omega
      have HTK := hide (unhide HTKS h wh h400)
      have HROW := hide hrow
      have HB := hide hb
      clear hrow hb
      go_wp2_with fail
      refine (unhide HTK).mono ?_
      rintro e w3 ⟨hb3, tv, rfl, htk⟩
      obtain ⟨to_, tc, htv, hG⟩ := htk.done
      subst htv
      obtain ⟨T, hT⟩ : ∃ T, T = tks D h := ⟨_, rfl⟩
      rw [← hT] at hG ⊢
      have hTl : T.length ≤ 2412 := by rw [hT]; exact tks_len hD6 h400
      obtain ⟨W, hW⟩ : ∃ W, W = grL D h := ⟨_, rfl⟩
      have hWl : W.length = h := by rw [hW]; exact grL_len D h
      have hWv : ∀ i : Nat, W[i]! < 4096 := fun i => by
        by_cases hik : i < h
        · rw [hW, grL_at D hik]; exact gr_lt hD6 (by omega)
        · rw [getElem!_neg W i (by omega)]; show 0 < 4096; omega
      have hlx : ∀ (i : Nat) (x : List Nat), T[i]? = some x → (∀ y ∈ x, y < h) ∧ x.length ≤ 2 := fun i x hx => by
        have hm := List.mem_of_getElem? hx
        rw [hT] at hm
        exact ⟨fun y hy => ((tks_lt hm).1 y hy).2, (tks_lt hm).2⟩
      have hrow3 : w3.ownsRow w.heap.size 3 1 (.slice uo h uc) h (nvals W) := by rw [hW]; exact row_keep (unhide HROW) (fun k _ hk => hb3.block k hk)
      obtain ⟨uo', uc', huv, hIW⟩ := isIs_of_row (L := W) (by rw [hWl]; exact hrow3)
      simp only [Value.slice.injEq] at huv
      obtain ⟨rfl, -, rfl⟩ := huv
      obtain ⟨M, hM⟩ : ∃ M, M = mexN (T.map (xorL W)) := ⟨_, rfl⟩
      have hMb : M ≤ 2412 := by rw [hM]; have := mex_le (T.map (xorL W)); rw [List.length_map] at this; omega
      have hgl := hG.1
      have hgm := hG.2.1
      rw [List.length_map] at hgl
      unfold maxLen at hgm
      have HG := hide hG
      have HIW := hide hIW
      have HWV := hide hWv
      have HLX := hide hlx
      have HM := hide hM
      have HT := hide hT
      have HW := hide hW
      have HROW3 := hide hrow3
      have HB3 := hide ((unhide HB).trans (hb3.mono (unhide HB).size))
      clear hb3 htk hG hIW hWv hlx hM hT hW hrow3 HTK HROW HB
      go_wp2
      go_loop [8, 9] (fun vv av => ∃ (v : Nat) (ab : Bool), v ≤ M ∧ vv = .int .i64 (v : Int) ∧ av = .bool ab ∧ Hid (∀ j, j < v → j ∈ T.map (xorL W)) ∧ Hid (ab = false → v ∉ T.map (xorL W))) (fun vv av => 2 * (M - (intOf vv).toNat) + boolNN av)
      case atStart => exact ⟨0, true, Nat.zero_le _, rfl, rfl, hide (fun j hj => by omega), hide (fun h => by cases h)⟩
      case round =>
        obtain ⟨v, ab, hv, rfl, rfl, HLW, HNO⟩ := hrel
        cases ab with
        | true =>
          go_wp2
          go_loop [8, 9, 10] (fun vv av iv => ∃ (i v' : Nat) (ab : Bool), i ≤ T.length ∧ iv = .int .i64 (i : Int) ∧ v ≤ v' ∧ v' ≤ M ∧ vv = .int .i64 (v' : Int) ∧ av = .bool ab ∧ Hid (∀ j, j < v' → j ∈ T.map (xorL W)) ∧ Hid ((ab = true → v < v') ∧ (ab = false → v' = v ∧ v ∉ (T.take i).map (xorL W)))) (fun _ _ iv => T.length - (intOf iv).toNat)
          case atStart => exact ⟨0, v, false, Nat.zero_le _, rfl, Nat.le_refl _, hv, rfl, rfl, HLW, hide ⟨(fun h => by cases h), fun _ => ⟨rfl, by simp⟩⟩⟩
          case round =>
            obtain ⟨i, v', ab, hi, rfl, hvv, hvM, rfl, rfl, HLW2, HAB⟩ := hrel
            by_cases hlti2 : i < T.length
            · have hltii : (i : Int) < (T.length : Int) := by omega
              have hi0 : (0 : Int) ≤ (i : Int) := by omega
              have hx := List.getElem?_eq_getElem hlti2
              have htk2 : T.take (i + 1) = T.take i ++ [T[i]] := List.take_succ_eq_append_getElem hlti2
              have hmem := List.getElem_mem hlti2
              obtain ⟨hly, hl2⟩ := unhide HLX i _ hx
              obtain ⟨g, off, ro, rc, e, hg, cx, hIx⟩ := (unhide HG).nat hx
              subst e
              clear hx
              generalize T[i] = x at *
              have hxl := hIx.1
              have hxm := hIx.2.1
              rw [natI_len] at hxl
              unfold maxLen at hxm
              have HIX := hide hIx
              have HLY := hide hly
              clear hIx hly
              go_wp2
              go_loop [11, 12] (fun xv kv => ∃ (k X : Nat), k ≤ x.length ∧ kv = .int .i64 (k : Int) ∧ xv = .int .i64 (X : Int) ∧ X < 4096 ∧ Hid (X = xorL W (x.take k))) (fun _ kv => x.length - (intOf kv).toNat)
              case atStart => exact ⟨0, 0, Nat.zero_le _, rfl, rfl, by omega, hide rfl⟩
              case round =>
                obtain ⟨k, X, hk, rfl, rfl, hX, HX⟩ := hrel
                by_cases hltk : k < x.length
                · have hltki : (k : Int) < (x.length : Int) := by omega
                  have hk0 : (0 : Int) ≤ (k : Int) := by omega
                  obtain ⟨g2, o2, e2, hg2, c2⟩ := (unhide HIX).nat hltk
                  subst e2
                  have hy : x[k]! < h := by rw [getElem!_pos x k hltk]; exact unhide HLY _ (List.getElem_mem hltk)
                  obtain ⟨g3, o3, e3, hg3, c3⟩ := (unhide HIW).nat (k := x[k]!) (by omega)
                  subst e3
                  have hv1 := unhide HWV x[k]!
                  have htk3 : x.take (k + 1) = x.take k ++ [x[k]!] := by rw [getElem!_pos x k hltk]; exact List.take_succ_eq_append_getElem hltk
                  generalize x[k]! = y at *
                  have hxs : xorL W (x.take (k + 1)) = X ^^^ W[y]! := by rw [htk3, unhide HX]; unfold xorL; rw [List.foldl_append]; rfl
                  have hyi : (y : Int) < (h : Int) := by omega
                  have hy0 : (0 : Int) ≤ (y : Int) := by omega
                  generalize W[y]! = z at *
                  have hxx := xor_i64 X z (by omega) (by omega)
                  have hb' : X ^^^ z < 4096 := Nat.xor_lt_two_pow (n := 12) hX hv1
                  generalize X ^^^ z = Z at *
                  have HXS := hide hxs.symm
                  clear hxs htk3
                  go_wp2
                  go_round
                  case rel => exact ⟨k + 1, Z, by omega, by go_num, rfl, hb', HXS⟩
                  case measure => simp only [intOf]; omega
                · have hltki : ¬ (k : Int) < (x.length : Int) := by omega
                  have hXe : X = xorL W x := by rw [unhide HX, List.take_of_length_le (by omega)]
                  have hyk : X ∈ T.map (xorL W) := by rw [hXe]; exact List.mem_map_of_mem hmem
                  have hyt : (T.take (i + 1)).map (xorL W) = (T.take i).map (xorL W) ++ [X] := by rw [htk2, List.map_append, hXe]; rfl
                  by_cases hy : X = v'
                  · have hyb : ((X : Int) == (v' : Int)) = true := by simp [hy]
                    have HL3 : Hid (∀ j, j < v' + 1 → j ∈ T.map (xorL W)) := hide (fun j hj => by
                      rcases Nat.lt_succ_iff_lt_or_eq.1 hj with h | h
                      · exact unhide HLW2 j h
                      · rw [h, ← hy]; exact hyk)
                    have hv1 : v' + 1 ≤ M := by rw [unhide HM]; exact low_le (unhide HL3)
                    clear hyt htk2 hmem hyk hy hXe
                    go_wp2
                    go_round
                    case rel => exact ⟨i + 1, v' + 1, true, by omega, by go_num, by omega, hv1, by go_num, rfl, HL3, hide ⟨fun _ => by omega, (fun h => by cases h)⟩⟩
                    case measure => simp only [intOf]; omega
                  · have hyb : ((X : Int) == (v' : Int)) = false := beq_eq_false_iff_ne.2 (by omega)
                    have HAB2 : Hid ((ab = true → v < v') ∧ (ab = false → v' = v ∧ v ∉ (T.take (i + 1)).map (xorL W))) := hide ⟨(unhide HAB).1, fun h => by
                      obtain ⟨h1, h2⟩ := (unhide HAB).2 h
                      refine ⟨h1, fun h3 => ?_⟩
                      rw [hyt] at h3
                      rcases List.mem_append.1 h3 with h3 | h3
                      · exact h2 h3
                      · simp only [List.mem_singleton] at h3
                        omega⟩
                    clear hyt htk2 hmem hyk hy hXe
                    go_wp2
                    go_round
                    case rel => exact ⟨i + 1, v', ab, by omega, by go_num, by omega, hvM, rfl, rfl, HLW2, HAB2⟩
                    case measure => simp only [intOf]; omega
            · have hltii : ¬ (i : Int) < (T.length : Int) := by omega
              have hab := unhide HAB
              rw [List.take_of_length_le (by omega)] at hab
              have HAB2 := hide hab
              clear hab HAB
              cases ab with
              | true =>
                have hlt3 := (unhide HAB2).1 rfl
                go_wp2
                go_round
                case rel => exact ⟨v', true, hvM, rfl, rfl, HLW2, hide (fun h => by cases h)⟩
                case measure => simp only [intOf, boolNN]; omega
              | false =>
                have hh2 := (unhide HAB2).2 rfl
                have HNN : Hid (false = false → v' ∉ T.map (xorL W)) := hide (fun _ => by rw [hh2.1]; exact hh2.2)
                clear hh2
                go_wp2
                go_round
                case rel => exact ⟨v', false, hvM, rfl, rfl, HLW2, HNN⟩
                case measure => simp only [intOf, boolNN]; omega
        | false =>
          have hvm : v = M := by rw [unhide HM]; exact mex_eq (unhide HNO rfl) (unhide HLW)
          have hnx : nvals (grL D (h + 1)) = nvals W ++ [.int .i64 (v : Int)] := by
            rw [grL, hvm, unhide HM, unhide HT, ← unhide HW]; simp [nvals]
          have HNX := hide hnx
          have HGE := hide (own_ge (unhide HROW3))
          have HNA := hide (news_at w3 (.int .i64 (v : Int)) 3 (g := w3.heap.size) rfl)
          have hw3 := (unhide HB3).size
          clear hvm hnx
          go_wp2_with (at_builtin; refine wpList_append_own _ rfl _ _ 22 rfl w.heap.size 3 i0 _ 1 8 Try.underlying22 (unhide HI0) (unhide HZ0) (unhide HZ1) (unhide HZ2) rfl (by decide) _ h _ rfl ((unhide HROW3).alloc _) ⟨w3.heap.size, 0, none⟩ 1 1 [.int .i64 (v : Int)] rfl rfl (unhide HNA) (one_at rfl) (by unfold maxLen; omega) (by omega) (by first | omega | (simp; omega)) ?_)
          intro v5 w5 hown5 hg5 _
          have HB5 : Hid (Below w.heap.size w w5) := hide (((unhide HB3).alloc hw3 _).grown hg5 (by first | omega | (simp; omega)) (unhide HGE))
          have HO5 : Hid (w5.ownsRow w.heap.size 3 1 v5 (h + 1) (nvals (grL D (h + 1)))) := hide (by rw [unhide HNX]; exact hown5)
          clear hown5 hg5
          go_wp2
          go_roundw
          case rel => exact ⟨h + 1, by omega, by go_num, unhide HO5, unhide HB5⟩
          case measure => simp only [intOf]; omega
    · have hlti : ¬ (h : Int) ≤ (n : Int) := by omega
      have hhe : h = n + 1 := by omega
      have HE : Hid (GsEnd D n w (.returned (.slice uo h uc)) wh) := hide ⟨hb, uo, uc, by rw [hhe], by
        obtain ⟨ao', cap', he, hI⟩ := isIs_of_row (L := grL D h) (by rw [grL_len]; exact hrow)
        simp only [Value.slice.injEq] at he
        obtain ⟨rfl, -, rfl⟩ := he
        rw [← hhe]; exact hI⟩
      clear hrow hb hhe
      go_wp2
      go_ret
      exact unhide HE
end Go.Proofs.Ytphnjedoghopcaa
