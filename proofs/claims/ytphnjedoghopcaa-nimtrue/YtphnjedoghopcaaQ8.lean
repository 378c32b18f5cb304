/-
  package nim, walked: sideBySide.
-/
import Derived.Test.YtphnjedoghopcaaQ7
import Derived.Deep.DeepCutAuto
namespace Go.Proofs.Ytphnjedoghopcaa
open Go.RowKit
attribute [local go_sem ↓] Go.wp_at_zero Go.wp_at_succ

theorem ltBlock {w : World} {g : Nat} {o : Obj} (h : w.heap[g]? = some o) : g < w.heap.size := (Array.getElem?_eq_some_iff.1 h).1
theorem row_keep {w w' : World} {base : Nat} {e : TypeId} {size n : Nat} {v : Value} {xs : List Value} (h : w.ownsRow base e size v n xs) (hk : ∀ k, base ≤ k → k < w.heap.size → w'.heap[k]? = w.heap[k]?) : w'.ownsRow base e size v n xs := by
  obtain ⟨h1, h2⟩ := h
  refine ⟨h1, ?_⟩
  rcases h2 with h2 | ⟨g, cap, cur, e1, hb, hg, r⟩
  · exact .inl h2
  · exact .inr ⟨g, cap, cur, e1, hb, (hk g hb (ltBlock hg)).trans hg, r⟩
theorem Try.infoL : (Try.prog.info? 22).map (fun i => (i.zero, i.size, i.bytes)) = some (some (.slice none 0 0), 1, 24) := by kernel_rfl
theorem made0 (t e : TypeId) (z : Value) (bytes : Nat) (ht : Try.prog.underlying t = some (.slice e)) (hi : (Try.prog.info? e).map (fun i => (i.zero, i.size, i.bytes)) = some (some z, 1, bytes)) (hb : bytes ≤ 100) (c : Nat) (hc : c ≤ 100000) :
    ∃ M : Array Value, M.size = c * 1 ∧ ∀ W, (Instr.makeSlice t (.int .i64 0) (.int .i64 (c : Int))).run Try.prog W = .ok (.slice (some ⟨W.heap.size, 0, none⟩) 0 c) (W.alloc (.cells M e (0, 0))) := by
  obtain ⟨i0, hi, hz0, hz1, hz2⟩ := info_parts hi
  refine ⟨madeCells z.cells (c * 1), size_madeCells _ _, fun W => ?_⟩
  have hm : (i0.bytes : Int) * (c : Int) ≤ 281474976710656 := by
    rw [hz2]
    have : bytes * c ≤ 100 * 100000 := Nat.mul_le_mul hb hc
    have h2 : (bytes : Int) * (c : Int) = ((bytes * c : Nat) : Int) := by simp
    omega
  have h := run_make (P := Try.prog) W t e i0 z ht hi hz0 .i64 .i64 0 (c : Int) (by omega) (by omega) hm (by omega)
  rw [h, hz1]
  simp
def ivals (l : List Int) : List Value := l.map fun n => Value.int .i64 n
theorem ivals_app (a b : List Int) : ivals (a ++ b) = ivals a ++ ivals b := by simp [ivals]
/-- A row of the graph that is told: its numbers, its block, its room. -/
structure Gr where
  r : List Int
  g : Nat
  c : Nat
def Gr.v (x : Gr) : Value := .slice (some ⟨x.g, 0, none⟩) x.r.length x.c
structure isGr (w : World) (base gb cap : Nat) (L : List Gr) : Prop where
  row : w.ownsRow base 22 1 (.slice (some ⟨gb, 0, none⟩) L.length cap) L.length (L.map Gr.v)
  kids : ∀ x ∈ L, base ≤ x.g ∧ x.g ≠ gb ∧ x.g < w.heap.size ∧ x.r.length ≤ x.c ∧ x.c ≤ maxLen ∧ ∀ (k : Nat) (y : Int), x.r[k]? = some y → w.cell? ⟨x.g, k, none⟩ = some (.int .i64 y)
theorem isGr.keep {w w' : World} {base gb cap : Nat} {L : List Gr} (h : isGr w base gb cap L) (hb : Below w.heap.size w w') : isGr w' base gb cap L :=
  ⟨row_keep h.row (fun k _ hk => hb.block k hk), fun x hx => by
    obtain ⟨h1, h2, h3, h4, h5, h6⟩ := h.kids x hx
    exact ⟨h1, h2, Nat.lt_of_lt_of_le h3 hb.size, h4, h5, fun k y hy => (hb.cell (p := ⟨x.g, k, none⟩) h3).trans (h6 k y hy)⟩⟩
theorem isGr.snoc {w w' : World} {base gb cap : Nat} {L : List Gr} (h : isGr w base gb cap L) (x : Gr) (hx : base ≤ x.g ∧ x.g ≠ gb ∧ x.g < w.heap.size ∧ x.r.length ≤ x.c ∧ x.c ≤ maxLen ∧ ∀ (k : Nat) (y : Int), x.r[k]? = some y → w.cell? ⟨x.g, k, none⟩ = some (.int .i64 y))
    (hrow : w'.ownsRow base 22 1 (.slice (some ⟨gb, 0, none⟩) (L.length + 1) cap) (L.length + 1) (L.map Gr.v ++ [x.v])) (hg : w.grownBy w' (some gb)) : isGr w' base gb cap (L ++ [x]) := by
  have kp : ∀ y : Gr, (base ≤ y.g ∧ y.g ≠ gb ∧ y.g < w.heap.size ∧ y.r.length ≤ y.c ∧ y.c ≤ maxLen ∧ ∀ (k : Nat) (z : Int), y.r[k]? = some z → w.cell? ⟨y.g, k, none⟩ = some (.int .i64 z)) → (base ≤ y.g ∧ y.g ≠ gb ∧ y.g < w'.heap.size ∧ y.r.length ≤ y.c ∧ y.c ≤ maxLen ∧ ∀ (k : Nat) (z : Int), y.r[k]? = some z → w'.cell? ⟨y.g, k, none⟩ = some (.int .i64 z)) := by
    rintro y ⟨h1, h2, h3, h4, h5, h6⟩
    exact ⟨h1, h2, Nat.lt_of_lt_of_le h3 hg.size, h4, h5, fun k z hz => (World.cell?_of_block (hg.block y.g h3 (by simpa using h2))).trans (h6 k z hz)⟩
  refine ⟨by rw [List.length_append, List.map_append]; exact hrow, fun y hy => ?_⟩
  rcases List.mem_append.1 hy with hy | hy
  · exact kp y (h.kids y hy)
  · simp only [List.mem_singleton] at hy
    subst hy
    exact kp y hx
theorem isGr.done {w : World} {base gb cap : Nat} {L : List Gr} (h : isGr w base gb cap L) : isG w w.heap.size (some ⟨gb, 0, none⟩) cap (L.map (·.r)) := by
  have h0 := h.row
  rcases h.row.2 with ⟨e, -⟩ | ⟨g, cap', cur, e, hb, hg, hn, hm, -⟩
  · cases e
  · simp only [Value.slice.injEq, Option.some.injEq, Addr.mk.injEq, and_true, true_and] at e
    obtain ⟨rfl, rfl⟩ := e
    refine ⟨by rw [List.length_map]; exact hn, hm, fun _ => ⟨gb, 0, rfl, ltBlock hg, fun i r hr => ?_⟩⟩
    rw [List.getElem?_map] at hr
    cases hx : L[i]? with
    | none => rw [hx] at hr; cases hr
    | some x =>
      rw [hx] at hr
      simp only [Option.map_some, Option.some.injEq] at hr
      subst hr
      have hi : i < L.length := (List.getElem?_eq_some_iff.1 hx).1
      obtain ⟨h1, h2, h3, h4, h5, h6⟩ := h.kids x (List.mem_of_getElem? hx)
      refine ⟨some ⟨x.g, 0, none⟩, x.c, ?_, h4, h5, fun _ => ⟨x.g, 0, rfl, h3, fun k y hy => by rw [Nat.zero_add]; exact h6 k y hy⟩⟩
      rw [Nat.zero_add, h0.cellAt _ (by omega), List.getElem?_map, hx]
      rfl
/-- What sideBySide leaves. -/
structure SideEnd (A C : List (List Int)) (w : World) (e : Ending) (w' : World) : Prop where
  low : Below w.heap.size w w'
  out : ∃ gb cap, e = .returned (.slice (some ⟨gb, 0, none⟩) (A.length * C.length) cap) ∧ isG w' w'.heap.size (some ⟨gb, 0, none⟩) cap (bothG A C)

set_option maxHeartbeats 4000000 in
set_option maxRecDepth 100000 in
theorem side_any (A C : List (List Int)) (okA : OkG A) (okC : OkG C) (hsz : A.length * C.length ≤ 1000) (hlen : ∀ (i : Nat) (a : List Int) (j : Nat) (c : List Int), A[i]? = some a → C[j]? = some c → a.length + c.length ≤ 1000)
    (aa ca : Option Addr) (ka kc : Nat) (w : World) (hA : isG w w.heap.size aa ka A) (hC : isG w w.heap.size ca kc C) :
    Calls Try.prog 26 #[.slice aa A.length ka, .slice ca C.length kc] w fun e w' => SideEnd A C w e w' := by
  have h1 := okA.len
  have h2 := okC.len
  have hla := hA.1
  have hlc := hC.1
  have hma := hA.2.1
  have hmc := hC.2.1
  unfold maxLen at hma hmc
  obtain ⟨P, hP⟩ : ∃ P, P = A.length * C.length := ⟨_, rfl⟩
  have hPi : (A.length : Int) * (C.length : Int) = (P : Int) := by rw [hP]; simp
  rw [← hP] at hsz
  obtain ⟨M, hMs, hmk⟩ := made0 53 22 _ 24 Try.underlying53 Try.infoL (by omega) P (by omega)
  obtain ⟨wa, hwa⟩ : ∃ wa, wa = w.alloc (.cells M 22 (0, 0)) := ⟨_, rfl⟩
  have hba : Below w.heap.size w wa := by rw [hwa]; exact (Below.refl _ _).alloc (Nat.le_refl _) _
  have hra : isGr wa w.heap.size w.heap.size P [] := ⟨by rw [hwa]; exact World.ownsRow_made w M P (Nat.le_refl _) (by unfold maxLen; omega) hMs, fun x hx => by simp at hx⟩
  have HA := hide hA
  have HC := hide hC
  have HP := hide hP
  have HBA := hide hba
  have HRA := hide hra
  have HWA := hide hwa
  have HOA := hide okA
  have HOC := hide okC
  have HLEN := hide hlen
  clear hA hC hP hba hra hwa hMs okA okC hlen
  go_enter Try.func26, Try.ntmps26
  go_wp2
  rw [← unhide HWA]
  clear HWA hmk
  go_loopw [5, 21] (fun bv iv wi => ∃ (i : Nat) (L : List Gr), i ≤ A.length ∧ iv = .int .i64 (i : Int) ∧ bv = .slice (some ⟨w.heap.size, 0, none⟩) L.length P ∧ isGr wi w.heap.size w.heap.size P L ∧ Hid (L.map (·.r) = (bothG A C).take (i * C.length)) ∧ Below w.heap.size w wi) (fun _ iv _ => A.length - (intOf iv).toNat)
  case atStart => exact ⟨0, [], Nat.zero_le _, rfl, rfl, unhide HRA, hide (by simp), unhide HBA⟩
  case round =>
    obtain ⟨i, L0, hi, rfl, rfl, hL0, HT0, hb0⟩ := hrel
    clear HRA HBA
    by_cases hlt : i < A.length
    · have hlti : (i : Int) < (A.length : Int) := by omega
      have hi0 : (0 : Int) ≤ (i : Int) := by omega
      have HL0 := hide hL0
      have HB0 := hide hb0
      clear hL0 hb0
      go_wp2
      go_loopw [5, 26] (fun bv jv wj => ∃ (j : Nat) (L : List Gr), j ≤ C.length ∧ jv = .int .i64 (j : Int) ∧ bv = .slice (some ⟨w.heap.size, 0, none⟩) L.length P ∧ isGr wj w.heap.size w.heap.size P L ∧ Hid (L.map (·.r) = (bothG A C).take (i * C.length + j)) ∧ Below w.heap.size w wj) (fun _ jv _ => C.length - (intOf jv).toNat)
      case atStart => exact ⟨0, L0, Nat.zero_le _, rfl, rfl, unhide HL0, HT0, unhide HB0⟩
      case round =>
        obtain ⟨j, L, hj, rfl, rfl, hL, HT, hb⟩ := hrel
        clear HL0 HB0 HT0
        by_cases hltj : j < C.length
        · have hltji : (j : Int) < (C.length : Int) := by omega
          have hj0 : (0 : Int) ≤ (j : Int) := by omega
          have ha := List.getElem?_eq_getElem hlt
          have hc := List.getElem?_eq_getElem hltj
          obtain ⟨ga, oa, ra, rka, e1, hga, ca0, hIa⟩ := (unhide HA).at_ ha
          obtain ⟨gc, oc, rc, rkc, e2, hgc, cc0, hIc⟩ := (unhide HC).at_ hc
          subst e1 e2
          have hnew := bothG_at ha hc
          have hal := unhide HLEN i _ j _ ha hc
          have hina := (unhide HOA).in_ i _ ha
          have hinc := (unhide HOC).in_ j _ hc
          generalize A[i] = a at *
          generalize C[j] = c at *
          have hLl : L.length = i * C.length + j := by
            have := congrArg List.length (unhide HT)
            rw [List.length_map, List.length_take, bothG_len] at this
            have := pair_lt hlt hltj
            omega
          have hLP : L.length < P := by rw [hLl, unhide HP]; exact pair_lt hlt hltj
          rename World => wj
          have e0 := (hb.cell (p := ⟨ga, oa + i, none⟩) hga).trans ca0
          have e3 := (hb.cell (p := ⟨gc, oc + j, none⟩) hgc).trans cc0
          have hwj : w.heap.size ≤ wj.heap.size := hb.size
          have hral := hIa.1
          have hram := hIa.2.1
          have hrcl := hIc.1
          have hrcm := hIc.2.1
          unfold maxLen at hram hrcm
          obtain ⟨N, hN⟩ : ∃ N, N = a.length + c.length := ⟨_, rfl⟩
          have hNi : (a.length : Int) + (c.length : Int) = (N : Int) := by omega
          have hNw : IntKind.i64.wrap (N : Int) = (N : Int) := by unfold IntKind.wrap; simp [IntKind.signed, IntKind.bits]; omega
          obtain ⟨M2, hM2, hmk2⟩ := made0 22 3 _ 8 Try.underlying22 Try.infoI (by omega) N (by omega)
          have HR0 : Hid (∀ u : World, u.heap = (wj.alloc (.cells M2 3 (0, 0))).heap → u.ownsRow wj.heap.size 3 1 (.slice (some ⟨wj.heap.size, 0, none⟩) 0 N) 0 []) := hide fun u hu => by
            have := World.ownsRow_made wj M2 N (Nat.le_refl _) (by unfold maxLen; omega) hM2 (e := 3) (size := 1)
            exact row_keep this (fun k _ _ => by rw [hu])
          have HN := hide hN
          clear hN
          have HLJ := hide hL
          have HBJ := hide hb
          have HIa := hide hIa
          have HIc := hide hIc
          have HNEW := hide hnew
          have HINA := hide hina
          have HINC := hide hinc
          have HLl := hide hLl
          clear hL hb hIa hIc hnew hina hinc hLl ha hc ca0 cc0
          go_upto_region 8 with fail
          go_cut [8] (fun ov wz => ov = .slice (some ⟨wj.heap.size, 0, none⟩) 0 N ∧ wz.ownsRow wj.heap.size 3 1 ov 0 [] ∧ Below wj.heap.size wj wz)
          case first =>
            go_region_held3 (fun u => u.cell? ⟨ga, oa + i, none⟩ = some (.slice ra a.length rka) ∧ u.cell? ⟨gc, oc + j, none⟩ = some (.slice rc c.length rkc)) (first | (go_keep; done) | with_reducible exact ⟨e0, e3⟩) (fail)
            all_goals go_wp2
            all_goals go_meet
            all_goals exact ⟨rfl, unhide HR0 _ rfl, ((Below.refl _ wj).alloc (Nat.le_refl _) _).drew⟩
          case rest =>
            obtain ⟨rfl, hr0, hbz⟩ := hcut
            have e4 := (hbz.cell (p := ⟨ga, oa + i, none⟩) (by dsimp only; omega)).trans e0
            have HRZ := hide hr0
            have HBZ := hide hbz
            clear hr0 hbz hmk2 HR0 e0
            obtain ⟨i0, hinfo, hz0, hz1, hz2⟩ := info_parts Try.infoI
            obtain ⟨i1, hinfo1, hy0, hy1, hy2⟩ := info_parts Try.infoL
            have HZ := hide hz1
            have HZ0 := hide hz0
            have HZ2 := hide hz2
            have HY := hide hy1
            have HI0 := hide hinfo
            have HI1 := hide hinfo1
            clear hz0 hz1 hz2 hy0 hy1 hy2 hinfo hinfo1
            go_wp2
            go_loopw [8, 46] (fun ov kv wk => ∃ k : Nat, k ≤ a.length ∧ kv = .int .i64 (k : Int) ∧ ov = .slice (some ⟨wj.heap.size, 0, none⟩) k N ∧ wk.ownsRow wj.heap.size 3 1 ov k (ivals ((a.take k).map fun x => x * (C.length : Int) + (j : Int))) ∧ Below wj.heap.size wj wk) (fun _ kv _ => a.length - (intOf kv).toNat)
            case atStart => exact ⟨0, Nat.zero_le _, rfl, rfl, by simpa [ivals] using unhide HRZ, unhide HBZ⟩
            case round =>
              obtain ⟨k, hk, rfl, rfl, hown, hbk⟩ := hrel
              clear HRZ HBZ e4
              by_cases hltk : k < a.length
              · have hltki : (k : Int) < (a.length : Int) := by omega
                have hk0 : (0 : Int) ≤ (k : Int) := by omega
                have hx := List.getElem?_eq_getElem hltk
                obtain ⟨g2, o2, ee, hg2, cx⟩ := (unhide HIa).at_ hx
                subst ee
                have cx' := (hbk.cell (p := ⟨g2, o2 + k, none⟩) (by dsimp only; omega)).trans (((unhide HBJ).cell (p := ⟨g2, o2 + k, none⟩) hg2).trans cx)
                have hin := unhide HINA a[k] (List.getElem_mem hltk)
                have htk : a.take (k + 1) = a.take k ++ [a[k]] := List.take_succ_eq_append_getElem hltk
                clear hx cx
                generalize a[k] = x at *
                obtain ⟨X, rfl⟩ := Int.eq_ofNat_of_zero_le hin.1
                obtain ⟨Q, hQ⟩ : ∃ Q, Q = X * C.length := ⟨_, rfl⟩
                have hQi : (X : Int) * (C.length : Int) = (Q : Int) := by rw [hQ]; simp
                have hQb : Q ≤ 1000000 := by rw [hQ]; exact Nat.mul_le_mul (show X ≤ 1000 by omega) h2
                have HE : Hid (ivals ((a.take (k + 1)).map fun x => x * (C.length : Int) + (j : Int)) = ivals ((a.take k).map fun x => x * (C.length : Int) + (j : Int)) ++ [.int .i64 ((Q : Int) + (j : Int))]) := hide (by rw [htk, List.map_append, ivals_app, ← hQi]; rfl)
                rename World => wk
                obtain ⟨xs, hxs⟩ : ∃ xs, xs = ivals ((a.take k).map fun x => x * (C.length : Int) + (j : Int)) := ⟨_, rfl⟩
                rw [← hxs] at hown HE
                have HOW := hide hown
                have HBK := hide hbk
                clear hown hbk hQ htk hxs
                go_wp2_with (at_builtin; refine wpList_append_fits _ rfl _ _ 22 rfl wj.heap.size 3 i0 1 Try.underlying22 (unhide HI0) (unhide HZ) wj.heap.size k N _ rfl ((unhide HOW).alloc _) ⟨wk.heap.size, 0, none⟩ 1 1 [.int .i64 ((Q : Int) + (j : Int))] rfl rfl ?c1 ?c2 ?c3 ?_)
                case c1 =>
                  intro m u hm
                  match m, hm with
                  | 0, hm => simp at hm; subst hm; simp [Addr.add]
                case c2 =>
                  intro u hu
                  simp only [List.mem_singleton] at hu
                  subst hu; rfl
                case c3 => have := unhide HN; omega
                intro w5 hown5 hg5
                have hb5 : Below wj.heap.size wj w5 := ((unhide HBK).alloc (unhide HBK).size _).grown hg5 (by simp; have := (unhide HBK).size; omega) (fun k hk => by cases hk; exact Nat.le_refl _)
                have HB5 := hide hb5
                have HO5 : Hid (w5.ownsRow wj.heap.size 3 1 (.slice (some ⟨wj.heap.size, 0, none⟩) (k + 1) N) (k + 1) (ivals ((a.take (k + 1)).map fun x => x * (C.length : Int) + (j : Int)))) := hide (by rw [unhide HE]; exact hown5)
                clear hown5 hg5 hb5
                go_wp2
                go_roundw
                case rel => exact ⟨k + 1, by omega, by go_num, rfl, unhide HO5, unhide HB5⟩
                case measure => simp only [intOf]; omega
              · have hltki : ¬ (k : Int) < (a.length : Int) := by omega
                obtain rfl : k = a.length := by omega
                rw [List.take_length] at hown
                have e5 := (hbk.cell (p := ⟨gc, oc + j, none⟩) (by dsimp only; omega)).trans e3
                have HOW := hide hown
                have HBK := hide hbk
                clear hown hbk
                go_wp2
                go_loopw [8, 65] (fun ov kv wk => ∃ k : Nat, k ≤ c.length ∧ kv = .int .i64 (k : Int) ∧ ov = .slice (some ⟨wj.heap.size, 0, none⟩) (a.length + k) N ∧ wk.ownsRow wj.heap.size 3 1 ov (a.length + k) (ivals ((a.map fun x => x * (C.length : Int) + (j : Int)) ++ (c.take k).map fun y => ((i * C.length : Nat) : Int) + y)) ∧ Below wj.heap.size wj wk) (fun _ kv _ => c.length - (intOf kv).toNat)
                case atStart => exact ⟨0, Nat.zero_le _, rfl, rfl, by simpa using unhide HOW, unhide HBK⟩
                case round =>
                  obtain ⟨k, hk, rfl, rfl, hown, hbk⟩ := hrel
                  clear HOW HBK e5
                  by_cases hltk : k < c.length
                  · have hltki : (k : Int) < (c.length : Int) := by omega
                    have hk0 : (0 : Int) ≤ (k : Int) := by omega
                    have hx := List.getElem?_eq_getElem hltk
                    obtain ⟨g2, o2, ee, hg2, cx⟩ := (unhide HIc).at_ hx
                    subst ee
                    have cx' := (hbk.cell (p := ⟨g2, o2 + k, none⟩) (by dsimp only; omega)).trans (((unhide HBJ).cell (p := ⟨g2, o2 + k, none⟩) hg2).trans cx)
                    have hin := unhide HINC c[k] (List.getElem_mem hltk)
                    have htk : c.take (k + 1) = c.take k ++ [c[k]] := List.take_succ_eq_append_getElem hltk
                    clear hx cx
                    generalize c[k] = x at *
                    obtain ⟨X, rfl⟩ := Int.eq_ofNat_of_zero_le hin.1
                    obtain ⟨Q, hQ⟩ : ∃ Q, Q = i * C.length := ⟨_, rfl⟩
                    have hQi : (i : Int) * (C.length : Int) = (Q : Int) := by rw [hQ]; simp
                    have hQb : Q ≤ 1000000 := by rw [hQ]; exact Nat.mul_le_mul (show i ≤ 1000 by omega) h2
                    have HE : Hid (ivals ((a.map fun x => x * (C.length : Int) + (j : Int)) ++ (c.take (k + 1)).map fun y => ((i * C.length : Nat) : Int) + y) = ivals ((a.map fun x => x * (C.length : Int) + (j : Int)) ++ (c.take k).map fun y => ((i * C.length : Nat) : Int) + y) ++ [.int .i64 ((Q : Int) + (X : Int))]) := hide (by rw [htk, List.map_append, ← List.append_assoc, ivals_app, hQ]; rfl)
                    rename World => wk
                    obtain ⟨xs, hxs⟩ : ∃ xs, xs = ivals ((a.map fun x => x * (C.length : Int) + (j : Int)) ++ (c.take k).map fun y => ((i * C.length : Nat) : Int) + y) := ⟨_, rfl⟩
                    rw [← hxs] at hown HE
                    have HOW := hide hown
                    have HBK := hide hbk
                    clear hown hbk hQ htk hxs
                    go_wp2_with (at_builtin; refine wpList_append_fits _ rfl _ _ 22 rfl wj.heap.size 3 i0 1 Try.underlying22 (unhide HI0) (unhide HZ) wj.heap.size (a.length + k) N _ rfl ((unhide HOW).alloc _) ⟨wk.heap.size, 0, none⟩ 1 1 [.int .i64 ((Q : Int) + (X : Int))] rfl rfl ?c1 ?c2 ?c3 ?_)
                    case c1 =>
                      intro m u hm
                      match m, hm with
                      | 0, hm => simp at hm; subst hm; simp [Addr.add]
                    case c2 =>
                      intro u hu
                      simp only [List.mem_singleton] at hu
                      subst hu; rfl
                    case c3 => have := unhide HN; omega
                    intro w5 hown5 hg5
                    have hb5 : Below wj.heap.size wj w5 := ((unhide HBK).alloc (unhide HBK).size _).grown hg5 (by simp; have := (unhide HBK).size; omega) (fun k hk => by cases hk; exact Nat.le_refl _)
                    have HB5 := hide hb5
                    have HO5 : Hid (w5.ownsRow wj.heap.size 3 1 (.slice (some ⟨wj.heap.size, 0, none⟩) (a.length + k + 1) N) (a.length + k + 1) (ivals ((a.map fun x => x * (C.length : Int) + (j : Int)) ++ (c.take (k + 1)).map fun y => ((i * C.length : Nat) : Int) + y))) := hide (by rw [unhide HE]; exact hown5)
                    clear hown5 hg5 hb5
                    go_wp2
                    go_roundw
                    case rel => exact ⟨k + 1, by omega, by go_num, rfl, unhide HO5, unhide HB5⟩
                    case measure => simp only [intOf]; omega
                  · have hltki : ¬ (k : Int) < (c.length : Int) := by omega
                    obtain rfl : k = c.length := by omega
                    rw [List.take_length] at hown
                    rename World => wk
                    obtain ⟨x, hx⟩ : ∃ x : Gr, x = ⟨rowAB C.length i j a c, wj.heap.size, N⟩ := ⟨_, rfl⟩
                    have hxl : x.r.length = a.length + c.length := by rw [hx]; simp [rowAB]
                    have hxv : x.v = .slice (some ⟨wj.heap.size, 0, none⟩) (a.length + c.length) N := by unfold Gr.v; rw [hxl, hx]
                    have hgwk := (World.ownsRow.lt hown wj.heap.size rfl).2
                    have HLK := hide ((unhide HLJ).keep hbk)
                    have hgj : w.heap.size < wj.heap.size := by
                      rcases (unhide HLJ).row.2 with ⟨e, -⟩ | ⟨g, cap, cur, e, hb, hg, -⟩
                      · cases e
                      · simp only [Value.slice.injEq, Option.some.injEq, Addr.mk.injEq, and_true, true_and] at e
                        rw [e.1]; exact ltBlock hg
                    have hkid : ∀ u : World, Below wk.heap.size wk u → w.heap.size ≤ x.g ∧ x.g ≠ w.heap.size ∧ x.g < u.heap.size ∧ x.r.length ≤ x.c ∧ x.c ≤ maxLen ∧ ∀ (m : Nat) (y : Int), x.r[m]? = some y → u.cell? ⟨x.g, m, none⟩ = some (.int .i64 y) := by
                      intro u hu
                      have hs := hu.size
                      refine ⟨by rw [hx]; exact hwj, by rw [hx]; simp only; omega, by rw [hx]; simp only; omega, by rw [hxl, hx]; have := unhide HN; simp only; omega, by rw [hx]; unfold maxLen; simp only; omega, fun m y hy => ?_⟩
                      have hm := (List.getElem?_eq_some_iff.1 hy).1
                      have h3 := hown.cellAt m (by omega)
                      rw [hx]
                      refine (hu.cell (p := ⟨wj.heap.size, m, none⟩) hgwk).trans (h3.trans ?_)
                      rw [hx] at hy
                      unfold ivals
                      rw [List.getElem?_map, show (a.map (fun x => x * (C.length : Int) + (j : Int)) ++ c.map fun y => ((i * C.length : Nat) : Int) + y)[m]? = some y from hy]
                      rfl
                    have HKID := hide hkid
                    have HBK := hide hbk
                    have hTT : (L ++ [x]).map (·.r) = (bothG A C).take (i * C.length + (j + 1)) := by
                      rw [List.map_append, unhide HT, ← Nat.add_assoc, List.take_add_one, unhide HNEW, hx]
                      rfl
                    have HTT := hide hTT
                    have HXV := hide hxv
                    clear hown hbk hkid hTT hxv hx hxl
                    go_wp2_with (at_builtin; refine wpList_append_fits _ rfl _ _ 53 rfl w.heap.size 22 i1 1 Try.underlying53 (unhide HI1) (unhide HY) w.heap.size L.length P _ rfl ((unhide HLK).row.alloc _) ⟨wk.heap.size, 0, none⟩ 1 1 [.slice (some ⟨wj.heap.size, 0, none⟩) (a.length + c.length) N] rfl rfl ?c1 ?c2 ?c3 ?_)
                    case c2 => rfl
                    case c3 => omega
                    intro w5 hown5 hg5
                    rw [← unhide HXV] at hown5
                    have HB5 : Hid (Below w.heap.size w w5) := hide (((((unhide HBJ).trans ((unhide HBK).mono hwj)).alloc (by have := (unhide HBK).size; omega) _)).grown hg5 (by simp; have := (unhide HBK).size; omega) (fun k hk => by cases hk; exact Nat.le_refl _))
                    have HL5 : Hid (isGr w5 w.heap.size w.heap.size P (L ++ [x])) := hide (((unhide HLK).keep ((Below.refl _ _).alloc (Nat.le_refl _) _)).snoc x (unhide HKID _ ((Below.refl _ _).alloc (Nat.le_refl _) _)) hown5 hg5)
                    have HLL : Hid ((L ++ [x]).length = L.length + 1) := hide (by simp)
                    clear hown5 hg5
                    go_wp2
                    go_roundw
                    case rel => exact ⟨j + 1, L ++ [x], by omega, by go_num, by rw [unhide HLL], unhide HL5, HTT, unhide HB5⟩
                    case measure => simp only [intOf]; omega
        · have hltji : ¬ (j : Int) < (C.length : Int) := by omega
          obtain rfl : j = C.length := by omega
          have HL := hide hL
          have HB := hide hb
          have HTT : Hid (L.map (·.r) = (bothG A C).take ((i + 1) * C.length)) := hide (by rw [Nat.add_mul, Nat.one_mul]; exact unhide HT)
          clear hL hb
          go_wp2
          go_roundw
          case rel => exact ⟨i + 1, L, by omega, by go_num, rfl, unhide HL, HTT, unhide HB⟩
          case measure => simp only [intOf]; omega
    · have hlti : ¬ (i : Int) < (A.length : Int) := by omega
      obtain rfl : i = A.length := by omega
      have HG : Hid (isG wr wr.heap.size (some ⟨w.heap.size, 0, none⟩) P (bothG A C)) := hide (by
        have := hL0.done
        rw [unhide HT0, List.take_of_length_le (by rw [bothG_len]; exact Nat.le_refl _)] at this
        exact this)
      have HB := hide hb0
      have HLL : Hid (L0.length = A.length * C.length) := hide (by
        have := congrArg List.length (unhide HT0)
        rw [List.length_map, List.length_take, bothG_len] at this
        omega)
      clear hL0 hb0
      go_wp2
      go_ret
      refine ⟨unhide HB, w.heap.size, P, ?_, unhide HG⟩
      rw [← unhide HLL]
      rfl
end Go.Proofs.Ytphnjedoghopcaa
