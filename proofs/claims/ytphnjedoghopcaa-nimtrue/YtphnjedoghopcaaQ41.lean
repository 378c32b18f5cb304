/-
  The closure of NimTrue: the position behind a move.
-/
import Derived.Test.YtphnjedoghopcaaQ40
import Derived.Deep.RegionLawGrows
namespace Go.Proofs.Ytphnjedoghopcaa
open Go.RowKit
attribute [local go_sem ↓] Go.wp_at_zero Go.wp_at_succ

/-- What the closure leaves. -/
structure AfEnd (D l : List Nat) (w : World) (e : Ending) (w' : World) : Prop where
  low : Below w.heap.size w w'
  few : l.length ≤ 20 → e = .returned (.tuple #[.bool (winO D l).isSome, .int .i64 0])
  many : ¬ l.length ≤ 20 → e = .returned (.tuple #[.bool false, .int .i64 4])
theorem ivals_len (r : List Int) : (ivals r).length = r.length := by simp [ivals]
theorem ivals_one (r : List Int) : ∀ u ∈ ivals r, u.oneCell' = true := fun u hu => by
  simp only [ivals, List.mem_map] at hu
  obtain ⟨x, -, rfl⟩ := hu
  rfl
theorem natI_app (a b : List Nat) : natI (a ++ b) = natI a ++ natI b := by simp [natI]
/-- The cells of a part of a row. -/
theorem part_at {w : World} {g off : Nat} {r q : List Int} (d : Nat) (h : ∀ (k : Nat) (x : Int), r[k]? = some x → w.cell? ⟨g, off + k, none⟩ = some (.int .i64 x)) (hq : ∀ (k : Nat) (x : Int), q[k]? = some x → r[d + k]? = some x) (ad : Addr) (had : q ≠ [] → ad = ⟨g, off + d, none⟩) : ∀ (j : Nat) (u : Value), (ivals q)[j]? = some u → w.cell? (ad.add j) = some u := by
  intro j u hj
  simp only [ivals, List.getElem?_map, Option.map_eq_some_iff] at hj
  obtain ⟨x, hx, rfl⟩ := hj
  have hne : q ≠ [] := fun e => by subst e; simp at hx
  rw [had hne]
  have := h (d + j) x (hq j x hx)
  rw [← Nat.add_assoc] at this
  rw [show (⟨g, off + d, none⟩ : Addr).add j = ⟨g, off + d + j, none⟩ by simp [Addr.add]]
  exact this
theorem run_append_no {P : Program} {w : World} (base : Nat) (t ty e : TypeId) (i : TypeInfo) (size : Nat) (ht : P.underlying t = some (.slice e)) (hi : P.info? e = some i) (v : Value) (n c : Nat) (xs : List Value) (hown : w.ownsRow base e size v n xs) :
    (Builtin.append_ #[t, t] ty #[v, .slice none 0 c]).run P w = .ok v w := by
  rcases hown.2 with ⟨rfl, rfl⟩ | ⟨g, cap, cur, rfl, _, _, hnc, _⟩
  · simp [Builtin.append_, run_underlying ht, sizeOf, typeInfo, hi, Builtin.lenOf, Builtin.firstCells]
  · simp [Builtin.append_, run_underlying ht, sizeOf, typeInfo, hi, Builtin.lenOf, Builtin.firstCells, hnc, storeCells]
theorem step_append_list {P : Program} {ops : Array Oper} {o : Oper} {a : Act} {w : World} {K : Act → World → Prop} {Q : Exit → Act → World → Prop} {E : Prop}
    (hg : o.guard = none) (s x : Operand) (t : TypeId) (hop : o.op = Op.call { callee := Callee.builtin Builtin.append, args := #[s, x], argTypes := #[t, t] })
    (base : Nat) (e : TypeId) (i : TypeInfo) (z : Value) (size bytes : Nat) (h1 : P.underlying t = some (.slice e)) (h2 : P.info? e = some i) (h3 : i.zero = some z) (h4 : i.size = size) (h5 : i.bytes = bytes) (h6 : z.cells.size = size) (h7 : 0 < size)
    (v : Value) (n : Nat) (xs : List Value) (hs : a.eval s = v) (hown : w.ownsRow base e size v n xs)
    (ao : Option Addr) (m c : Nat) (news : List Value) (hx : a.eval x = .slice ao m c) (hn : news.length = m * size) (hno : ao = none → m = 0) (hc : ∀ ad, ao = some ad → ∀ j u, news[j]? = some u → w.cell? (ad.add j) = some u) (h1c : ∀ u ∈ news, u.oneCell' = true)
    (b1 : n + m ≤ maxLen) (b2 : (n + m) * bytes ≤ 140737488355328) (hbase : base ≤ w.heap.size)
    (hK : ∀ v' w', w'.ownsRow base e size v' (n + m) (xs ++ news) → w.grownBy w' v.ownBlock → K (a.put o.dst v') w') :
    if Region.wanted o (yielded ops a.tmps) = true then Oper.wp P o a w K Q else E := by
  cases ao with
  | some ad => exact step_append_own hg s x t hop base e i z size bytes h1 h2 h3 h4 h5 h6 h7 v n xs hs hown ad m c news hx hn (hc ad rfl) h1c b1 b2 hbase hK
  | none =>
    obtain rfl : m = 0 := hno rfl
    have hnil : news = [] := List.eq_nil_of_length_eq_zero (by omega)
    subst hnil
    have hw : Region.wanted o (yielded ops a.tmps) = true := by simp [Region.wanted, hg]
    rw [if_pos hw]
    have hrun := run_append_no (P := P) (w := w) base t o.type e i size h1 h2 v n c xs hown
    unfold Oper.wp
    simp [execOp, hop, resolve, invoke, builtin, hs, hx, hrun, Result.andThen]
    exact hK v w (by rw [List.append_nil]; exact hown) ⟨rfl, rfl, rfl, Nat.le_refl _, fun _ _ _ => rfl⟩
theorem entWin : ∀ args (u : World), (callFunc 8 args).run Try.prog u = .ok (.enter 8 args) u := enters_of Try.func8 (by kernel_rfl) rfl

set_option maxHeartbeats 4000000 in
set_option maxRecDepth 100000 in
theorem after_any (s : ByteArray) (hs x : List Nat) (i : Nat) (ho xo : Option Addr) (hc xc b2 b3 : Nat) (w : World) (hss : s.size ≤ maxLen) (hcd : codeB s = true) (hi : i < hs.length) (h20 : hs.length ≤ 20) (h400 : ∀ n ∈ hs, n ≤ 400) (hx400 : ∀ n ∈ x, n ≤ 400) (hxl : x.length ≤ 20)
    (hH : isIs w w.heap.size ho hc (natI hs)) (hX : isIs w w.heap.size xo xc (natI x)) (h3 : isSb w b3 (.slice ho hs.length hc) 22) (h2 : isSb w b2 (.string s) 9) :
    Calls Try.prog 17 #[.int .i64 (i : Int), .slice xo x.length xc, .pointer (some ⟨b3, 0, none⟩), .pointer (some ⟨b2, 0, none⟩)] w fun e w' => AfEnd (digs (dig s)) (aft hs i x) w e w' := by
  obtain ⟨i0, hinfo, hz0, hz1, hz2⟩ := info_parts Try.infoI
  have HI0 := hide hinfo
  have HZ0 := hide hz0
  have HZ1 := hide hz1
  have HZ2 := hide hz2
  clear hinfo hz0 hz1 hz2
  have hl := hH.1
  have hm := hH.2.1
  unfold maxLen at hm
  rw [natI_len] at hl
  obtain ⟨g, off, e, hg, hcl⟩ := hH.2.2 (fun e => by have := congrArg List.length e; rw [natI_len, List.length_nil] at this; omega)
  subst e
  obtain ⟨c3, -⟩ := h3.cell
  obtain ⟨c2, -⟩ := h2.cell
  have c3d : w.drew.cell? ⟨b3, 0, none⟩ = some (.slice (some ⟨g, off, none⟩) hs.length hc) := c3
  obtain ⟨i1, hi1⟩ : ∃ i1, i1 = i + 1 := ⟨_, rfl⟩
  have hii : (i : Int) + 1 = (i1 : Int) := by omega
  have hi1l : i1 ≤ hs.length := by omega
  obtain ⟨A1, hA1⟩ : ∃ A, A = hs.take i := ⟨_, rfl⟩
  obtain ⟨A2, hA2⟩ : ∃ A, A = hs.drop i1 := ⟨_, rfl⟩
  have hA1l : A1.length = i := by rw [hA1, List.length_take]; omega
  have hA2l : A2.length = hs.length - i1 := by rw [hA2, List.length_drop]
  have haft : aft hs i x = A1 ++ A2 ++ x := by rw [hA1, hA2, hi1]; rfl
  rw [haft]
  have hn1 : (ivals (natI A1)).length = i * 1 := by rw [ivals_len, natI_len]; omega
  have hat1 : ∀ (u : World), u.heap[g]? = w.heap[g]? → ∀ (j : Nat) (v : Value), (ivals (natI A1))[j]? = some v → u.cell? ((⟨g, off, none⟩ : Addr).add j) = some v := fun u hu =>
    part_at (r := natI hs) 0 (fun k y hy => (World.cell?_of_block (a := ⟨g, off + k, none⟩) hu).trans (hcl k y hy)) (fun k y hy => by
      rw [hA1] at hy
      simp only [natI, List.getElem?_map, Option.map_eq_some_iff, List.getElem?_take] at hy ⊢
      obtain ⟨z, hz, rfl⟩ := hy
      split at hz
      · exact ⟨z, by rw [Nat.zero_add]; exact hz, rfl⟩
      · cases hz) _ (fun _ => rfl)
  have hat2 : ∀ (u : World) (ad : Addr), u.heap[g]? = w.heap[g]? → (hs.length ≠ i1 → ad = ⟨g, off + i1, none⟩) → ∀ (j : Nat) (v : Value), (ivals (natI A2))[j]? = some v → u.cell? (ad.add j) = some v := fun u ad hu had =>
    part_at (r := natI hs) i1 (fun k y hy => (World.cell?_of_block (a := ⟨g, off + k, none⟩) hu).trans (hcl k y hy)) (fun k y hy => by
      rw [hA2] at hy
      simp only [natI, List.getElem?_map, Option.map_eq_some_iff, List.getElem?_drop] at hy ⊢
      exact hy) _ (fun hne => had (fun e => hne (by rw [hA2, ← e, List.drop_length]; rfl)))
  have hn2 : (ivals (natI A2)).length = (hs.length - i1) * 1 := by rw [ivals_len, natI_len]; omega
  have HAT1 := hide (hat1 w.drew rfl)
  have HN1 := hide hn1
  have HN2 := hide hn2
  have HO1 := hide (ivals_one (natI A1))
  have HO2 := hide (ivals_one (natI A2))
  have HR0 : Hid (w.drew.ownsRow w.heap.size 3 1 (.slice none 0 0) 0 []) := hide ⟨rfl, .inl ⟨rfl, rfl⟩⟩
  have H3 := hide h3
  have H2 := hide h2
  have HG := hide hg
  have HP1 : Hid (∀ v' w', w'.ownsRow w.heap.size 3 1 v' (0 + i) ([] ++ ivals (natI A1)) → w.drew.grownBy w' (Value.slice none 0 0).ownBlock → w'.cell? ⟨b3, 0, none⟩ = some (.slice (some ⟨g, off, none⟩) hs.length hc) ∧ Below w.heap.size w w' ∧ (∀ (ad : Addr), (hs.length ≠ i1 → ad = ⟨g, off + i1, none⟩) → ∀ (j : Nat) (v : Value), (ivals (natI A2))[j]? = some v → w'.cell? (ad.add j) = some v)) := hide (fun v' w' _ hgr => by
    have hb : Below w.heap.size w w' := ⟨hgr.os, hgr.tape, hgr.output, hgr.size, fun k hk => hgr.block k hk (by simp [Value.ownBlock])⟩
    exact ⟨((isSb.cell (t := 22) ((hb.block _ h3.lt).trans h3)).1), hb, fun ad => hat2 w' ad (hb.block g hg)⟩)
  have HALL : Hid (∀ n ∈ A1 ++ A2 ++ x, n ≤ 400) := hide (fun n hn => by
    rw [List.mem_append, List.mem_append, hA1, hA2] at hn
    rcases hn with (hn | hn) | hn
    · exact h400 n (List.mem_of_mem_take hn)
    · exact h400 n (List.mem_of_mem_drop hn)
    · exact hx400 n hn)
  have hik : (0 : Int) ≤ (i : Int) := by omega
  have hihc : (i : Int) ≤ (hc : Int) := by omega
  have hi1k : (0 : Int) ≤ (i1 : Int) := by omega
  have hi1h : (i1 : Int) ≤ (hs.length : Int) := by omega
  have hlc : (hs.length : Int) ≤ (hc : Int) := by omega
  have hw1 : IntKind.i64.wrap (i1 : Int) = (i1 : Int) := by unfold IntKind.wrap; simp [IntKind.signed, IntKind.bits]; omega
  have HX := hide hX
  have HB1 : Hid (0 + i ≤ maxLen) := hide (by unfold maxLen; omega)
  have HB2 : Hid ((0 + i) * 8 ≤ 140737488355328) := hide (by omega)
  have HB3 : Hid (0 + i + (hs.length - i1) ≤ maxLen) := hide (by unfold maxLen; omega)
  have HB4 : Hid ((0 + i + (hs.length - i1)) * 8 ≤ 140737488355328) := hide (by omega)
  have HBS : Hid (w.heap.size ≤ w.drew.heap.size) := hide (Nat.le_refl _)
  have HA1 := hide hA1l
  have HA2 := hide hA2l
  clear hat1 hat2 hn1 hn2 h3 h2 hg hcl hH c3 hA1 hA2 hA1l hA2l haft hX hi1
  have HCUT : Hid (∀ v1 w1 v2 w2, w1.ownsRow w.heap.size 3 1 v1 (0 + i) ([] ++ ivals (natI A1)) → Below w.heap.size w w1 → w2.ownsRow w.heap.size 3 1 v2 (0 + i + (hs.length - i1)) ([] ++ ivals (natI A1) ++ ivals (natI A2)) → w1.grownBy w2 v1.ownBlock → w2.ownsRow w.heap.size 3 1 v2 (A1 ++ A2).length (ivals (natI (A1 ++ A2))) ∧ Below w.heap.size w w2) := hide (fun v1 w1 v2 w2 h1 hb1 h2 hg2 => by
    refine ⟨?_, hb1.trans ⟨hg2.os, hg2.tape, hg2.output, hg2.size, fun k hk => hg2.block k (by have := hb1.size; omega) (fun e => by have := own_ge h1 k e.symm; omega)⟩⟩
    rw [natI_app, ivals_app, List.length_append, unhide HA1, unhide HA2]
    rw [Nat.zero_add, List.nil_append] at h2
    exact h2)
  go_enter Try.func17, Try.ntmps17
  go_upto_region 1 with fail
  go_cut [8] (fun v wz => wz.ownsRow w.heap.size 3 1 v (A1 ++ A2).length (ivals (natI (A1 ++ A2))) ∧ Below w.heap.size w wz)
  case first =>
    by_cases hce : hc = i1
    · subst hce
      have HDL : Hid (hs.length - hc = 0) := hide (by omega)
      have HEQ : Hid (hs.length = hc) := hide (by omega)
      have hih : i ≤ hc := by omega
      go_region_law (first
        | (refine step_append_own rfl (.const (.slice none 0 0)) (.tmp 14) 22 rfl w.heap.size 3 i0 _ 1 8 Try.underlying22 (unhide HI0) (unhide HZ0) (unhide HZ1) (unhide HZ2) rfl (by decide) (.slice none 0 0) 0 [] (by simp [Act.eval]) (unhide HR0) ⟨g, off, none⟩ i hc (ivals (natI A1)) (by simp [Act.eval, Act.put]) (unhide HN1) (unhide HAT1) (unhide HO1) (unhide HB1) (unhide HB2) (unhide HBS) ?_; intro v1 w1 hown1 hg1; obtain ⟨k3, hb1, hat2⟩ := unhide HP1 v1 w1 hown1 hg1; obtain ⟨vo1, vc1, hv1⟩ := row_len hown1; subst hv1; have HOWN1 := hide hown1; have HBB1 := hide hb1; have HAT2 := hide hat2; clear hown1 hb1 hat2 hg1)
        | (refine step_append_own rfl (.tmp 15) (.tmp 19) 22 rfl w.heap.size 3 i0 _ 1 8 Try.underlying22 (unhide HI0) (unhide HZ0) (unhide HZ1) (unhide HZ2) rfl (by decide) _ (0 + i) _ (by simp [Act.eval, Act.put]) (unhide HOWN1) ⟨g, off, none⟩ (hs.length - hc) 0 (ivals (natI A2)) (by simp [Act.eval, Act.put, unhide HDL]) (unhide HN2) (unhide HAT2 _ (fun h => absurd (unhide HEQ) h)) (unhide HO2) (unhide HB3) (unhide HB4) (unhide HBB1).size ?_; intro v2 w2 hown2 hg2; have HC := hide (unhide HCUT _ _ _ _ (unhide HOWN1) (unhide HBB1) hown2 hg2); obtain ⟨vo2, vc2, hv2⟩ := row_len hown2; subst hv2; clear hown2 hg2))
      all_goals go_wp2
      all_goals go_meet
      all_goals (have := unhide HC; simp only [unhide HDL, Nat.zero_add, Nat.add_zero] at this; exact this)
    · have hcei : ¬ (hc : Int) = (i1 : Int) := by omega
      go_region_law (first
        | (refine step_append_own rfl (.const (.slice none 0 0)) (.tmp 14) 22 rfl w.heap.size 3 i0 _ 1 8 Try.underlying22 (unhide HI0) (unhide HZ0) (unhide HZ1) (unhide HZ2) rfl (by decide) (.slice none 0 0) 0 [] (by simp [Act.eval]) (unhide HR0) ⟨g, off, none⟩ i hc (ivals (natI A1)) (by simp [Act.eval, Act.put]) (unhide HN1) (unhide HAT1) (unhide HO1) (unhide HB1) (unhide HB2) (unhide HBS) ?_; intro v1 w1 hown1 hg1; obtain ⟨k3, hb1, hat2⟩ := unhide HP1 v1 w1 hown1 hg1; obtain ⟨vo1, vc1, hv1⟩ := row_len hown1; subst hv1; have HOWN1 := hide hown1; have HBB1 := hide hb1; have HAT2 := hide hat2; clear hown1 hb1 hat2 hg1)
        | (refine step_append_own rfl (.tmp 15) (.tmp 19) 22 rfl w.heap.size 3 i0 _ 1 8 Try.underlying22 (unhide HI0) (unhide HZ0) (unhide HZ1) (unhide HZ2) rfl (by decide) _ (0 + i) _ (by simp [Act.eval, Act.put]) (unhide HOWN1) ⟨g, off + i1, none⟩ (hs.length - i1) (hc - i1) (ivals (natI A2)) (by simp [Act.eval, Act.put]) (unhide HN2) (unhide HAT2 _ (fun _ => rfl)) (unhide HO2) (unhide HB3) (unhide HB4) (unhide HBB1).size ?_; intro v2 w2 hown2 hg2; have HC := hide (unhide HCUT _ _ _ _ (unhide HOWN1) (unhide HBB1) hown2 hg2); obtain ⟨vo2, vc2, hv2⟩ := row_len hown2; subst hv2; clear hown2 hg2))
      all_goals go_wp2
      all_goals go_meet
      all_goals simpa only [Nat.zero_add] using unhide HC
  case rest =>
    obtain ⟨hown, hbc⟩ := hcut
    obtain ⟨M, hM⟩ : ∃ M, M = (A1 ++ A2).length := ⟨_, rfl⟩
    have hM20 : M ≤ 20 := by rw [hM, List.length_append, unhide HA1, unhide HA2]; omega
    rw [← hM] at hown
    obtain ⟨vo, vc, hv8⟩ := row_len hown
    subst hv8
    have hlt := World.ownsRow.lt hown
    obtain ⟨N, hN⟩ : ∃ N, N = ivals (natI (A1 ++ A2)) := ⟨_, rfl⟩
    rw [← hN] at hown
    obtain ⟨l, hll⟩ : ∃ l, l = A1 ++ A2 ++ x := ⟨_, rfl⟩
    have hlen : l.length = M + x.length := by rw [hll, hM, List.length_append]
    have hlv : ivals (natI l) = N ++ ivals (natI x) := by rw [hll, natI_app, ivals_app, hN]
    have HLL := hide hll
    have HAP : Hid (∀ u, Below wc.heap.size wc u → u.ownsRow w.heap.size 3 1 (.slice vo M vc) M N ∧ (∀ ad, xo = some ad → ∀ j v, (ivals (natI x))[j]? = some v → u.cell? (ad.add j) = some v) ∧ w.heap.size ≤ u.heap.size ∧ u.cell? ⟨b2, 0, none⟩ = some (.string s)) := hide (fun u hu => by
      have hbu := hbc.trans (hu.mono hbc.size)
      refine ⟨row_keep hown (fun k hk h2 => hu.block k h2), fun ad had j v hj => ?_, by have := hbc.size; have := hu.size; omega, (isSb.cell (t := 9) ((hbu.block _ (unhide H2).lt).trans (unhide H2))).1⟩
      obtain ⟨-, -, q⟩ := (unhide HX)
      obtain ⟨g', off', e', hg', hc'⟩ := q (fun e => by rw [e] at hj; simp [ivals] at hj)
      rw [had] at e'
      cases e'
      exact part_at 0 (fun k y hy => (World.cell?_of_block (a := ⟨g', off' + k, none⟩) (hbu.block _ hg')).trans (hc' k y hy)) (fun k y hy => by rw [Nat.zero_add]; exact hy) _ (fun _ => rfl) j v hj)
    have HAQ : Hid (∀ u, Below wc.heap.size wc u → ∀ v2 w2, w2.ownsRow w.heap.size 3 1 v2 (M + x.length) (N ++ ivals (natI x)) → u.grownBy w2 (Value.slice vo M vc).ownBlock → ∃ ao cap, v2 = .slice ao l.length cap ∧ Below w.heap.size w w2 ∧ (∀ u2, Below w2.heap.size w2 u2 → u2.cell? ⟨b2, 0, none⟩ = some (.string s) ∧ Calls Try.prog 8 #[.string s, .slice ao l.length cap] u2 fun e w' => WiEnd s (natI l) u2 e w') ∧ ∀ k, wc.heap.size ≤ k → k < u.heap.size → w2.heap[k]? = u.heap[k]?) := hide (fun u hu v2 w2 hown2 hg2 => by
      have hbu := hbc.trans (hu.mono hbc.size)
      have hb2 : Below w.heap.size w w2 := hbu.trans ⟨hg2.os, hg2.tape, hg2.output, hg2.size, fun k hk => hg2.block k (by have := hbu.size; omega) (fun e => by have := (hlt k e.symm).1; omega)⟩
      rw [← hlv, ← hlen] at hown2
      have hnl : (natI l).length = l.length := natI_len l
      rw [← hnl] at hown2
      obtain ⟨ao, cap, hv2, h1, h2, h3⟩ := isIsP.of_row hown2
      rw [hnl] at hv2
      refine ⟨ao, cap, hv2, hb2, fun u2 hu2 => ?_, fun k hk1 hk2 => hg2.block k hk2 (fun e => by have := (hlt k e.symm).2; omega)⟩
      have hbu2 := hb2.trans (hu2.mono hb2.size)
      refine ⟨(isSb.cell (t := 9) ((hbu2.block _ (unhide H2).lt).trans (unhide H2))).1, ?_⟩
      have hI : isIs w2 w2.heap.size ao cap (natI l) := ⟨h1, h2, fun hne => by
        obtain ⟨g', off', e', hS, hc'⟩ := h3 hne
        exact ⟨g', off', e', hS.2, hc'⟩⟩
      have := Win_any s (natI l) ao cap u2 hss (hI.up hu2)
      rw [hnl] at this
      exact this)
    have HEND : Hid (∀ u2 e w3, Below w.heap.size w u2 → WiEnd s (natI l) u2 e w3 → ∃ (b : Bool) (j : Int) (lo : Option Addr) (ll lc : Nat) (E : Int), e = .returned (.tuple #[.bool b, .agg #[.int .i64 j, .slice lo ll lc], .int .i64 E]) ∧ Below w.heap.size w w3 ∧ (∀ w4, Below w.heap.size w w4 → AfEnd (digs (dig s)) l w (.returned (.tuple #[.bool b, .int .i64 E])) w4)) := hide (fun u2 e w3 hb2 hwi => by
      obtain ⟨b, j, lo, ll, lc, E, he, hF⟩ := hwi.form hcd
      refine ⟨b, j, lo, ll, lc, E, he, hb2.trans (hwi.low.mono hb2.size), fun w4 h4 => ⟨h4, fun h20 => ?_, fun h20 => ?_⟩⟩
      · have hall : ∀ n ∈ l, n ≤ 400 := fun n hn => unhide HALL n (hll ▸ hn)
        cases ho : winO (digs (dig s)) l with
        | none =>
          obtain ⟨rfl, -, -, rfl⟩ := hF.lost l rfl ⟨h20, hall⟩ ho
          rfl
        | some p =>
          obtain ⟨k, y⟩ := p
          obtain ⟨rfl, -, -, rfl, -⟩ := hF.won l k y rfl ⟨h20, hall⟩ ho
          rfl
      · obtain ⟨rfl, -, -, rfl⟩ := hF.range (fun h => h20 (by have := h.1; rw [natI_len] at this; exact this))
        rfl)
    have HBD : Hid (Below wc.heap.size wc wc.drew) := hide (Below.refl _ _).drew
    have HBA : Hid (∀ o, Below wc.heap.size wc (wc.alloc o).drew) := hide (fun o => ((Below.refl _ _).alloc (Nat.le_refl _) o).drew)
    have cd1 : wc.drew.cell? ⟨b2, 0, none⟩ = some (.string s) := (unhide HAP _ (unhide HBD)).2.2.2
    have cd2 : ∀ o, (wc.alloc o).drew.cell? ⟨b2, 0, none⟩ = some (.string s) := fun o => (unhide HAP _ (unhide HBA o)).2.2.2
    have cd3 : ∀ o, (wc.alloc o).cell? ⟨b2, 0, none⟩ = some (.string s) := cd2
    have HNX : Hid ((ivals (natI x)).length = x.length * 1) := hide (by rw [ivals_len, natI_len, Nat.mul_one])
    have HOX := hide (ivals_one (natI x))
    have HXN : Hid (xo = none → x.length = 0) := hide (fun e => by
      obtain ⟨-, -, q⟩ := unhide HX
      cases x with
      | nil => rfl
      | cons y ys =>
        obtain ⟨g', off', e', -⟩ := q (fun h => by simp [natI] at h)
        rw [e] at e'; cases e')
    have HC1 : Hid (M + x.length ≤ maxLen) := hide (by unfold maxLen; omega)
    have HC2 : Hid ((M + x.length) * 8 ≤ 140737488355328) := hide (by omega)
    have HWC := hide hbc.size
    clear hown hbc hlt hN hM hll hlen hlv HCUT HP1 HAT1 HR0 HN1 HN2 HO1 HO2 HA1 HA2 HB1 HB2 HB3 HB4 HBS H3 H2 HG HX c2 c3d
    go_upto_region 2 with fail
    go_region_law (first
      | (refine step_append_list rfl (.tmp 23) (.tmp 24) 22 rfl w.heap.size 3 i0 _ 1 8 Try.underlying22 (unhide HI0) (unhide HZ0) (unhide HZ1) (unhide HZ2) rfl (by decide) (.slice vo M vc) M N (by first | (simp [Act.eval]; done) | simp [Act.eval, Act.put]) (unhide HAP _ (unhide HBD)).1 xo x.length xc (ivals (natI x)) (by first | (simp [Act.eval]; done) | simp [Act.eval, Act.put]) (unhide HNX) (unhide HXN) (unhide HAP _ (unhide HBD)).2.1 (unhide HOX) (unhide HC1) (unhide HC2) (unhide HAP _ (unhide HBD)).2.2.1 ?_; intro v2 w2 hown2 hg2; obtain ⟨ao, cap, hv2, hb2, hq2, -⟩ := unhide HAQ _ (unhide HBD) v2 w2 hown2 hg2; subst hv2; have HQ2 := hide hq2; have HB2 := hide hb2; have ce1 := (hq2 w2 (Below.refl _ _)).1; have ce2 : ∀ o, (w2.alloc o).cell? ⟨b2, 0, none⟩ = some (.string s) := (fun o => (hq2 (w2.alloc o) ((Below.refl _ _).alloc (Nat.le_refl _) o)).1); clear hown2 hg2 hb2 hq2)
      | (refine step_append_list rfl (.tmp 23) (.tmp 24) 22 rfl w.heap.size 3 i0 _ 1 8 Try.underlying22 (unhide HI0) (unhide HZ0) (unhide HZ1) (unhide HZ2) rfl (by decide) (.slice vo M vc) M N (by first | (simp [Act.eval]; done) | simp [Act.eval, Act.put]) (unhide HAP _ (unhide HBA _)).1 xo x.length xc (ivals (natI x)) (by first | (simp [Act.eval]; done) | simp [Act.eval, Act.put]) (unhide HNX) (unhide HXN) (unhide HAP _ (unhide HBA _)).2.1 (unhide HOX) (unhide HC1) (unhide HC2) (unhide HAP _ (unhide HBA _)).2.2.1 ?_; intro v2 w2 hown2 hg2; obtain ⟨ao, cap, hv2, hb2, hq2, hk2⟩ := unhide HAQ _ (unhide HBA _) v2 w2 hown2 hg2; subst hv2; have HQ2 := hide hq2; have HB2 := hide hb2; have ce1 := (hq2 w2 (Below.refl _ _)).1; have HBX : Hid (isHb w2 wc.heap.size 0 (.slice none 0 0)) := hide ((hk2 _ (Nat.le_refl _) (by simp)).trans (heap_alloc_new wc _)); clear hown2 hg2 hb2 hq2 hk2)
      | (refine step_call rfl 8 #[.tmp 22, .tmp 25] #[9, 22] rfl #[.string s, .slice ao l.length cap] (by first | (simp [Act.eval]; done) | simp [Act.eval, Act.put]) entWin (unhide HQ2 (w2.alloc (.cells #[.int .i64 0, .slice none 0 0] 27)) ((Below.refl _ _).alloc (Nat.le_refl _) _)).2 ?_; intro e w3 hwi; have hbx : isHb w3 w2.heap.size 0 (.slice none 0 0) := (hwi.low.block _ (by simp)).trans (heap_alloc_new w2 _); obtain ⟨m0, m1, p0, p1⟩ := hbx.all; clear hbx; obtain ⟨bb, jj, lo, ll, lc, EE, he, hb3, hf⟩ := unhide HEND _ e w3 ((unhide HB2).alloc (unhide HB2).size _) hwi; subst he; have HB3 := hide hb3; have HF := hide hf; clear hb3 hf hwi; refine ⟨_, rfl, ?_⟩)
      | (refine step_call rfl 8 #[.tmp 22, .tmp 25] #[9, 22] rfl #[.string s, .slice ao l.length cap] (by first | (simp [Act.eval]; done) | simp [Act.eval, Act.put]) entWin (unhide HQ2 (w2) (Below.refl _ _)).2 ?_; intro e w3 hwi; have hbx : isHb w3 wc.heap.size 0 (.slice none 0 0) := (hwi.low.block _ (unhide HBX).lt).trans (unhide HBX); obtain ⟨m0, m1, p0, p1⟩ := hbx.all; clear hbx; obtain ⟨bb, jj, lo, ll, lc, EE, he, hb3, hf⟩ := unhide HEND _ e w3 (unhide HB2) hwi; subst he; have HB3 := hide hb3; have HF := hide hf; clear hb3 hf hwi; refine ⟨_, rfl, ?_⟩)
      | (refine step_call rfl 8 #[.tmp 22, .tmp 25] #[9, 22] rfl #[.string s, .slice ao l.length cap] (by first | (simp [Act.eval]; done) | simp [Act.eval, Act.put]) entWin (unhide HQ2 (w2) (Below.refl _ _)).2 ?_; intro e w3 hwi; obtain ⟨bb, jj, lo, ll, lc, EE, he, hb3, hf⟩ := unhide HEND _ e w3 (unhide HB2) hwi; subst he; have HB3 := hide hb3; have HF := hide hf; clear hb3 hf hwi; refine ⟨_, rfl, ?_⟩)
      )
    all_goals go_wp2
    all_goals refine bodyPost_ret (v := .tuple #[.bool bb, .int .i64 EE]) (by simp [results, Try.results17, go_sem]) rfl ?_
    all_goals rw [← unhide HLL]
    all_goals refine unhide HF _ ?_
    all_goals first
      | exact ((unhide HB3).setCell (p := ⟨wc.heap.size, 0, none⟩) (unhide HWC) _).setCell (p := ⟨wc.heap.size, 1, none⟩) (unhide HWC) _
      | exact ((unhide HB3).setCell (p := ⟨w2.heap.size, 0, none⟩) (unhide HB2).size _).setCell (p := ⟨w2.heap.size, 1, none⟩) (unhide HB2).size _
      | exact (unhide HB3).alloc (unhide HB3).size _
end Go.Proofs.Ytphnjedoghopcaa
