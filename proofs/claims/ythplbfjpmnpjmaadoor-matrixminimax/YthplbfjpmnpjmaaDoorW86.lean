/-
  parlourbig.div, walked: the long way, to its loop.
-/
import Derived.Test.YthplbfjpmnpjmaaDoorJ7
import Derived.Deep.CutBlock
namespace Go.Proofs.YthplbfjpmnpjmaaDoor
open Go.RowKit
attribute [local go_sem ↓] Go.wp_at_zero Go.wp_at_succ

theorem trim_last_ne (b : List Nat) (x : Nat) (sb : ∀ y ∈ b ++ [x], y < 4294967296) (ht : trimL (b ++ [x]) = b ++ [x]) : x ≠ 0 := by
  rintro rfl
  have h1 := trim_low _ ht b.length (by simp)
  have h2 := val_lt 4294967296 b (fun y hy => sb y (by simp [hy]))
  rw [val_app] at h1
  simp [val] at h1
  omega

theorem trimL_len (l : List Nat) : (trimL l).length ≤ l.length := by
  induction l with
  | nil => exact Nat.le_refl _
  | cons x l ih =>
    simp only [trimL]
    split
    · simp
    · simp; exact ih
theorem splice_zeros (L : Nat) (U : List Nat) : splice (uvals (List.replicate L 0)) 0 (uvals U) = uvals (U ++ List.replicate (L - U.length) 0) := by
  simp [splice, uvals]

theorem quot_step (X N Q Q' V Bj g AA : Nat) (h1 : X + g * (V * Bj) = N) (h2 : Q' = Q + g * Bj) (h3 : N + Q * V = AA) : X + Q' * V = AA := by
  have e : g * (V * Bj) = g * Bj * V := by rw [Nat.mul_comm V Bj, Nat.mul_assoc]
  rw [h2, Nat.add_mul]
  omega
theorem back_end (Z0 Z X1 X Y R P T M uh c : Nat) (h1 : Z0 + T = Z) (h2 : Z + c * P = X1 + M) (h3 : X1 + uh * P = X + T) (h4 : X = Y + uh * P) (h5 : Y + M = R + P) (h6 : Z0 < P) (h7 : c < 2) : c = 1 ∧ Z0 = R := by
  have hc : c = 0 ∨ c = 1 := by omega
  rcases hc with rfl | rfl
  · rw [Nat.zero_mul] at h2; omega
  · rw [Nat.one_mul] at h2; omega

set_option maxHeartbeats 20000000 in
set_option maxRecDepth 100000 in
theorem div_long (ao bo : Option Addr) (ca cb x : Nat) (a b : List Nat) (w : World) (ha : isWs w ao ca a) (hb : isWs w bo cb (b ++ [x])) (ta : trimL a = a) (tb : trimL (b ++ [x]) = b ++ [x]) (hle : val 4294967296 (b ++ [x]) ≤ val 4294967296 a) (hb0 : b ≠ []) (hla2 : ¬ a.length ≤ 2) (hla : a.length ≤ 29000) :
    Calls Tryd.prog 77 #[.slice ao a.length ca, .slice bo (b ++ [x]).length cb] w (Divd (val 4294967296 a) (val 4294967296 (b ++ [x])) w) := by
  obtain ⟨i0, hi, hz0, hz1, hz2⟩ := info_parts Tryd.infoU
  have hsz : (Tryd.prog.info? 106).map (·.size) = some 1 := by rw [hi]; simp [hz1]
  have hx0 := trim_last_ne b x hb.small tb
  have hbp := List.length_pos_iff.2 hb0
  have hba : (b ++ [x]).length ≤ a.length := by
    rcases Nat.lt_or_ge a.length (b ++ [x]).length with h | h
    · have := cmp_len tb ha.small h; omega
    · exact h
  have hc := cmp_less ao bo ca cb a (b ++ [x]) w ha hb ta tb
  have hcm : ¬ cmpN (val 4294967296 a) (val 4294967296 (b ++ [x])) < 0 := by unfold cmpN; rw [if_neg (by omega)]; split <;> omega
  obtain ⟨C, hC⟩ : ∃ C, C = cmpN (val 4294967296 a) (val 4294967296 (b ++ [x])) := ⟨_, rfl⟩
  rw [← hC] at hc hcm
  have hlen := fun k => length_any bo cb b x (w.drewN k) (hb.drewN k) hx0
  have hlf := fun s hs k => left_any bo cb s (b ++ [x]) (w.drewN k) (hb.drewN k) (by omega) (by simp) hs
  have hbl : (b ++ [x]).length = b.length + 1 := by simp
  rw [hbl] at hba hc hlen ⊢
  simp only [hbl] at hlf
  obtain ⟨p, hp⟩ : ∃ p, b.length = p + 1 := ⟨b.length - 1, by omega⟩
  obtain ⟨n, hn⟩ : ∃ n, n = b.length + 1 := ⟨_, rfl⟩
  obtain ⟨na, hna⟩ : ∃ na, na = a.length := ⟨_, rfl⟩
  rw [← hn] at hc hlen hlf hba ⊢
  rw [← hna] at hc hla2 hla hba ⊢
  obtain ⟨m, hm⟩ : ∃ m, na + 1 = m + n := ⟨na + 1 - n, by omega⟩
  obtain ⟨L, hL⟩ : ∃ L, L = na + 2 := ⟨_, rfl⟩
  have hni : ¬ (n : Int) = 0 := by omega
  have hn1i : ¬ (n : Int) = 1 := by omega
  have hnai : ¬ (na : Int) ≤ 2 := by omega
  have hLi : (na : Int) + 2 = (L : Int) := by omega
  have HC := hide hc
  have HLEN := hide hlen
  have HLF := hide hlf
  have HA := hide ha
  have HB := hide hb
  have HLE := hide hle
  have HNA := hide hna
  have HN := hide hn
  have HP := hide hp
  have HM := hide hm
  have HL := hide hL
  have HBB := hide (show b.length ≤ 100000 by omega)
  clear hc hlen hlf ha hb ta tb hle hna hn hp hC hbl hb0 hbp hx0 hm hL
  go_enter Tryd.func77, Tryd.ntmps77
  go_wp2_with fail
  refine (unhide HC).mono ?_
  rintro e w1 ⟨rfl, k0, rfl⟩
  go_wp2_with fail
  refine (unhide HLEN k0).mono ?_
  rintro e w1 ⟨n1, rfl, hn1, hn32, hx1, hx2, rfl⟩
  obtain ⟨s, hs⟩ : ∃ s, s = 32 - n1 := ⟨_, rfl⟩
  have HX1 := hide hx1
  have HX2 := hide hx2
  obtain ⟨T, hT⟩ : ∃ T : Nat, (b.length : Int) * 32 + (n1 : Int) = (T : Int) := ⟨b.length * 32 + n1, by omega⟩
  rw [hT]
  have hT1 : (T : Int) < 10000000 := by have := unhide HBB; omega
  have hT0 : (0 : Int) < (T : Int) := by omega
  obtain ⟨z, hz⟩ : ∃ z : Nat, z + 1 = n1 := ⟨n1 - 1, by omega⟩
  have hTz : ((T : Int) - 1) % 32 = (z : Int) := by omega
  have hzs : 32 - (z : Int) - 1 = (s : Int) := by omega
  have hs32 : s < 32 := by omega
  have hzi : (z : Int) < 32 := by omega
  have HS := hide hs
  clear hx1 hx2 hT hs hz
  go_wp2_with fail
  refine (unhide HLF s hs32 k0).mono ?_
  rintro e w1 ⟨vo, vc, l, rfl, hvw, hvv, hvl, hvb⟩
  have hnt := norm_top b x n1 l (unhide HB).small hn1 hn32 (unhide HX1) (unhide HX2) (by rw [hvv, unhide HS]) hvw.small
  rw [← unhide HN] at hnt
  have hVv := trimL_val 4294967296 l
  rw [hvv] at hVv
  obtain ⟨v, hv⟩ : ∃ v, v = trimL l := ⟨_, rfl⟩
  rw [← hv] at hvw hnt hVv ⊢
  obtain ⟨hvn, top, htop, htop2⟩ := hnt
  rw [hvn]
  obtain ⟨gv, rfl, hgv, hcv⟩ := hvw.cells (by rintro rfl; simp at hvn; omega)
  have hvc : n ≤ vc := by rw [← hvn]; exact hvw.le
  have hvb' : Below w.heap.size w w1 := ⟨hvb.os, hvb.tape, hvb.output, hvb.size, hvb.block⟩
  have hab : isWs w1 ao ca a := (unhide HA).below hvb' (Nat.le_refl _)
  have HVW := hide hvw
  have HVV := hide hVv
  have HVN := hide hvn
  have HTOP := hide htop
  have HCV := hide hcv
  have HAB := hide hab
  have hLle : L ≤ 30000 := by rw [unhide HL]; omega
  clear hvv hvl hv hvw hVv hvn htop hcv hab hvb
  obtain ⟨gu, hgu⟩ : ∃ gu, gu = w1.heap.size := ⟨_, rfl⟩
  have HGU := hide hgu
  go_wp2_with (at_make; go_must (refine wpList_make_full _ rfl _ _ 35 rfl w1.heap.size 106 i0 (.int .u32 0) 1 Tryd.underlying35 hi hz0 hz1 .i64 .i64 _ _ L rfl rfl (by go_num) (by go_num) (by rw [hz2]; omega) (by unfold maxLen; omega) (Nat.le_refl _) ?_; intro w2 hown hgrow))
  have hb2 : Below w1.heap.size w1 w2 := (Below.refl _ _).grown hgrow (Nat.le_refl _) (by simp)
  have hrow : ownU w2 w1.heap.size w1.heap.size (List.replicate L 0) := by
    unfold ownU
    rw [List.length_replicate, ← made_zeros]
    exact hown
  have hab2 : isWs w2 ao ca a := (unhide HAB).below hb2 (Nat.le_refl _)
  have hlf2 := left_any ao ca s a w2 hab2 (by rw [← unhide HNA]; omega) (by rintro rfl; have := unhide HNA; simp at this; omega) hs32
  rw [← unhide HNA] at hlf2
  clear hown hgrow
  refine hlf2.mono ?_
  rintro e w3 ⟨lo, lc, l2, rfl, hlw, hlv, hll, hlb⟩
  have hlv2 := trimL_val 4294967296 l2
  rw [hlv] at hlv2
  obtain ⟨U0, hU0⟩ : ∃ U0, U0 = trimL l2 := ⟨_, rfl⟩
  have hU0l : U0.length ≤ na + 1 := by rw [hU0, ← hll]; exact trimL_len l2
  rw [← hU0] at hlw hlv2 ⊢
  have hblk := (hrow.below hlb hrow.lt.2).block
  have hb3 : Below w1.heap.size w1 w3 := hb2.trans (hlb.mono hb2.size)
  have HLV2 := hide hlv2
  have HLW := hide hlw
  have hUL : U0.length ≤ L := by rw [unhide HL]; omega
  have hU0s := hlw.small
  clear hlf2 hlv hll hU0 hlv2 hlw hrow hab2 hlb hb2
  go_wp2_with (refine wpList_copy_splice rfl _ _ 35 35 rfl 106 Tryd.underlying35 hsz _ _ _ _ _ _ rfl rfl w1.heap.size 0 _ 106 hblk (uvals U0) ?c1 ?c2 ?c3 ?c4 w1.heap.size w1 hb3 (Nat.le_refl _) ?_)
  case c1 =>
    have e1 : (uvals U0).length = U0.length := by simp [uvals]
    have e2 : U0.length = min U0.length L := (Nat.min_eq_left hUL).symm
    exact e1.trans e2
  case c2 =>
    intro hpos
    have hne : U0 ≠ [] := by rintro rfl; simp [uvals] at hpos
    obtain ⟨g, e, hg, hc⟩ := (unhide HLW).cells hne
    refine ⟨_, e, ?_⟩
    intro j u hu
    simp only [uvals, List.getElem?_map, Option.map_eq_some_iff] at hu
    obtain ⟨y, hy, rfl⟩ := hu
    have := hc j y hy
    by_cases hj : j = 0
    · subst hj; simpa [Addr.add] using this
    · simpa [Addr.add, hj] using this
  case c3 => simp [uvals]; exact hUL
  case c4 => intro u hu; simp [uvals] at hu; obtain ⟨x, _, rfl⟩ := hu; rfl
  intro w4 HG4 hb4
  have hbl4 := unhide HG4
  rw [splice_zeros] at hbl4
  obtain ⟨U, hU⟩ : ∃ U, U = U0 ++ List.replicate (L - U0.length) 0 := ⟨_, rfl⟩
  rw [← hU] at hbl4
  have hUlen : U.length = L := by rw [hU]; simp; omega
  have hUv : val 4294967296 U = val 4294967296 a * 2 ^ s := by rw [hU, val_app_zeros]; exact unhide HLV2
  have hUs : ∀ y ∈ U, y < 4294967296 := by
    intro y hy
    rw [hU, List.mem_append] at hy
    rcases hy with hy | hy
    · exact hU0s y hy
    · rw [List.eq_of_mem_replicate hy]; omega
  have hUo : ownU w4 w1.heap.size w1.heap.size U := ownU_of (Nat.le_refl _) hbl4 (by omega)
  have HUV := hide hUv
  have HUO := hide hUo
  have hgu4 : w1.heap.size < w4.heap.size := hUo.lt.2
  obtain ⟨M1, hM1⟩ : ∃ M1, M1 = m + 1 := ⟨_, rfl⟩
  obtain ⟨p1, hp1⟩ : ∃ p1, p1 = p + 1 := ⟨_, rfl⟩
  have hnp : n = p + 2 := by rw [unhide HN, unhide HP]
  have hLm : L = m + n + 1 := by rw [unhide HL]; have := unhide HM; omega
  have hk1 : (L : Int) - (n : Int) = (M1 : Int) := by omega
  have hk2 : (M1 : Int) - 1 = (m : Int) := by omega
  have hk3 : (m : Int) + 1 = (M1 : Int) := by omega
  have hk4 : (n : Int) - 1 = (p1 : Int) := by omega
  have hk5 : (n : Int) - 2 = (p : Int) := by omega
  have hk6 : (p1 : Int) < (n : Int) := by omega
  have hk7 : (p : Int) < (n : Int) := by omega
  have hM1l : M1 ≤ 30000 := by omega
  have HM1 := hide hM1
  have HP1 := hide hp1
  have HNP := hide hnp
  have HLM := hide hLm
  clear hU hbl4 HG4 hblk hU0s hUL hU0l hUv HLV2 HLW hUo hb3 hM1 hp1 hnp hLm hgu hLi
  go_wp2_with (at_make; go_must (refine wpList_make_full _ rfl _ _ 35 rfl w4.heap.size 106 i0 (.int .u32 0) 1 Tryd.underlying35 hi hz0 hz1 .i64 .i64 _ _ M1 rfl rfl (by go_num) (by go_num) (by rw [hz2]; omega) (by unfold maxLen; omega) (Nat.le_refl _) ?_; intro w5 hown hgrow))
  have hb5 : Below w4.heap.size w4 w5 := (Below.refl _ _).grown hgrow (Nat.le_refl _) (by simp)
  have hQo : ownU w5 w4.heap.size w4.heap.size (List.replicate M1 0) := by
    unfold ownU
    rw [List.length_replicate, ← made_zeros]
    exact hown
  have hUo5 : ownU w5 w1.heap.size w1.heap.size U := (unhide HUO).below hb5 hgu4
  have hbb5 : Below w1.heap.size w1 w5 := hb4.trans (hb5.mono (by omega))
  have hbp1 : b.length = p1 := by rw [unhide HP, unhide HP1]
  have htop : v[p1]? = some top := by rw [← hbp1]; exact unhide HTOP
  have hpv : p < v.length := by rw [unhide HVN, unhide HNP]; omega
  obtain ⟨next, hnext⟩ : ∃ next, v[p]? = some next := ⟨v[p], List.getElem?_eq_getElem hpv⟩
  have ctop := (hbb5.cell (p := ⟨gv, p1, none⟩) hgv).trans (unhide HCV p1 top htop)
  have cnext := (hbb5.cell (p := ⟨gv, p, none⟩) hgv).trans (unhide HCV p next hnext)
  have htops := (unhide HVW).small top (List.mem_of_getElem? htop)
  have hnexts := (unhide HVW).small next (List.mem_of_getElem? hnext)
  obtain ⟨AA, hAA⟩ : ∃ AA, AA = val 4294967296 a * 2 ^ s := ⟨_, rfl⟩
  have hA0 : val 4294967296 U + val 4294967296 (List.replicate M1 0) * val 4294967296 v = AA := by rw [val_zeros, hAA, ← unhide HUV]; simp
  have hV31 : 2147483648 * 4294967296 ^ p1 ≤ val 4294967296 v := by
    have h1 := val_ge 4294967296 v p1 top htop
    have h2 : 2147483648 * 4294967296 ^ p1 ≤ top * 4294967296 ^ p1 := Nat.mul_le_mul_right _ htop2
    omega
  have hB0 : val 4294967296 U < val 4294967296 v * 4294967296 ^ M1 := by
    rw [unhide HUV, unhide HM1]
    refine div_begin (val 4294967296 a) s p1 m na _ ?_ hs32 hV31 ?_
    · rw [unhide HNA]; exact val_lt _ a (unhide HA).small
    · have := unhide HM; have := unhide HNP; have := unhide HP1; omega
  have HTOP2 := hide htop
  have HNEXT := hide hnext
  have HAA := hide hAA
  have HA0 := hide hA0
  have HB0 := hide hB0
  have hMn : ∃ w, w = w4.heap.size := ⟨_, rfl⟩
  have hQ0 : ∀ y ∈ List.replicate M1 0, y < 4294967296 := by
    intro y hy
    rw [List.eq_of_mem_replicate hy]; omega
  have hQ1 : ∀ i, i < M1 → (List.replicate M1 0)[i]? = some 0 := by
    intro i hi
    rw [List.getElem?_replicate, if_pos hi]
  have HQ0 := hide hQ0
  have HQ1 := hide hQ1
  have HBB5 := hide hbb5
  have HQO := hide hQo
  have HUO5 := hide hUo5
  have HUS := hide hUs
  clear htop hnext hAA hA0 hB0 hV31 hpv hbp1 hMn hQ0 hQ1 hown hgrow hb5 hb4 hbb5 hQo hUo5 hUs
  go_wp2
  go_quiet (fail)
  go_wp2
  go_loopw [18] (fun jv wr => ∃ (k : Nat) (U Q : List Nat), k ≤ M1 ∧ jv = .int .i64 ((k : Int) - 1) ∧ U.length = L ∧ (∀ y ∈ U, y < 4294967296) ∧ Q.length = M1 ∧ (∀ y ∈ Q, y < 4294967296) ∧ (∀ i, i < k → Q[i]? = some 0) ∧
      val 4294967296 U + val 4294967296 Q * val 4294967296 v = AA ∧ val 4294967296 U < val 4294967296 v * 4294967296 ^ k ∧ ownU wr w1.heap.size w1.heap.size U ∧ ownU wr w4.heap.size w4.heap.size Q ∧ Below w1.heap.size w1 wr) (fun jv _ => (intOf jv + 1).toNat)
  case atStart =>
    exact ⟨M1, U, List.replicate M1 0, Nat.le_refl _, by rw [hk2], hUlen, unhide HUS, by simp, unhide HQ0, unhide HQ1, unhide HA0, unhide HB0, unhide HUO5, unhide HQO, below_drewN (unhide HBB5) _⟩
  case round =>
    obtain ⟨k, U, Q, hk, rfl, hUl, hUs, hQl, hQs, hQz, hUQ, hUlt, hUo, hQo, hbr⟩ := hrel
    cases k with
    | zero =>
      have hq := trim_any _ _ Q wr (hQo.ws hQs (by omega))
      have hu := trim_any _ _ U wr (hUo.ws hUs (by omega))
      rw [hQl] at hq
      rw [hUl] at hu
      have hend := div_end (val 4294967296 U) (val 4294967296 Q) (val 4294967296 v) (val 4294967296 (b ++ [x])) (val 4294967296 a) s (by rw [hUQ, unhide HAA]) (unhide HVV) (by simpa using hUlt)
      have HQT := hide hq
      have HUT := hide hu
      have HEND := hide hend
      have htl := trimL_len U
      clear hq hu hend hUQ hUlt hQz hQo hUo hQs hUs
      go_wp2_with fail
      refine (unhide HQT).mono ?_
      rintro e w6 ⟨qo, qc, rfl, hqw, rfl⟩
      go_wp2_with fail
      refine (unhide HUT).mono ?_
      rintro e w6 ⟨uo, uc, rfl, huw, rfl⟩
      go_wp2_with fail
      refine (right_any uo uc s (trimL U) _ huw (by omega) hs32).mono ?_
      rintro e w7 ⟨ro, rc, rl, rfl, hrw, hrv, hrb⟩
      go_wp2
      go_ret2
      refine ⟨qo, qc, Q, ro, rc, rl, rfl, hqw.below hrb (Nat.le_refl _), hrw, (unhide HEND).1, ?_, ?_⟩
      · rw [hrv, trimL_val]; exact (unhide HEND).2
      · exact hvb'.trans ((hbr.mono hvb'.size).trans (hrb.mono (Nat.le_trans hvb'.size hbr.size)))
    | succ j =>
      have hji : ((j + 1 : Nat) : Int) - 1 = (j : Int) := by omega
      rw [hji]
      clear hji
      have hLM := unhide HLM
      have hM1' := unhide HM1
      have hNP' := unhide HNP
      obtain ⟨jn, hjn⟩ : ∃ jn, jn = j + n := ⟨_, rfl⟩
      obtain ⟨j1, hj1⟩ : ∃ j1, j1 = j + p + 1 := ⟨_, rfl⟩
      obtain ⟨j2, hj2⟩ : ∃ j2, j2 = j + p := ⟨_, rfl⟩
      have hjL : jn < L := by omega
      obtain ⟨uh, huh⟩ : ∃ uh, U[jn]? = some uh := ⟨U[jn]'(by omega), List.getElem?_eq_getElem _⟩
      obtain ⟨u1, hu1⟩ : ∃ u1, U[j1]? = some u1 := ⟨U[j1]'(by omega), List.getElem?_eq_getElem _⟩
      obtain ⟨u2, hu2⟩ : ∃ u2, U[j2]? = some u2 := ⟨U[j2]'(by omega), List.getElem?_eq_getElem _⟩
      have hjn2 : j + p + 2 = jn := by omega
      have huh2 : U[j + p + 2]? = some uh := by rw [hjn2]; exact huh
      have hgs := gs_words 4294967296 U v j p top next uh u1 u2 hUs (unhide HVW).small (by rw [unhide HVN, hNP']) (by rw [← unhide HP1]; exact unhide HTOP2) (unhide HNEXT) (by rw [← hj2]; exact hu2) (by rw [← hj1]; exact hu1) huh2 (by omega) hUlt
      obtain ⟨q, hq⟩ : ∃ q, q = val 4294967296 U / (val 4294967296 v * 4294967296 ^ j) := ⟨_, rfl⟩
      rw [← hq] at hgs
      obtain ⟨hG, hzz⟩ := hgs
      obtain ⟨H, hH⟩ : ∃ H, H = u1 + 4294967296 * uh := ⟨_, rfl⟩
      rw [← hH] at hG
      have huhs := hUs uh (List.mem_of_getElem? huh)
      have hu1s := hUs u1 (List.mem_of_getElem? hu1)
      have hu2s := hUs u2 (List.mem_of_getElem? hu2)
      have hor := or_words' u1 uh hu1s huhs
      rw [← hH] at hor
      have hHb : H < 18446744073709551616 := by omega
      obtain ⟨g0, hg0⟩ : ∃ g0, g0 = H / top := ⟨_, rfl⟩
      obtain ⟨r0, hr0⟩ : ∃ r0, r0 = H % top := ⟨_, rfl⟩
      have hg0i : (H : Int) / (top : Int) = (g0 : Int) := by rw [hg0]; simp
      have hr0i : (H : Int) % (top : Int) = (r0 : Int) := by rw [hr0]; simp
      have hr0t : (H : Int).tmod (top : Int) = (r0 : Int) := by rw [IntWalk.rem_in _ _ (by omega), hr0i]
      have hgr0 : g0 * top + r0 = H := by rw [hg0, hr0, Nat.mul_comm]; exact Nat.div_add_mod H top
      have hr0c : r0 < top := by rw [hr0]; exact Nat.mod_lt _ (by omega)
      have hr0b : r0 < 4294967296 := by omega
      have hqg0 : q ≤ g0 := by rw [hg0]; exact hG.first
      have hg0b : g0 < 18446744073709551616 := by
        have : g0 ≤ H := by rw [hg0]; exact Nat.div_le_self _ _
        omega
      have hwg0 : IntKind.u64.wrap (g0 : Int) = (g0 : Int) := IntWalk.u64_in _ (by omega)
      have hwr0 : IntKind.u64.wrap (r0 : Int) = (r0 : Int) := IntWalk.u64_in _ (by omega)
      have htop0 : ¬ (top : Int) = 0 := by omega
      have htopb : ((top : Int) == 0) = false := by simp; omega
      have htopn : ¬ top = 0 := by omega
      have hi1 : (j : Int) + (n : Int) = (jn : Int) := by omega
      have hi2 : (jn : Int) - 1 = (j1 : Int) := by omega
      have hi3 : (jn : Int) - 2 = (j2 : Int) := by omega
      have hb1 : (jn : Int) < (L : Int) := by omega
      have hb2 : (j1 : Int) < (L : Int) := by omega
      have hb3 : (j2 : Int) < (L : Int) := by omega
      have hj0 : (0 : Int) ≤ (j : Int) := by omega
      have ch := hUo.cell huh
      have c1 := hUo.cell hu1
      have c2 := hUo.cell hu2
      have HQ := hide hq
      have HZZ := hide hzz
      have HUH := hide huh
      have HJN := hide hjn
      have HGR0 := hide hgr0
      have HG := hide hG
      have HUQ := hide hUQ
      have HULT := hide hUlt
      have HQZ := hide hQz
      have HUS2 := hide hUs
      have HQS := hide hQs
      have HUO2 := hide hUo
      have HQO2 := hide hQo
      have HBR := hide hbr
      have HKJ := hide hk
      clear hjn2 huh2 hr0c hLM hM1' hNP' hjn hj1 hj2 huh hu1 hu2 hq hG hzz hH hg0 hr0 hgr0 hUQ hUlt hQz hUs hQs hUo hQo hbr hk
      go_wp2
      go_quiet (fail)
      go_wp2
      go_quiet (fail)
      go_upto_block 2 with fail
      go_cut [20] from 109 to 266 (fun gw wc => ∃ g : Nat, gw = .int .u64 (g : Int) ∧ q ≤ g ∧ g ≤ q + 1 ∧ g < 4294967296 ∧ ∃ d, wc = wr.drewN d)
      case first =>
        go_wp2_with fail
        go_loopw [20, 21] (fun gw rw wx => ∃ g r : Nat, gw = .int .u64 (g : Int) ∧ rw = .int .u64 (r : Int) ∧ Hid (g * top + r = H) ∧ r < 4294967296 ∧ q ≤ g ∧ g < 18446744073709551616 ∧ ∃ d, wx = wr.drewN d) (fun gw _ _ => (intOf gw).toNat)
        case atStart => exact ⟨g0, r0, rfl, rfl, HGR0, hr0b, hqg0, hg0b, _, by rw [World.drewN_drewN]⟩
        case round =>
          obtain ⟨g, r, rfl, rfl, HGR, hr, hqg, hgb, d, rfl⟩ := hrel
          clear hg0i hr0i hr0t hr0b hqg0 hg0b hwg0 hwr0 HGR0
          have hqB := (unhide HG).small
          by_cases hgB : 4294967296 ≤ g
          · have hq1 : q < g := by omega
            have hgt : (4294967295 : Int) < (g : Int) := by omega
            have hgd : decide ((g : Int) > 4294967295) = true := by simp; omega
            obtain ⟨g', hg'⟩ : ∃ g', g = g' + 1 := ⟨g - 1, by omega⟩
            obtain ⟨r', hr'⟩ : ∃ r', r' = r + top := ⟨_, rfl⟩
            have hgi : (g : Int) - 1 = (g' : Int) := by omega
            have hri : (r : Int) + (top : Int) = (r' : Int) := by omega
            have hqg' : q ≤ g' := by omega
            have hgr' : g' * top + r' = H := by
              have h1 := unhide HGR
              rw [hg', Nat.add_mul, Nat.one_mul] at h1
              omega
            have HGR' := hide hgr'
            have hg'b : g' < 18446744073709551616 := by omega
            have hr'b : r' < 18446744073709551616 := by omega
            have HGE := hide hg'
            clear hgr' hg' hr'
            by_cases hrB : 4294967296 ≤ r'
            · have hrgt : (4294967295 : Int) < (r' : Int) := by omega
              have hbk := (unhide HG).brk g' r' (unhide HGR') hrB
              go_wp2
              go_meet
              exact ⟨g', rfl, hqg', hbk.2, hbk.1, d, rfl⟩
            · have hrgt : ¬ (4294967295 : Int) < (r' : Int) := by omega
              go_wp2
              go_roundw
              case rel => exact ⟨g', r', rfl, rfl, HGR', by omega, hqg', hg'b, d, rfl⟩
              case measure => have := unhide HGE; simp [intOf]; omega
          · have hgt : ¬ (4294967295 : Int) < (g : Int) := by omega
            have hgd : decide ((g : Int) > 4294967295) = false := by simp; omega
            have horr := or_words' u2 r hu2s hr
            obtain ⟨R, hR⟩ : ∃ R, R = u2 + 4294967296 * r := ⟨_, rfl⟩
            rw [← hR] at horr
            obtain ⟨P, hP⟩ : ∃ P, P = g * next := ⟨_, rfl⟩
            have hPi : (g : Int) * (next : Int) = (P : Int) := by rw [hP]; simp
            have hPb : P ≤ 4294967295 * 4294967295 := by rw [hP]; exact Nat.mul_le_mul (by omega) (by omega)
            by_cases hPR : R < P
            · have hPRi : (R : Int) < (P : Int) := by omega
              have hq1 : q < g := (unhide HG).down g r (unhide HGR) (by rw [← hP]; omega)
              clear hP hR
              obtain ⟨g', hg'⟩ : ∃ g', g = g' + 1 := ⟨g - 1, by omega⟩
              obtain ⟨r', hr'⟩ : ∃ r', r' = r + top := ⟨_, rfl⟩
              have hgi : (g : Int) - 1 = (g' : Int) := by omega
              have hri : (r : Int) + (top : Int) = (r' : Int) := by omega
              have hqg' : q ≤ g' := by omega
              have hgr' : g' * top + r' = H := by
                have h1 := unhide HGR
                rw [hg', Nat.add_mul, Nat.one_mul] at h1
                omega
              have HGR' := hide hgr'
              have hg'b : g' < 18446744073709551616 := by omega
              have hr'b : r' < 18446744073709551616 := by omega
              have HGE := hide hg'
              clear hgr' hg' hr'
              by_cases hrB : 4294967296 ≤ r'
              · have hrgt : (4294967295 : Int) < (r' : Int) := by omega
                have hbk := (unhide HG).brk g' r' (unhide HGR') hrB
                go_wp2
                go_meet
                exact ⟨g', rfl, hqg', hbk.2, hbk.1, d, rfl⟩
              · have hrgt : ¬ (4294967295 : Int) < (r' : Int) := by omega
                go_wp2
                go_roundw
                case rel => exact ⟨g', r', rfl, rfl, HGR', by omega, hqg', hg'b, d, rfl⟩
                case measure => have := unhide HGE; simp [intOf]; omega
            · have hPRi : ¬ (R : Int) < (P : Int) := by omega
              have hlast := (unhide HG).last g r (unhide HGR) (by omega) (by rw [← hP]; omega)
              clear hP hR
              go_wp2
              go_meet
              exact ⟨g, rfl, hqg, hlast, by omega, d, rfl⟩
      case rest =>
        obtain ⟨g, rfl, hqg, hgq, hgB, d, rfl⟩ := hcut
        clear hg0i hr0i hr0t hr0b hqg0 hg0b hwg0 hwr0 HGR0 hor htop0 htopb htopn hi2 hi3 hb2 hb3 c1 c2 ch
        have hin0 : val 4294967296 U + g * val 4294967296 (v.take 0) * 4294967296 ^ j = val 4294967296 U + (0 + 0) * 4294967296 ^ (j + 0) := by simp [val]
        have hzu : ∀ i x, jn + 1 ≤ i → U[i]? = some x → x = 0 := by
          intro i x hi hx
          have h1 := unhide HJN
          have h2 := unhide HNP
          exact unhide HZZ i x (by omega) hx
        have HIN0 := hide hin0
        have HZU := hide hzu
        have HUD := hide ((unhide HUO2).drewN d)
        have HQD := hide ((unhide HQO2).drewN d)
        have HBD := hide (below_drewN (unhide HBR) d)
        clear hin0 hzu
        go_wp2
        go_loopw [22, 23, 24] (fun cv dv iv wx => ∃ (i c e : Nat) (X : List Nat), i ≤ n ∧ iv = .int .i64 (i : Int) ∧ cv = .int .u64 (c : Int) ∧ c < 4294967296 ∧ dv = .int .u64 (e : Int) ∧ e ≤ 1 ∧ X.length = L ∧ (∀ y ∈ X, y < 4294967296) ∧ X[jn]? = some uh ∧ (∀ i x, jn + 1 ≤ i → X[i]? = some x → x = 0) ∧
            Hid (val 4294967296 X + g * val 4294967296 (v.take i) * 4294967296 ^ j = val 4294967296 U + (c + e) * 4294967296 ^ (j + i)) ∧ ownU wx w1.heap.size w1.heap.size X ∧ ownU wx w4.heap.size w4.heap.size Q ∧ Below w1.heap.size w1 wx) (fun _ _ iv _ => n - (intOf iv).toNat)
        case atStart =>
          exact ⟨0, 0, 0, U, Nat.zero_le _, rfl, rfl, by omega, rfl, by omega, hUl, unhide HUS2, unhide HUH, unhide HZU, HIN0, unhide HUD, unhide HQD, unhide HBD⟩
        case round =>
          obtain ⟨i, c, e, X, hin, rfl, rfl, hc, rfl, he, hXl, hXs, hXh, hXz, HXV, hXo, hQo, hbx⟩ := hrel
          clear HIN0 HZU HUD HQD HBD
          by_cases hil : i < n
          · have hii : (i : Int) < (n : Int) := by omega
            have hvi : i < v.length := by rw [unhide HVN]; exact hil
            obtain ⟨x', hx'⟩ : ∃ x', v[i]? = some x' := ⟨v[i], List.getElem?_eq_getElem hvi⟩
            obtain ⟨ij, hij⟩ : ∃ ij, ij = j + i := ⟨_, rfl⟩
            have hjn := unhide HJN
            have hijL : ij < L := by omega
            obtain ⟨uo, huo⟩ : ∃ uo, X[ij]? = some uo := ⟨X[ij]'(by omega), List.getElem?_eq_getElem _⟩
            have hxs := (unhide HVW).small x' (List.mem_of_getElem? hx')
            have hus := hXs uo (List.mem_of_getElem? huo)
            have cx := (hbx.cell (p := ⟨gv, i, none⟩) hgv).trans (unhide HCV i x' hx')
            have cu := hXo.cell huo
            have zu := hXo.frozen ij
            obtain ⟨P, hP⟩ : ∃ P, P = g * x' := ⟨_, rfl⟩
            have hPi : (g : Int) * (x' : Int) = (P : Int) := by rw [hP]; simp
            have hPb : P ≤ 4294967295 * 4294967295 := by rw [hP]; exact Nat.mul_le_mul (by omega) (by omega)
            obtain ⟨t, ht⟩ : ∃ t, t = c + P := ⟨_, rfl⟩
            obtain ⟨lo, hlo⟩ : ∃ lo, lo = t % 4294967296 := ⟨_, rfl⟩
            obtain ⟨c', hc'⟩ : ∃ c', c' = t / 4294967296 := ⟨_, rfl⟩
            have hti : (c : Int) + (P : Int) = (t : Int) := by omega
            have hloi : (t : Int) % 4294967296 = (lo : Int) := by omega
            have hci : (t : Int) / 4294967296 = (c' : Int) := by omega
            have htb : t < 18446744073709551616 := by omega
            have hlob : lo < 4294967296 := by omega
            have hcb : c' < 4294967296 := by omega
            have hiji : (i : Int) + (j : Int) = (ij : Int) := by omega
            have hijb : (ij : Int) < (L : Int) := by omega
            have hne : ij ≠ jn := by omega
            have hijn : ij < jn := by omega
            have hnq : w1.heap.size ≠ w4.heap.size := by omega
            have hcc : c + g * x' = lo + 4294967296 * c' := by rw [← hP]; omega
            have HCC := hide hcc
            have HX' := hide hx'
            have HUO3 := hide huo
            have HIJ := hide hij
            clear hP ht hlo hc' hx' huo hij hjn hcc hvi
            by_cases hfit : lo + e ≤ uo
            · obtain ⟨W1, hW1⟩ : ∃ W1, W1 = uo - lo := ⟨_, rfl⟩
              obtain ⟨s', hs'⟩ : ∃ s', s' = W1 - e := ⟨_, rfl⟩
              have hd' : s' + (lo + e) = uo + 0 * 4294967296 := by omega
              have hw1 : (uo : Int) - (lo : Int) = (W1 : Int) := by omega
              have hw2 : (W1 : Int) - (e : Int) = (s' : Int) := by omega
              have hsi : (s' : Int) % 4294967296 = (s' : Int) := by omega
              have hdi : (s' : Int) / 9223372036854775808 = 0 := by omega
              have hsb : s' < 4294967296 := by omega
              have hW1b : W1 < 4294967296 := by omega
              have hnew := sub_val 4294967296 (val 4294967296 X) (val 4294967296 (X.set ij s')) (val 4294967296 U) g x' uo c e lo s' c' 0 (val 4294967296 (v.take i)) i j (by rw [← unhide HIJ]; exact val_set _ X ij uo s' (unhide HUO3)) (unhide HXV) (unhide HCC) hd'
              rw [← val_take_succ _ v i x' (unhide HX')] at hnew
              have HNEW := hide hnew
              clear hnew hW1 hs' hd'
              go_wp2
              go_roundw
              case rel =>
                refine ⟨i + 1, c', 0, X.set ij s', by omega, by go_num, rfl, hcb, rfl, by omega, by rw [List.length_set]; exact hXl, mem_set hXs hsb, ?_, ?_, HNEW, hXo.set ij s', hQo.other (by omega), hbx.setCell (p := ⟨w1.heap.size, ij, none⟩) (Nat.le_refl _) _⟩
                · rw [List.getElem?_set_ne hne]; exact hXh
                · intro k y hk hy
                  rw [List.getElem?_set_ne (by omega)] at hy
                  exact hXz k y hk hy
              case measure => simp [intOf]; omega
            · by_cases hul : uo < lo
              · obtain ⟨W1, hW1⟩ : ∃ W1, W1 = 18446744073709551616 + uo - lo := ⟨_, rfl⟩
                obtain ⟨tt, htt⟩ : ∃ tt, tt = W1 - e := ⟨_, rfl⟩
                obtain ⟨s', hs'⟩ : ∃ s', s' = 4294967296 + uo - lo - e := ⟨_, rfl⟩
                have hd' : s' + (lo + e) = uo + 1 * 4294967296 := by omega
                have hw1 : IntKind.u64.wrap ((uo : Int) - (lo : Int)) = (W1 : Int) := by rw [IntKind.wrap_u64]; omega
                have hw2 : (W1 : Int) - (e : Int) = (tt : Int) := by omega
                have hW1b : W1 < 18446744073709551616 := by omega
                have hsi : (tt : Int) % 4294967296 = (s' : Int) := by omega
                have hdi : (tt : Int) / 9223372036854775808 = 1 := by omega
                have httb : tt < 18446744073709551616 := by omega
                have hsb : s' < 4294967296 := by omega
                have hnew := sub_val 4294967296 (val 4294967296 X) (val 4294967296 (X.set ij s')) (val 4294967296 U) g x' uo c _ _ s' c' 1 (val 4294967296 (v.take i)) i j (by rw [← unhide HIJ]; exact val_set _ X ij uo s' (unhide HUO3)) (unhide HXV) (unhide HCC) hd'
                rw [← val_take_succ _ v i x' (unhide HX')] at hnew
                have HNEW := hide hnew
                clear hnew hW1 htt hs' hd'
                go_wp2
                go_roundw
                case rel =>
                  refine ⟨i + 1, c', 1, X.set ij s', by omega, by go_num, rfl, hcb, rfl, by omega, by rw [List.length_set]; exact hXl, mem_set hXs hsb, ?_, ?_, HNEW, hXo.set ij s', hQo.other (by omega), hbx.setCell (p := ⟨w1.heap.size, ij, none⟩) (Nat.le_refl _) _⟩
                  · rw [List.getElem?_set_ne hne]; exact hXh
                  · intro k y hk hy
                    rw [List.getElem?_set_ne (by omega)] at hy
                    exact hXz k y hk hy
                case measure => simp [intOf]; omega
              · obtain rfl : uo = lo := by omega
                obtain rfl : e = 1 := by omega
                obtain ⟨W1, hW1⟩ : ∃ W1, W1 = 0 := ⟨_, rfl⟩
                obtain ⟨tt, htt⟩ : ∃ tt, tt = 18446744073709551615 := ⟨_, rfl⟩
                obtain ⟨s', hs'⟩ : ∃ s', s' = 4294967295 := ⟨_, rfl⟩
                have hd' : s' + (uo + 1) = uo + 1 * 4294967296 := by omega
                have hw1 : (uo : Int) - (uo : Int) = (W1 : Int) := by omega
                have hw2 : IntKind.u64.wrap ((W1 : Int) - ((1 : Nat) : Int)) = (tt : Int) := by rw [IntKind.wrap_u64]; omega
                have hw3 : IntKind.u64.wrap ((W1 : Int) - 1) = (tt : Int) := by rw [IntKind.wrap_u64]; omega
                have hW1b : W1 < 18446744073709551616 := by omega
                have hsi : (tt : Int) % 4294967296 = (s' : Int) := by omega
                have hdi : (tt : Int) / 9223372036854775808 = 1 := by omega
                have httb : tt < 18446744073709551616 := by omega
                have hsb : s' < 4294967296 := by omega
                have hnew := sub_val 4294967296 (val 4294967296 X) (val 4294967296 (X.set ij s')) (val 4294967296 U) g x' uo c _ _ s' c' 1 (val 4294967296 (v.take i)) i j (by rw [← unhide HIJ]; exact val_set _ X ij uo s' (unhide HUO3)) (unhide HXV) (unhide HCC) hd'
                rw [← val_take_succ _ v i x' (unhide HX')] at hnew
                have HNEW := hide hnew
                clear hnew hW1 htt hs' hd'
                go_wp2
                go_roundw
                case rel =>
                  refine ⟨i + 1, c', 1, X.set ij s', by omega, by go_num, rfl, hcb, rfl, by omega, by rw [List.length_set]; exact hXl, mem_set hXs hsb, ?_, ?_, HNEW, hXo.set ij s', hQo.other (by omega), hbx.setCell (p := ⟨w1.heap.size, ij, none⟩) (Nat.le_refl _) _⟩
                  · rw [List.getElem?_set_ne hne]; exact hXh
                  · intro k y hk hy
                    rw [List.getElem?_set_ne (by omega)] at hy
                    exact hXz k y hk hy
                case measure => simp [intOf]; omega
          · obtain rfl : i = n := by omega
            have hii : ¬ (i : Int) < (i : Int) := by omega
            have hjn := unhide HJN
            have hend : val 4294967296 X + g * (val 4294967296 v * 4294967296 ^ j) = val 4294967296 U + (c + e) * 4294967296 ^ jn := by
              have h1 := unhide HXV
              rw [List.take_of_length_le (by rw [unhide HVN]; exact Nat.le_refl _), Nat.mul_assoc, ← hjn] at h1
              exact h1
            have hMpos : 0 < val 4294967296 v * 4294967296 ^ j := by
              refine Nat.mul_pos ?_ (Nat.pow_pos (by omega))
              have h1 := val_ge 4294967296 v p1 top (unhide HTOP2)
              have h2 : 1 * 4294967296 ^ p1 ≤ top * 4294967296 ^ p1 := Nat.mul_le_mul_right _ (by omega)
              have h3 : 0 < 4294967296 ^ p1 := Nat.pow_pos (by omega)
              omega
            have hjM : j < M1 := unhide HKJ
            have hjMi : (j : Int) < (M1 : Int) := by omega
            have hQj := unhide HQZ j (by omega)
            have hgm : (g : Int) % 4294967296 = (g : Int) := by omega
            have cu := hXo.cell hXh
            have zu := hXo.frozen jn
            have hq := unhide HQ
            have HEND := hide hend
            have HQJ := hide hQj
            clear hend hjn hQj
            by_cases hfit : c + e ≤ uh
            · obtain ⟨W1, hW1⟩ : ∃ W1, W1 = uh - c := ⟨_, rfl⟩
              obtain ⟨s', hs'⟩ : ∃ s', s' = W1 - e := ⟨_, rfl⟩
              have hse : s' = uh - (c + e) := by omega
              have hdf := digit_fits (val 4294967296 X) (val 4294967296 (X.set jn s')) (val 4294967296 U) (val 4294967296 v * 4294967296 ^ j) (4294967296 ^ jn) g uh c e (by rw [← hse]; exact val_set _ X jn uh s' hXh) (unhide HEND) hfit (by rw [← hq]; exact hqg) hMpos
              rw [← hq] at hdf
              obtain ⟨hgq', hXq, hXM⟩ := hdf
              have hqs := val_set 4294967296 Q j 0 g (unhide HQJ)
              rw [Nat.zero_mul, Nat.add_zero] at hqs
              have hfin := quot_step (val 4294967296 (X.set jn s')) (val 4294967296 U) (val 4294967296 Q) (val 4294967296 (Q.set j g)) (val 4294967296 v) (4294967296 ^ j) g AA (by rw [hgq']; exact hXq) hqs (unhide HUQ)
              have hw1 : (uh : Int) - (c : Int) = (W1 : Int) := by omega
              have hw2 : (W1 : Int) - (e : Int) = (s' : Int) := by omega
              have hsi : (s' : Int) % 4294967296 = (s' : Int) := by omega
              have hdi : (s' : Int) / 9223372036854775808 = 0 := by omega
              have hsb : s' < 4294967296 := by omega
              have hW1b : W1 < 4294967296 := by omega
              have hX2 := hXo.set jn s'
              have hQ2 := hQo.other (g' := w1.heap.size) (k := jn) (u := .int .u32 (s' : Int)) (by omega)
              have cq := hQ2.cell (unhide HQJ)
              have zq := hQ2.frozen j
              have HFIN := hide hfin
              have HXM := hide hXM
              have HX2 := hide hX2
              have HQ2 := hide hQ2
              clear hfin hqs hXq hXM hW1 hs' hse hgq' hX2 hQ2 hq
              go_wp2
              go_roundw
              case rel =>
                refine ⟨j, X.set jn s', Q.set j g, by omega, by go_num, by rw [List.length_set]; exact hXl, mem_set hXs hsb, by rw [List.length_set]; exact hQl, mem_set (unhide HQS) hgB, ?_, unhide HFIN, unhide HXM, (unhide HX2).other (by omega), (unhide HQ2).set j g, (hbx.setCell (p := ⟨w1.heap.size, jn, none⟩) (Nat.le_refl _) _).setCell (p := ⟨w4.heap.size, j, none⟩) (by dsimp only; omega) _⟩
                intro k hk
                rw [List.getElem?_set_ne (by omega)]
                exact unhide HQZ k (by omega)
              case measure => simp [intOf]
            · have hY0 := val_set 4294967296 X jn uh 0 hXh
              rw [Nat.zero_mul, Nat.add_zero] at hY0
              have hzero : ∀ (Z : List Nat), Z.length = L → (∀ k y, jn + 1 ≤ k → Z[k]? = some y → y = 0) → ∀ k y, jn ≤ k → (Z.set jn 0)[k]? = some y → y = 0 := by
                intro Z hZl hZz k y hk hy
                rcases Nat.lt_or_ge jn k with h | h
                · rw [List.getElem?_set_ne (by omega)] at hy
                  exact hZz k y h hy
                · have : k = jn := by omega
                  subst this
                  rw [List.getElem?_set_self (by rw [hZl]; exact hjL)] at hy
                  exact (Option.some.inj hy).symm
              have hYP := (val_hi 4294967296 (X.set jn 0) jn (by omega) (mem_set hXs (by omega)) (hzero X hXl hXz)).2
              have hMP : val 4294967296 v * 4294967296 ^ j < 4294967296 ^ jn := by
                have h1 := val_lt 4294967296 v (unhide HVW).small
                rw [unhide HVN] at h1
                have h2 := Nat.mul_lt_mul_of_pos_right h1 (Nat.pow_pos (n := j) (show 0 < 4294967296 by omega))
                rw [← Nat.pow_add, Nat.add_comm i j, ← unhide HJN] at h2
                exact h2
              have hdb := digit_back (val 4294967296 X) (val 4294967296 U) (val 4294967296 v * 4294967296 ^ j) (4294967296 ^ jn) (val 4294967296 (X.set jn 0)) g uh c e (by omega) (unhide HEND) (by omega) (by rw [← hq]; exact hgq) hYP hMP
              rw [← hq] at hdb
              obtain ⟨hgq', hce, hYM⟩ := hdb
              obtain ⟨s', hs'⟩ : ∃ s', s' = 4294967295 := ⟨_, rfl⟩
              obtain ⟨tt, htt⟩ : ∃ tt, tt = 18446744073709551615 := ⟨_, rfl⟩
              obtain ⟨W1, hw1, hw2⟩ : ∃ W1 : Nat, IntKind.u64.wrap ((uh : Int) - (c : Int)) = (W1 : Int) ∧ IntKind.u64.wrap ((W1 : Int) - (e : Int)) = (tt : Int) := by
                rcases Nat.eq_zero_or_pos e with h0 | h0
                · exact ⟨18446744073709551615, by rw [IntKind.wrap_u64]; omega, by rw [IntKind.wrap_u64]; omega⟩
                · exact ⟨0, by rw [IntKind.wrap_u64]; omega, by rw [IntKind.wrap_u64]; omega⟩
              have hsi : (tt : Int) % 4294967296 = (s' : Int) := by omega
              have hdi : (tt : Int) / 9223372036854775808 = 1 := by omega
              have httb : tt < 18446744073709551616 := by omega
              have hsb : s' < 4294967296 := by omega
              have hgi : (g : Int) - 1 = (q : Int) := by omega
              have hqm : (q : Int) % 4294967296 = (q : Int) := by omega
              have hqB : q < 4294967296 := by omega
              obtain ⟨X1, hX1⟩ : ∃ X1, X1 = X.set jn s' := ⟨_, rfl⟩
              have hX1o := hXo.set jn s'
              rw [← hX1] at hX1o
              have hX1l : X1.length = L := by rw [hX1, List.length_set]; exact hXl
              have hX1s : ∀ y ∈ X1, y < 4294967296 := by rw [hX1]; exact mem_set hXs hsb
              have hX1h : X1[jn]? = some s' := by rw [hX1, List.getElem?_set_self (by rw [hXl]; exact hjL)]
              have hX1z : ∀ k y, jn + 1 ≤ k → X1[k]? = some y → y = 0 := by
                intro k y hk hy
                rw [hX1, List.getElem?_set_ne (by omega)] at hy
                exact hXz k y hk hy
              have hX1v := val_set 4294967296 X jn uh s' hXh
              rw [← hX1] at hX1v
              have hQ2 := hQo.other (g' := w1.heap.size) (k := jn) (u := .int .u32 (s' : Int)) (by omega)
              have hb2 := hbx.setCell (p := ⟨w1.heap.size, jn, none⟩) (Nat.le_refl _) (.int .u32 (s' : Int))
              have hin1 : val 4294967296 X1 + 0 * 4294967296 ^ (j + 0) = val 4294967296 X1 + val 4294967296 (v.take 0) * 4294967296 ^ j := by simp [val]
              have HIN1 := hide hin1
              have HX1O := hide hX1o
              have HX1S := hide hX1s
              have HX1H := hide hX1h
              have HX1Z := hide hX1z
              have HX1V := hide hX1v
              have HQ2 := hide hQ2
              have HB2 := hide hb2
              have HY0 := hide hY0
              have HYM := hide hYM
              have HZERO := hide hzero
              have HS' := hide hs'
              have HGQ := hide hgq'
              have HTT := hide htt
              clear hin1 hX1o hX1s hX1h hX1z hX1v hQ2 hb2 hY0 hYM hzero hs' hgq' htt hX1 hYP hMP hce hq
              go_wp2
              go_loopw [22, 27] (fun cv iv wx => ∃ (k c2 : Nat) (Z : List Nat), k ≤ i ∧ iv = .int .i64 (k : Int) ∧ cv = .int .u64 (c2 : Int) ∧ c2 < 2 ∧ Z.length = L ∧ (∀ y ∈ Z, y < 4294967296) ∧ Z[jn]? = some s' ∧ (∀ k y, jn + 1 ≤ k → Z[k]? = some y → y = 0) ∧
                  Hid (val 4294967296 Z + c2 * 4294967296 ^ (j + k) = val 4294967296 X1 + val 4294967296 (v.take k) * 4294967296 ^ j) ∧ ownU wx w1.heap.size w1.heap.size Z ∧ ownU wx w4.heap.size w4.heap.size Q ∧ Below w1.heap.size w1 wx) (fun _ iv _ => i - (intOf iv).toNat)
              case atStart =>
                exact ⟨0, 0, X1, Nat.zero_le _, rfl, rfl, by omega, hX1l, unhide HX1S, unhide HX1H, unhide HX1Z, HIN1, unhide HX1O, unhide HQ2, unhide HB2⟩
              case round =>
                obtain ⟨k, c2, Z, hki, rfl, rfl, hc2, hZl, hZs, hZh, hZz, HZV, hZo, hQo2, hbz⟩ := hrel
                clear HIN1 HX1O HX1S HX1H HX1Z HQ2 HB2 hXo hQo hbx cu zu
                by_cases hkl : k < i
                · have hkii : (k : Int) < (i : Int) := by omega
                  have hvk : k < v.length := by rw [unhide HVN]; exact hkl
                  obtain ⟨x', hx'⟩ : ∃ x', v[k]? = some x' := ⟨v[k], List.getElem?_eq_getElem hvk⟩
                  obtain ⟨kj, hkj⟩ : ∃ kj, kj = j + k := ⟨_, rfl⟩
                  have hjn := unhide HJN
                  have hkjL : kj < L := by omega
                  obtain ⟨uo, huo⟩ : ∃ uo, Z[kj]? = some uo := ⟨Z[kj]'(by omega), List.getElem?_eq_getElem _⟩
                  have hxs := (unhide HVW).small x' (List.mem_of_getElem? hx')
                  have hus := hZs uo (List.mem_of_getElem? huo)
                  have cx := (hbz.cell (p := ⟨gv, k, none⟩) hgv).trans (unhide HCV k x' hx')
                  have cu := hZo.cell huo
                  have zu := hZo.frozen kj
                  obtain ⟨a1, ha1⟩ : ∃ a1, a1 = uo + x' := ⟨_, rfl⟩
                  obtain ⟨t, ht⟩ : ∃ t, t = c2 + a1 := ⟨_, rfl⟩
                  obtain ⟨s2, hs2⟩ : ∃ s2, s2 = t % 4294967296 := ⟨_, rfl⟩
                  obtain ⟨c3, hc3⟩ : ∃ c3, c3 = t / 4294967296 := ⟨_, rfl⟩
                  have hai : (uo : Int) + (x' : Int) = (a1 : Int) := by omega
                  have hti : (c2 : Int) + (a1 : Int) = (t : Int) := by omega
                  have hs2i : (t : Int) % 4294967296 = (s2 : Int) := by omega
                  have hc3i : (t : Int) / 4294967296 = (c3 : Int) := by omega
                  have hab : a1 < 18446744073709551616 := by omega
                  have htb : t < 18446744073709551616 := by omega
                  have hs2b : s2 < 4294967296 := by omega
                  have hc3b : c3 < 2 := by omega
                  have hkji : (k : Int) + (j : Int) = (kj : Int) := by omega
                  have hkjb : (kj : Int) < (L : Int) := by omega
                  have hne : kj ≠ jn := by omega
                  have hkjn : kj < jn := by omega
                  have hnew := add_val 4294967296 (val 4294967296 Z) (val 4294967296 (Z.set kj s2)) (val 4294967296 X1) x' uo c2 s2 c3 (val 4294967296 (v.take k)) k j (by rw [← hkj]; exact val_set _ Z kj uo s2 huo) (unhide HZV) (by omega)
                  rw [← val_take_succ _ v k x' hx'] at hnew
                  have HNEW := hide hnew
                  clear hnew ha1 ht hs2 hc3 hx' huo hkj hjn hvk
                  go_wp2
                  go_quiet (fail)
                  go_wp2
                  go_roundw
                  case rel =>
                    refine ⟨k + 1, c3, Z.set kj s2, by omega, by go_num, rfl, hc3b, by rw [List.length_set]; exact hZl, mem_set hZs hs2b, ?_, ?_, HNEW, (hZo.drewN _).set kj s2, (hQo2.drewN _).other (by omega), (below_drewN hbz _).setCell (p := ⟨w1.heap.size, kj, none⟩) (Nat.le_refl _) _⟩
                    · rw [List.getElem?_set_ne hne]; exact hZh
                    · intro k y hk hy
                      rw [List.getElem?_set_ne (by omega)] at hy
                      exact hZz k y hk hy
                  case measure => simp [intOf]; omega
                · obtain rfl : k = i := by omega
                  have hkii : ¬ (k : Int) < (k : Int) := by omega
                  have hZ0 := val_set 4294967296 Z jn s' 0 hZh
                  rw [Nat.zero_mul, Nat.add_zero] at hZ0
                  have hZP := (val_hi 4294967296 (Z.set jn 0) jn (by omega) (mem_set hZs (by omega)) (unhide HZERO Z hZl hZz)).2
                  have hZV := unhide HZV
                  rw [List.take_of_length_le (by rw [unhide HVN]; exact Nat.le_refl _), ← unhide HJN] at hZV
                  have hbe := back_end (val 4294967296 (Z.set jn 0)) (val 4294967296 Z) (val 4294967296 X1) (val 4294967296 X) (val 4294967296 (X.set jn 0)) (val 4294967296 U % (val 4294967296 v * 4294967296 ^ j)) (4294967296 ^ jn) (s' * 4294967296 ^ jn) (val 4294967296 v * 4294967296 ^ j) uh c2 hZ0 hZV (unhide HX1V) (unhide HY0).symm (unhide HYM) hZP hc2
                  obtain ⟨rfl, hZr⟩ := hbe
                  obtain ⟨z0, hz0'⟩ : ∃ z0, z0 = 0 := ⟨_, rfl⟩
                  rw [← hz0'] at hZr
                  have hqs := val_set 4294967296 Q j 0 q (unhide HQJ)
                  rw [Nat.zero_mul, Nat.add_zero] at hqs
                  have hdm := Nat.mod_add_div (val 4294967296 U) (val 4294967296 v * 4294967296 ^ j)
                  rw [← unhide HQ, Nat.mul_comm _ q, ← hZr] at hdm
                  have hfin := quot_step (val 4294967296 (Z.set jn z0)) (val 4294967296 U) (val 4294967296 Q) (val 4294967296 (Q.set j q)) (val 4294967296 v) (4294967296 ^ j) q AA hdm hqs (unhide HUQ)
                  have hZM : val 4294967296 (Z.set jn z0) < val 4294967296 v * 4294967296 ^ j := by rw [hZr]; exact Nat.mod_lt _ hMpos
                  have cu := hZo.cell hZh
                  have zu := hZo.frozen jn
                  have hw5 : IntKind.u32.wrap ((s' : Int) + 1) = (z0 : Int) := by rw [IntKind.wrap_u32, unhide HS', hz0']; rfl
                  have hz0b : z0 < 4294967296 := by omega
                  have hZ2 := hZo.set jn z0
                  have hQ3 := hQo2.other (g' := w1.heap.size) (k := jn) (u := .int .u32 (z0 : Int)) (by omega)
                  have cq := hQ3.cell (unhide HQJ)
                  have zq := hQ3.frozen j
                  have HFIN := hide hfin
                  have HZM := hide hZM
                  have HZ2 := hide hZ2
                  have HQ3 := hide hQ3
                  clear hfin hZM hZ2 hQ3 hqs hdm hZr hz0' hZ0 hZP hZV
                  go_wp2
                  go_roundw
                  case rel =>
                    refine ⟨j, Z.set jn z0, Q.set j q, by omega, by go_num, by rw [List.length_set]; exact hZl, mem_set hZs hz0b, by rw [List.length_set]; exact hQl, mem_set (unhide HQS) hqB, ?_, unhide HFIN, unhide HZM, (unhide HZ2).other (by omega), (unhide HQ3).set j q, (hbz.setCell (p := ⟨w1.heap.size, jn, none⟩) (Nat.le_refl _) _).setCell (p := ⟨w4.heap.size, j, none⟩) (by dsimp only; omega) _⟩
                    intro k hk
                    rw [List.getElem?_set_ne (by omega)]
                    exact unhide HQZ k (by omega)
                  case measure => simp [intOf]
end Go.Proofs.YthplbfjpmnpjmaaDoor
