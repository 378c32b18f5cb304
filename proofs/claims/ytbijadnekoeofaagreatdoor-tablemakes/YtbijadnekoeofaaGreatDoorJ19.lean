/-
  package moves, walked: appendDrops.
  gameref.Tabled: what holds in memory while the positions are gone through.
-/
import Derived.Test.YtbijadnekoeofaaGreatDoorJ18
import Derived.Deep.Onto
import Derived.Test.YtbijadnekoeofaaGreatDoorJ12
import Derived.Test.YtbijadnekoeofaaGreatDoorJ14
namespace Go.Proofs.YtbijadnekoeofaaGreatDoor
open Go.RowKit
attribute [local go_sem ↓] Go.wp_at_zero Go.wp_at_succ

/-- A move: whence (-1: out of the hand), where to, which piece. -/
structure Mv where
  f : Int
  t : Nat
  c : Nat
deriving DecidableEq
def mvals (L : List Mv) : List Value := L.flatMap fun m => [.int .i64 m.f, .int .i64 (m.t : Int), .int .u8 (m.c : Int)]
theorem mvals_snoc (L : List Mv) (m : Mv) : mvals (L ++ [m]) = mvals L ++ [.int .i64 m.f, .int .i64 (m.t : Int), .int .u8 (m.c : Int)] := by simp [mvals]
theorem infoMove : (Tryz.prog.info? 45).map (fun i => (i.zero, i.size, i.bytes)) = some (some (.agg #[.int .i64 0, .int .i64 0, .int .u8 0]), 3, 24) := by kernel_rfl
def mkD (to : Nat) (c : UInt8) : Mv := ⟨-1, to, c.toNat⟩
/-- What a hand's letters can do at a cell; at all cells below one. -/
def dropAt (C : ByteArray) (h : List UInt8) (to : Nat) : List Mv := if cellN C to = 46 then h.map (mkD to) else []
def dropsTo (C : ByteArray) (h : List UInt8) (n : Nat) : List Mv := (List.range n).flatMap (dropAt C h)
theorem dropsTo_succ (C : ByteArray) (h : List UInt8) (n : Nat) : dropsTo C h (n + 1) = dropsTo C h n ++ dropAt C h n := by unfold dropsTo; rw [List.range_succ, List.flatMap_append]; simp
theorem dropsTo_len (C : ByteArray) (h : List UInt8) (n : Nat) : (dropsTo C h n).length ≤ n * h.length := by
  induction n with
  | zero => simp [dropsTo]
  | succ n ih =>
    rw [dropsTo_succ, List.length_append, Nat.succ_mul]
    have : (dropAt C h n).length ≤ h.length := by unfold dropAt; split <;> simp
    omega
theorem RowM.below {w w' : World} {g B : Nat} {l : List UInt8} (h : RowM w g l) (hb : Below B w w') (hg : g < B) : RowM w' g l := by
  obtain ⟨cur, m, h1, h2, h3⟩ := h
  exact ⟨cur, m, by rw [hb.block g hg]; exact h1, h2, h3⟩
theorem RowM.lt {w : World} {g : Nat} {l : List UInt8} (h : RowM w g l) : g < w.heap.size := by
  obtain ⟨cur, m, h1, -⟩ := h
  exact (Array.getElem?_eq_some_iff.1 h1).1
/-- The hand of the player whose turn it is. -/
def handOf (T : Nat) (A B : ByteArray) : ByteArray := if T = 0 then A else B
theorem hand_cell (w : World) (b T : Nat) (W H T' : Int) (C A B : ByteArray) (h : isPb w b W H T' C A B) (hT : T ≤ 1) : w.cell? ⟨b, 4 + T, none⟩ = some (.string (handOf T A B)) := by
  obtain ⟨-, -, -, -, p4, p5⟩ := h.all
  rcases (by omega : T = 0 ∨ T = 1) with rfl | rfl
  · exact p4
  · exact p5

set_option maxHeartbeats 4000000 in
set_option maxRecDepth 100000 in
theorem appendDrops_any (W H T : Nat) (C A B : ByteArray) (w : World) (hT : T ≤ 1) (hA : A.size ≤ 8) (hB : B.size ≤ 8) (hC : C.size ≤ 64) :
    Calls Tryz.prog 96 #[.slice none 0 0, .agg #[.int .i64 (W : Int), .int .i64 (H : Int), .string C, .int .i64 (T : Int), .string A, .string B]] w fun e w' => ∃ v, e = .returned v ∧ w'.ownsRow w.heap.size 45 3 v (dropsTo C (cptN (handOf T A B).data.toList (handOf T A B).size) C.size).length (mvals (dropsTo C (cptN (handOf T A B).data.toList (handOf T A B).size) C.size)) ∧ Below w.heap.size w w' := by
  obtain ⟨i0, hi, hz0, hz1, hz2⟩ := info_parts infoMove
  obtain ⟨h, hh⟩ : ∃ h, h = handOf T A B := ⟨_, rfl⟩
  rw [← hh]
  have hh8 : h.size ≤ 8 := by rw [hh]; unfold handOf; split <;> assumption
  obtain ⟨wa, hwa⟩ : ∃ wa, wa = w.alloc (.cells #[.int .i64 (W : Int), .int .i64 (H : Int), .string C, .int .i64 (T : Int), .string A, .string B] 24 (0, 0)) := ⟨_, rfl⟩
  have hba : Below w.heap.size w wa := by rw [hwa]; exact (Below.refl _ _).alloc (Nat.le_refl _) _
  have hpb : isPb wa w.heap.size W H T C A B := by rw [hwa]; exact heap_alloc_new w _
  have hsa : wa.heap.size = w.heap.size + 1 := by rw [hwa]; simp
  have hhc := hand_cell wa w.heap.size T _ _ _ C A B hpb hT
  rw [← hh] at hhc
  have hcv := run_bytes_of_string (P := Tryz.prog) wa 9 98 5 h Tryz.underlying9 Tryz.underlying98 Tryz.underlying5
  obtain ⟨cap, hcap⟩ : ∃ cap, cap = grownCap wa h.size 0 5 := ⟨_, rfl⟩
  rw [← hcap] at hcv
  obtain ⟨w1, hw1⟩ : ∃ w1, w1 = wa.drew.alloc (.cells (bytesRow h cap) 5 ((bytesRow h cap).size, (bytesRow h cap).size + 1)) := ⟨_, rfl⟩
  rw [← hw1, hsa] at hcv
  have hrow1 : RowM w1 (w.heap.size + 1) h.data.toList := by
    have := rowM_new wa.drew h cap
    rw [← hw1, show wa.drew.heap.size = w.heap.size + 1 from hsa] at this
    simpa [flipTo] using this
  have hb1 : Below wa.heap.size wa w1 := by rw [hw1]; exact (Below.refl _ _).drew.alloc (Nat.le_refl _) _
  have hs1 : w1.heap.size = w.heap.size + 2 := by rw [hw1]; show (wa.drew.alloc _).heap.size = _; simp; exact hsa
  have hp1 : isPb w1 w.heap.size W H T C A B := hpb.below hb1 (by omega)
  have hcm : h.size ≤ cap ∧ cap ≤ maxLen := by rw [hcap]; exact ⟨grownCap_ge _ _ _ _, grownCap_le_maxLen _ _ _ _ (by unfold maxLen; omega)⟩
  have HCP := hide (Compact_any (w.heap.size + 1) h.size cap h.data.toList w1 hrow1 (len_data h) (by omega) hcm.1 hcm.2)
  obtain ⟨lt, hlt⟩ : ∃ lt, lt = cptN h.data.toList h.size := ⟨_, rfl⟩
  have hl8 : lt.length ≤ 8 := by rw [hlt]; exact Nat.le_trans (cptN_le _ _) hh8
  rw [← hlt] at HCP ⊢
  have HBW : Hid (Below w.heap.size w w1) := hide (hba.trans (hb1.mono (by omega)))
  have HP1 := hide hp1
  have HS1 := hide hs1
  rw [hwa] at hcv hhc
  clear hh hrow1 hb1 hs1 hp1 hw1 hwa hba hpb hsa hcap hlt
  go_enter Tryz.func96, Tryz.ntmps96
  go_wp2_with fail
  refine (unhide HCP).mono ?_
  rintro e w2 ⟨rfl, hrow2, hbt2⟩
  have hs2 : w.heap.size + 2 ≤ w2.heap.size := by have := hbt2.size; rw [unhide HS1] at this; exact this
  have hp2 : isPb w2 w.heap.size W H T C A B := (unhide HP1).bt hbt2 (by omega)
  have hb2 : Below w.heap.size w w2 := (unhide HBW).trans (hbt2.below (by omega) (by rw [unhide HS1]; omega))
  obtain ⟨-, -, p2, -⟩ := hp2.all
  have HP2 := hide hp2
  have HB2 := hide hb2
  have HROW2 := hide hrow2
  clear HCP HP1 HS1 HBW hcv hhc hrow2 hbt2 hp2 hb2
  go_wp2
  go_loopw [0, 21] (fun lv iv wr => ∃ to : Nat, iv = .int .i64 (to : Int) ∧ to ≤ C.size ∧ wr.ownsRow (w.heap.size + 2) 45 3 lv (dropsTo C lt to).length (mvals (dropsTo C lt to)) ∧ isPb wr w.heap.size W H T C A B ∧ RowM wr (w.heap.size + 1) lt ∧ Below w.heap.size w wr ∧ w.heap.size + 2 ≤ wr.heap.size) (fun _ iv _ => C.size - (intOf iv).toNat)
  case atStart => exact ⟨0, rfl, Nat.zero_le _, World.ownsRow_nil _ _ _ _, unhide HP2, unhide HROW2, unhide HB2, hs2⟩
  case round =>
    obtain ⟨to, rfl, hto, hown, hpb, hrow, hbw, hsz⟩ := hrel
    clear HP2 HB2 HROW2 p2
    by_cases hlt : to < C.size
    · have hlti : (to : Int) < (C.size : Int) := by omega
      obtain ⟨hcn, h256⟩ := cellN_at C to hlt
      obtain ⟨N, hN⟩ : ∃ N, N = cellN C to := ⟨_, rfl⟩
      rw [← hN] at hcn h256
      obtain ⟨-, -, p2, -⟩ := hpb.all
      have HPB := hide hpb
      have HROW := hide hrow
      have HBW := hide hbw
      have HOWN := hide hown
      have hlen := dropsTo_len C lt to
      have hmul : to * lt.length ≤ 63 * 8 := Nat.mul_le_mul (by omega) hl8
      have hdl : (dropsTo C lt to).length ≤ 504 := by omega
      have hsu := dropsTo_succ C lt to
      clear hpb hrow hbw hown hlen hmul
      by_cases h46 : N = 46
      · have hb : ((N : Int) != 46) = false := by simp; omega
        have hat : dropAt C lt to = lt.map (mkD to) := by unfold dropAt; rw [← hN, if_pos h46]
        rw [hat] at hsu
        have HSU := hide hsu
        clear hN hat hsu h46
        have hl8i : (lt.length : Int) ≤ 8 := by omega
        go_wp2
        go_loopw [0, 31] (fun lv jv wr => ∃ j : Nat, jv = .int .i64 (j : Int) ∧ j ≤ lt.length ∧ wr.ownsRow (w.heap.size + 2) 45 3 lv (dropsTo C lt to ++ (lt.take j).map (mkD to)).length (mvals (dropsTo C lt to ++ (lt.take j).map (mkD to))) ∧ isPb wr w.heap.size W H T C A B ∧ RowM wr (w.heap.size + 1) lt ∧ Below w.heap.size w wr ∧ w.heap.size + 2 ≤ wr.heap.size) (fun _ jv _ => lt.length - (intOf jv).toNat)
        case atStart => exact ⟨0, rfl, Nat.zero_le _, by simpa using unhide HOWN, unhide HPB, unhide HROW, unhide HBW, hsz⟩
        case round =>
          obtain ⟨j, rfl, hj, hown, hpb, hrow, hbw, hszj⟩ := hrel
          clear HPB HROW HBW HOWN p2
          by_cases hjl : j < lt.length
          · have hjli : (j : Int) < (lt.length : Int) := by omega
            have cj := hrow.cell j hjl
            obtain ⟨c, hc⟩ : ∃ c, c = lt[j] := ⟨_, rfl⟩
            rw [← hc] at cj
            have htk : (lt.take (j + 1)).map (mkD to) = (lt.take j).map (mkD to) ++ [⟨-1, to, c.toNat⟩] := by rw [List.take_succ_eq_append_getElem hjl, List.map_append, hc]; rfl
            have HTK := hide htk
            obtain ⟨L, hL⟩ : ∃ L : List Mv, L = dropsTo C lt to ++ (lt.take j).map (mkD to) := ⟨_, rfl⟩
            have hLl : L.length ≤ 512 := by rw [hL, List.length_append, List.length_map, List.length_take]; omega
            rw [← hL] at hown
            have HL := hide hL
            have HPB := hide hpb
            have HROW := hide hrow
            have HBW := hide hbw
            have hge := own_ge hown
            have HGE := hide hge
            clear hpb hrow hbw hc htk hL hge
            go_wp2_with (at_builtin; refine wpList_append_own _ rfl _ _ 39 rfl (w.heap.size + 2) 45 i0 _ 3 24 Tryz.underlying39 hi hz0 hz1 hz2 rfl (by decide) _ _ _ rfl (hown.alloc _) ⟨wr.heap.size, 0, none⟩ 1 1 [.int .i64 (-1), .int .i64 (to : Int), .int .u8 (c.toNat : Int)] rfl rfl ?c1 ?c2 ?c3 ?c4 ?c5 ?_)
            case c1 =>
              intro j u hj
              match j, hj with
              | 0, hj => simp at hj; subst hj; simp [Addr.add]
              | 1, hj => simp at hj; subst hj; simp [Addr.add]
              | 2, hj => simp at hj; subst hj; simp [Addr.add]
            case c2 =>
              intro u hu
              simp only [List.mem_cons, List.not_mem_nil, or_false] at hu
              rcases hu with rfl | rfl | rfl <;> rfl
            case c3 => unfold maxLen; omega
            case c4 => omega
            case c5 => simp; omega
            intro v' w3 hown' hgrow _
            have hb3 : Below (w.heap.size + 2) wr w3 := ((Below.refl _ wr).alloc hszj _).grown hgrow (by simp; omega) (unhide HGE)
            have hown3 : w3.ownsRow (w.heap.size + 2) 45 3 v' (dropsTo C lt to ++ (lt.take (j + 1)).map (mkD to)).length (mvals (dropsTo C lt to ++ (lt.take (j + 1)).map (mkD to))) := by
              rw [unhide HTK, ← List.append_assoc, ← unhide HL, mvals_snoc, List.length_append]
              exact hown'
            have HOWN3 := hide hown3
            have HPB3 := hide ((unhide HPB).below hb3 (by omega))
            have HROW3 := hide ((unhide HROW).below hb3 (by omega))
            have HBW3 := hide ((unhide HBW).trans (hb3.mono (by omega)))
            have hsz3 : w.heap.size + 2 ≤ w3.heap.size := Nat.le_trans hszj hb3.size
            clear hown' hgrow hown hown3 hb3 HPB HROW HBW cj
            go_wp2
            go_roundw
            case rel => exact ⟨j + 1, by go_num, by omega, unhide HOWN3, unhide HPB3, unhide HROW3, unhide HBW3, hsz3⟩
            case measure => simp only [intOf]; omega
          · have hjli : ¬ (j : Int) < (lt.length : Int) := by omega
            rw [List.take_of_length_le (show lt.length ≤ j by omega), ← unhide HSU] at hown
            have HPB := hide hpb
            have HROW := hide hrow
            have HBW := hide hbw
            have HOWN := hide hown
            clear hpb hrow hbw hown
            go_wp2
            go_roundw
            case rel => exact ⟨to + 1, by go_num, by omega, unhide HOWN, unhide HPB, unhide HROW, unhide HBW, hszj⟩
            case measure => simp only [intOf]; omega
      · have hb : ((N : Int) != 46) = true := by simp; omega
        have hat : dropAt C lt to = [] := by unfold dropAt; rw [← hN, if_neg h46]
        rw [hat, List.append_nil] at hsu
        have HSU := hide hsu
        clear hN hat hsu h46
        go_wp2
        go_roundw
        case rel => exact ⟨to + 1, by go_num, by omega, by rw [unhide HSU]; exact unhide HOWN, unhide HPB, unhide HROW, unhide HBW, hsz⟩
        case measure => simp only [intOf]; omega
    · have hlti : ¬ (to : Int) < (C.size : Int) := by omega
      have HBW := hide hbw
      rw [show to = C.size by omega] at hown
      have HOWN := hide hown
      clear hpb hrow hbw hown
      go_wp2
      go_ret
      exact ⟨_, rfl, World.ownsRow.mono (unhide HOWN) (by omega), unhide HBW⟩
end Go.Proofs.YtbijadnekoeofaaGreatDoor

namespace Go.Proofs.YtbijadnekoeofaaGreatDoor
open Go.RowKit

theorem infoPo : (Tryz.prog.info? 24).map (fun i => (i.zero, i.size, i.bytes)) = some (some (.agg #[.int .i64 0, .int .i64 0, .string ⟨#[]⟩, .int .i64 0, .string ⟨#[]⟩, .string ⟨#[]⟩]), 6, 72) := by kernel_rfl
theorem infoInts : (Tryz.prog.info? 52).map (fun i => (i.zero, i.size, i.bytes)) = some (some (.slice none 0 0), 1, 24) := by kernel_rfl

/-- append of what stands in a box of its own. -/
theorem app_box {u : World} {base : Nat} {t e : TypeId} {i : TypeInfo} {z : Value} {size bytes : Nat} (ht : Tryz.prog.underlying t = some (.slice e)) (hi : Tryz.prog.info? e = some i) (hz : i.zero = some z) (hsize : i.size = size) (hby : i.bytes = bytes) (hzs : z.cells.size = size) (hsz : 0 < size)
    {v : Value} {n : Nat} {xs : List Value} (h : u.ownsRow base e size v n xs) (news : List Value) (hl : news.length = size) (h1 : ∀ x ∈ news, x.oneCell' = true) (h63 : n + 1 ≤ maxLen) (hbytes : (n + 1) * bytes ≤ 140737488355328) (hbase : base ≤ u.heap.size) :
    ∃ v' u', (Builtin.append_ #[t, t] t #[v, .slice (some ⟨u.heap.size, 0, none⟩) 1 1]).run Tryz.prog (u.alloc (.cells news.toArray e (0, 0))) = .ok v' u' ∧ u'.ownsRow base e size v' (n + 1) (xs ++ news) ∧ (∀ k, k < u.heap.size → v.ownBlock ≠ some k → u'.heap[k]? = u.heap[k]?) ∧ u.heap.size ≤ u'.heap.size ∧ u'.os = u.os ∧ u'.tape = u.tape ∧ u'.output = u.output ∧
      (v'.ownBlock = v.ownBlock ∨ ∃ g, v'.ownBlock = some g ∧ u.heap.size ≤ g) := by
  have hba : Below u.heap.size u (u.alloc (.cells news.toArray e (0, 0))) := (Below.refl _ _).alloc (Nat.le_refl _) _
  have hr : (u.alloc (.cells news.toArray e (0, 0))).ownsRow base e size v n xs := row_same h (fun g hg => hba.block g (row_block h hg).2)
  obtain ⟨v', u', hrun, hrow, hg, -, hob⟩ := run_append_own_at (P := Tryz.prog) (u.alloc (.cells news.toArray e (0, 0))) base t t e i z size bytes ht hi hz hsize hby hzs hsz v n xs hr ⟨u.heap.size, 0, none⟩ 1 1 news (by omega)
    (fun a x hx => by
      have hh := heap_alloc_new u (.cells news.toArray e (0, 0))
      rw [show (⟨u.heap.size, 0, none⟩ : Addr).add a = ⟨u.heap.size, a, none⟩ by (simp [Addr.add]; try omega)]
      unfold World.cell?
      rw [hh]
      simpa using hx)
    h1 h63 hbytes (Nat.le_trans hbase hba.size)
  refine ⟨v', u', hrun, hrow, fun k hk hne => (hg.block k (Nat.lt_of_lt_of_le hk hba.size) (fun e => hne e.symm)).trans (hba.block k hk), Nat.le_trans hba.size hg.size, hg.os.trans hba.os, hg.tape.trans hba.tape, hg.output.trans hba.output, ?_⟩
  rcases hob with hob | hob
  · exact .inl hob
  · exact .inr ⟨_, hob, hba.size⟩

theorem numM.ne_row {u : World} {b s base n size : Nat} {all : List Po} {e : TypeId} {v : Value} {xs : List Value} (h : numM u b all s) (hr : u.ownsRow base e size v n xs) : v.ownBlock ≠ some b := by
  obtain ⟨es, ck, hb⟩ := h.is
  exact row_map hr hb

/-- While what one leads to is gone through. (w7: the world behind Moves; gA: where the row of positions lay then.) -/
structure TbI (base b gA : Nat) (w1 w7 : World) (acc : List Po) (av tv : Value) (tl : List Nat) (u : World) : Prop where
  all : u.ownsRow base 24 6 av acc.length (povs acc)
  ab : ∀ g, av.ownBlock = some g → g = gA ∨ w7.heap.size ≤ g
  nm : numM u b acc 1
  bb : base ≤ b ∧ b < w7.heap.size
  gb : base ≤ gA ∧ gA < w7.heap.size
  to : u.ownsRow w7.heap.size 3 1 tv tl.length (ivs tl)
  fr : ∀ k, k < w7.heap.size → k ≠ gA → k ≠ b → u.heap[k]? = w7.heap[k]?
  sz : w7.heap.size ≤ u.heap.size
  bw : Below base w1 u
section
variable {base b gA : Nat} {w1 w7 u u' : World} {acc : List Po} {av tv : Value} {tl : List Nat}
theorem TbI.below (h : TbI base b gA w1 w7 acc av tv tl u) (hb : Below u.heap.size u u') : TbI base b gA w1 w7 acc av tv tl u' :=
  ⟨row_same h.all (fun g hg => hb.block g (row_block h.all hg).2), h.ab, h.nm.of_block (hb.block b h.nm.lt), h.bb, h.gb, row_same h.to (fun g hg => hb.block g (row_block h.to hg).2), fun k hk h1 h2 => (hb.block k (Nat.lt_of_lt_of_le hk h.sz)).trans (h.fr k hk h1 h2), Nat.le_trans h.sz hb.size,
    h.bw.trans (hb.mono (by have := h.bb; have := h.sz; omega))⟩
/-- A new position. -/
theorem TbI.new (h : TbI base b gA w1 w7 acc av tv tl u) {q : Po} (hq : q.ok) (hn : q ∉ acc) (hlen : acc.length < 100000) :
    ∃ v' u1 u2, (Builtin.append_ #[58, 58] 58 #[av, .slice (some ⟨u.heap.size, 0, none⟩) 1 1]).run Tryz.prog (u.alloc (.cells #[.int .i64 q.W, .int .i64 q.H, .string q.C, .int .i64 q.T, .string q.A, .string q.B] 24 (0, 0))) = .ok v' u1 ∧
      (Instr.mapUpdate 36 (.map (some b)) (.agg #[.int .i64 q.W, .int .i64 q.H, .string q.C, .int .i64 q.T, .string q.A, .string q.B]) (.int .i64 ((acc.length + 1 : Nat) : Int))).run Tryz.prog u1 = .ok () u2 ∧
      TbI base b gA w1 w7 (acc ++ [q]) v' tv tl u2 ∧ (∃ g c, v' = .slice (some ⟨g, 0, none⟩) (acc.length + 1) c) ∧ (∀ k, k < u.heap.size → av.ownBlock ≠ some k → u1.heap[k]? = u.heap[k]?) ∧ u.heap.size ≤ u1.heap.size ∧
      (∀ k, k < u.heap.size → av.ownBlock ≠ some k → k ≠ b → u2.heap[k]? = u.heap[k]?) ∧ u.heap.size ≤ u2.heap.size := by
  obtain ⟨i0, hinfo, hz0, hz1, hz2⟩ := info_parts infoPo
  have hus : base ≤ u.heap.size := by have := h.bb; have := h.sz; omega
  obtain ⟨v', u1, hrun, hrow, hk, hs, ho, ht, hp, hob⟩ := app_box (u := u) (base := base) Tryz.underlying58 hinfo hz0 hz1 hz2 rfl (by omega) h.all [.int .i64 q.W, .int .i64 q.H, .string q.C, .int .i64 q.T, .string q.A, .string q.B] rfl
    (fun x hx => by
      simp only [List.mem_cons, List.not_mem_nil, or_false] at hx
      rcases hx with rfl | rfl | rfl | rfl | rfl | rfl <;> rfl) (by unfold maxLen; omega) (by omega) hus
  have hnb := h.nm.ne_row h.all
  have hnm1 : numM u1 b acc 1 := h.nm.of_block (hk b h.nm.lt hnb)
  obtain ⟨u2, hrun2, hnm2, hg2⟩ := hnm1.put (p := q) (by omega) hq hn
  have hrow' : u1.ownsRow base 24 6 v' (acc ++ [q]).length (povs (acc ++ [q])) := by
    rw [List.length_append, povs_app]
    exact hrow
  have hav : ∀ g, av.ownBlock = some g → base ≤ g := fun g hg => (row_block h.all hg).1
  have hblk : ∀ k, k < u.heap.size → av.ownBlock ≠ some k → k ≠ b → u2.heap[k]? = u.heap[k]? := fun k hk1 h1 h2 => (hg2.block k (Nat.lt_of_lt_of_le hk1 hs) (by simpa using h2)).trans (hk k hk1 h1)
  have hto : ∀ g, tv.ownBlock = some g → av.ownBlock ≠ some g ∧ g ≠ b := fun g hg => ⟨row_types h.all h.to (by decide) hg, fun e => by have := (row_block h.to hg).1; have := h.bb.2; omega⟩
  refine ⟨v', u1, u2, hrun, hrun2, ⟨row_off hrow' hg2 (hnm1.ne_row hrow'), fun g hg => ?_, hnm2, h.bb, h.gb, row_same h.to (fun g hg => hblk g (row_block h.to hg).2 (hto g hg).1 (hto g hg).2), fun k hk1 h1 h2 => (hblk k (Nat.lt_of_lt_of_le hk1 h.sz) (fun e => by
      rcases h.ab k e with e1 | e1
      · exact h1 e1
      · omega) h2).trans (h.fr k hk1 h1 h2), Nat.le_trans h.sz (Nat.le_trans hs hg2.size), ?_⟩, ?_, fun k hk1 h1 => hk k hk1 h1, hs, hblk, Nat.le_trans hs hg2.size⟩
  · rcases hob with e | ⟨g', e, hg'⟩
    · exact h.ab g (e ▸ hg)
    · rw [e] at hg
      simp only [Option.some.injEq] at hg
      have := h.sz
      exact .inr (by omega)
  · have hb := h.bw
    refine ⟨hg2.os.trans (ho.trans hb.os), hg2.tape.trans (ht.trans hb.tape), hg2.output.trans (hp.trans hb.output), Nat.le_trans hb.size (Nat.le_trans hs hg2.size), fun k hk1 => ?_⟩
    exact (hblk k (by omega) (fun e => by have := hav k e; omega) (by have := h.bb.1; omega)).trans (hb.block k hk1)
  · rcases hrow.2 with ⟨_, h0⟩ | ⟨g, cp, cur, e, _⟩
    · omega
    · exact ⟨g, cp, e⟩
/-- One number more. -/
theorem TbI.num (h : TbI base b gA w1 w7 acc av tv tl u) (x : Nat) (hlen : tl.length < 100000) :
    ∃ v' u1, (Builtin.append_ #[52, 52] 52 #[tv, .slice (some ⟨u.heap.size, 0, none⟩) 1 1]).run Tryz.prog (u.alloc (.cells #[.int .i64 (x : Int)] 3 (0, 0))) = .ok v' u1 ∧ TbI base b gA w1 w7 acc av v' (tl ++ [x]) u1 ∧ (∃ g c, v' = .slice (some ⟨g, 0, none⟩) (tl.length + 1) c) ∧
      (∀ k, k < w7.heap.size → u1.heap[k]? = u.heap[k]?) := by
  obtain ⟨i0, hinfo, hz0, hz1, hz2⟩ := info_parts infoInt
  have hus := h.sz
  obtain ⟨v', u1, hrun, hrow, hk, hs, ho, ht, hp, hob⟩ := app_box (u := u) (base := w7.heap.size) Tryz.underlying52 hinfo hz0 hz1 hz2 rfl (by omega) h.to [.int .i64 (x : Int)] rfl (fun y hy => by rw [List.mem_singleton.1 hy]; rfl) (by unfold maxLen; omega) (by omega) hus
  have hrow' : u1.ownsRow w7.heap.size 3 1 v' (tl ++ [x]).length (ivs (tl ++ [x])) := by
    rw [List.length_append, show ivs (tl ++ [x]) = ivs tl ++ [.int .i64 (x : Int)] by simp [ivs]]
    exact hrow
  have hlow : ∀ k, k < w7.heap.size → u1.heap[k]? = u.heap[k]? := fun k hk1 => hk k (by omega) (fun e => by have := (row_block h.to e).1; omega)
  refine ⟨v', u1, hrun, ⟨row_same h.all (fun g hg => hk g (row_block h.all hg).2 (row_types h.to h.all (by decide) hg)), h.ab, h.nm.of_block (hlow b h.bb.2), h.bb, h.gb, hrow', fun k hk1 h1 h2 => (hlow k hk1).trans (h.fr k hk1 h1 h2), Nat.le_trans h.sz hs, ?_⟩, ?_, hlow⟩
  · have hb := h.bw
    have := h.bb
    exact ⟨ho.trans hb.os, ht.trans hb.tape, hp.trans hb.output, Nat.le_trans hb.size hs, fun k hk1 => (hlow k (by omega)).trans (hb.block k hk1)⟩
  · rcases hrow.2 with ⟨_, h0⟩ | ⟨g, cp, cur, e, _⟩
    · omega
    · exact ⟨g, cp, e⟩
end

/-- One row more. -/
theorem NxR.more {u : World} {base base' : Nat} {v x : Value} {L : List (List Nat)} {l : List Nat} (h : NxR u base v L) (hx : u.ownsRow base' 3 1 x l.length (ivs l)) (hbb : base ≤ base') (hlen : L.length < 100000) (hb : base ≤ u.heap.size) :
    ∃ v' u', (Builtin.append_ #[59, 59] 59 #[v, .slice (some ⟨u.heap.size, 0, none⟩) 1 1]).run Tryz.prog (u.alloc (.cells #[x] 52 (0, 0))) = .ok v' u' ∧ NxR u' base v' (L ++ [l]) ∧ (∃ g c, v' = .slice (some ⟨g, 0, none⟩) (L.length + 1) c ∧ L.length + 1 ≤ c ∧ c ≤ maxLen) ∧ (∀ k, k < u.heap.size → v.ownBlock ≠ some k → u'.heap[k]? = u.heap[k]?) ∧ u.heap.size ≤ u'.heap.size ∧ u'.os = u.os ∧ u'.tape = u.tape ∧ u'.output = u.output := by
  obtain ⟨i0, hinfo, hz0, hz1, hz2⟩ := info_parts infoInts
  obtain ⟨vs, hr, hl⟩ := h
  have hx1 : x.oneCell' = true := by
    rcases hx.2 with ⟨e, _⟩ | ⟨g, cp, cur, e, _⟩
    · rw [e]; rfl
    · rw [e]; rfl
  obtain ⟨v', u', hrun, hrow, hk, hs, ho, ht, hp, hob⟩ := app_box (u := u) (base := base) Tryz.underlying59 hinfo hz0 hz1 hz2 rfl (by omega) hr [x] rfl (fun y hy => by rw [List.mem_singleton.1 hy]; exact hx1) (by unfold maxLen; omega) (by omega) hb
  have hvl : vs.length = L.length := by have := hr.1; omega
  have hkeep : ∀ {b : Nat} {y : Value} {m : List Nat}, u.ownsRow b 3 1 y m.length (ivs m) → base ≤ b → u'.ownsRow base 3 1 y m.length (ivs m) := fun {b y m} hy hb2 => rowBaseT (row_same hy (fun g hg => hk g (row_block hy hg).2 (row_types hr hy (by decide) hg))) hb2
  refine ⟨v', u', hrun, ⟨vs ++ [x], by rw [List.length_append]; exact hrow, fun j m hj => ?_⟩, ?_, hk, hs, ho, ht, hp⟩
  · by_cases hjl : j < L.length
    · rw [List.getElem?_append_left hjl] at hj
      obtain ⟨y, hy1, hy2⟩ := hl j m hj
      exact ⟨y, by rw [List.getElem?_append_left (by omega)]; exact hy1, hkeep hy2 (Nat.le_refl _)⟩
    · have hje : j = L.length := by
        have := (List.getElem?_eq_some_iff.1 hj).1
        simp at this
        omega
      subst hje
      rw [List.getElem?_append_right (Nat.le_refl _), Nat.sub_self] at hj
      simp only [List.getElem?_cons_zero, Option.some.injEq] at hj
      subst hj
      exact ⟨x, by rw [← hvl, List.getElem?_append_right (Nat.le_refl _), Nat.sub_self]; rfl, hkeep hx hbb⟩
  · rcases hrow.2 with ⟨_, h0⟩ | ⟨g, cp, cur, e, _, _, h1, h2, _⟩
    · omega
    · exact ⟨g, cp, e, h1, h2⟩
theorem row_movT {w : World} {base n : Nat} {v : Value} {ms : List Mv} (hr : w.ownsRow base 45 3 v n (mvals ms)) : ∃ o c, v = .slice o n c ∧ n ≤ c ∧ c ≤ maxLen ∧ ∀ (j : Nat) (m : Mv), ms[j]? = some m → ∃ g, o = some ⟨g, 0, none⟩ ∧ base ≤ g ∧ g < w.heap.size ∧ ∀ u : World, u.heap[g]? = w.heap[g]? → u.cell? ⟨g, j * 3, none⟩ = some (.int .i64 m.f) ∧ u.cell? ⟨g, j * 3 + 1, none⟩ = some (.int .i64 (m.t : Int)) ∧ u.cell? ⟨g, j * 3 + 2, none⟩ = some (.int .u8 (m.c : Int)) := by
  have hl : ms.length = n := by
    have h1 := hr.1
    rw [show (mvals ms).length = ms.length * 3 from fm_len (f := fun m : Mv => [Value.int .i64 m.f, .int .i64 (m.t : Int), .int .u8 (m.c : Int)]) (fun _ => rfl) ms] at h1
    omega
  rcases hr.2 with ⟨e, h0⟩ | ⟨g, cap, cur, e, hb, hg, h1, h2, _⟩
  · refine ⟨none, 0, by rw [e, h0], by omega, by unfold maxLen; omega, fun j m hm => ?_⟩
    have := (List.getElem?_eq_some_iff.1 hm).1
    omega
  · subst e
    refine ⟨_, cap, rfl, h1, h2, fun j m hm => ⟨g, rfl, hb, (Array.getElem?_eq_some_iff.1 hg).1, fun u hu => ?_⟩⟩
    have hj := (List.getElem?_eq_some_iff.1 hm).1
    have key : ∀ k, k < 3 → u.cell? ⟨g, j * 3 + k, none⟩ = [Value.int .i64 m.f, .int .i64 (m.t : Int), .int .u8 (m.c : Int)][k]? := fun k hk => by
      rw [World.cell?_of_block (a := ⟨g, j * 3 + k, none⟩) hu, hr.cellAt (j * 3 + k) (by omega)]
      exact fm_at (f := fun m : Mv => [Value.int .i64 m.f, .int .i64 (m.t : Int), .int .u8 (m.c : Int)]) (fun _ => rfl) ms j k m hm hk
    exact ⟨key 0 (by omega), key 1 (by omega), key 2 (by omega)⟩

/-- The positions have been gone through as far as i. -/
structure TbO (nx : Po → List Po) (s : Po) (b : Nat) (w1 : World) (i gN cN n : Nat) (nv : Value) (u : World) : Prop where
  len : (bfsN nx s i).length = n
  all : u.ownsRow w1.heap.size 24 6 (.slice (some ⟨gN, 0, none⟩) n cN) n (povs (bfsN nx s i))
  nm : numM u b (bfsN nx s i) 1
  bb : w1.heap.size ≤ b
  nr : NxR u w1.heap.size nv (nxL nx s i)
  bw : Below w1.heap.size w1 u
  bl : ∀ a, a < i → a < (bfsN nx s a).length
section
variable {nx : Po → List Po} {s : Po} {b : Nat} {w1 : World} {i gN cN n : Nat} {nv : Value} {u u' : World}
theorem TbO.below (h : TbO nx s b w1 i gN cN n nv u) (hb : Below u.heap.size u u') : TbO nx s b w1 i gN cN n nv u' :=
  ⟨h.len, row_same h.all (fun g hg => hb.block g (row_block h.all hg).2), h.nm.of_block (hb.block b h.nm.lt), h.bb, h.nr.below hb, h.bw.trans (hb.mono h.bw.size), h.bl⟩
/-- What one leads to is gone through now. -/
theorem TbO.inner (h : TbO nx s b w1 i gN cN n nv u) : TbI w1.heap.size b gN w1 u (extL (bfsN nx s i) []) (.slice (some ⟨gN, 0, none⟩) n cN) (.slice none 0 0) [] u := by
  have hg := row_block h.all (g := gN) rfl
  refine ⟨by rw [ext_nil, h.len]; exact h.all, fun g hg2 => by simp only [Value.ownBlock, Option.some.injEq] at hg2; exact .inl hg2.symm, h.nm, ⟨h.bb, h.nm.lt⟩, hg, ⟨rfl, .inl ⟨rfl, rfl⟩⟩, fun _ _ _ _ => rfl, Nat.le_refl _, h.bw⟩
/-- All that it leads to has been gone through. -/
theorem TbO.next (h : TbO nx s b w1 i gN cN n nv u) {p : Po} (hp : (bfsN nx s i)[i]? = some p) {gQ cQ n2 : Nat} {tv : Value} {wq : World} (hI : TbI w1.heap.size b gN w1 u (extL (bfsN nx s i) (nx p)) (.slice (some ⟨gQ, 0, none⟩) n2 cQ) tv ((nx p).map (extL (bfsN nx s i) (nx p)).idxOf) wq) (hn2 : (extL (bfsN nx s i) (nx p)).length = n2) (hi : i < 100000) :
    ∃ v' u', (Builtin.append_ #[59, 59] 59 #[nv, .slice (some ⟨wq.heap.size, 0, none⟩) 1 1]).run Tryz.prog (wq.alloc (.cells #[tv] 52 (0, 0))) = .ok v' u' ∧ TbO nx s b w1 (i + 1) gQ cQ n2 v' u' ∧ ∃ g c, v' = .slice (some ⟨g, 0, none⟩) (i + 1) c := by
  have hb1 := bfs_step hp
  have hil := (List.getElem?_eq_some_iff.1 hp).1
  have hus := h.bw.size
  have hnr : NxR wq w1.heap.size nv (nxL nx s i) := by
    refine h.nr.same (P := fun g => g ≠ gN ∧ g ≠ b) (fun g hg ⟨h1, h2⟩ => hI.fr g hg h1 h2) (fun m y ys hr g hg => ⟨fun e => ?_, fun e => ?_⟩) (fun m y ys hr g hg => ⟨fun e => ?_, fun e => ?_⟩)
    · exact row_types hr h.all (by decide) rfl (by rw [hg, e])
    · exact h.nm.ne_row hr (by rw [hg, e])
    · exact row_types hr h.all (by decide) rfl (by rw [hg, e])
    · exact h.nm.ne_row hr (by rw [hg, e])
  have hto : wq.ownsRow u.heap.size 3 1 tv ((nx p).map (extL (bfsN nx s i) (nx p)).idxOf).length (ivs ((nx p).map (extL (bfsN nx s i) (nx p)).idxOf)) := hI.to
  obtain ⟨v', u', hrun, hnr', hv', hk, hs, ho, ht, hpp⟩ := hnr.more hto hus (by rw [nxL_len]; exact hi) (Nat.le_trans hus hI.sz)
  rw [← hb1] at hnr' hn2
  have hL : nxL nx s i ++ [(nx p).map (bfsN nx s (i + 1)).idxOf] = nxL nx s (i + 1) := (nxL_step h.bl hp).symm
  rw [hL] at hnr'
  rw [nxL_len] at hv'
  have hnvb : ∀ g, nv.ownBlock = some g → w1.heap.size ≤ g := fun g hg => by
    obtain ⟨vs, hr, -⟩ := hnr
    exact (row_block hr hg).1
  have hall := hI.all
  rw [← hb1, hn2] at hall
  refine ⟨v', u', hrun, ⟨hn2, ?_, ?_, h.bb, hnr', ?_, fun a ha => ?_⟩, ?_⟩
  · exact row_same hall (fun g hg => hk g (row_block hall hg).2 (by
      obtain ⟨vs, hr, -⟩ := hnr
      exact row_types hr hall (by decide) hg))
  · have hnm := hI.nm
    rw [← hb1] at hnm
    refine hnm.of_block (hk b hnm.lt ?_)
    obtain ⟨vs, hr, -⟩ := hnr
    exact hnm.ne_row hr
  · have hb := hI.bw
    exact ⟨ho.trans hb.os, ht.trans hb.tape, hpp.trans hb.output, Nat.le_trans hb.size hs, fun k hk1 => (hk k (by have := hI.sz; omega) (fun e => by have := hnvb k e; omega)).trans (hb.block k hk1)⟩
  · by_cases hai : a < i
    · exact h.bl a hai
    · have : a = i := by omega
      rw [this]; exact hil
  · obtain ⟨g, c, e, -⟩ := hv'
    exact ⟨g, c, e⟩
end
end Go.Proofs.YtbijadnekoeofaaGreatDoor
