/-
  package house, walked: slices.Clone at ways and at pieces.
-/
import Derived.Test.YtihojhfpepbjhaaGreatDoorJ5
import Derived.Test.YtihojhfpepbjhaaGreatDoorJ25
import Derived.Laws.CopyOwn
import Derived.Laws.AppendOwnNone
import Derived.Laws.Cover3
import Derived.BigQuiet
namespace Go.Proofs.YtihojhfpepbjhaaGreatDoor
open Go.RowKit
attribute [local go_sem ↓] Go.wp_at_zero Go.wp_at_succ

section
variable {α : Type} {f : α → List Value} {c : Nat}
theorem hm_len (hc : ∀ x, (f x).length = c) : ∀ l : List α, (l.flatMap f).length = l.length * c
  | [] => by simp
  | x :: l => by
    rw [List.flatMap_cons, List.length_append, hc, hm_len hc l, List.length_cons, Nat.add_mul]
    omega
theorem hm_at (hc : ∀ x, (f x).length = c) : ∀ (l : List α) (i j : Nat) (x : α), l[i]? = some x → j < c → (l.flatMap f)[i * c + j]? = (f x)[j]?
  | [], _, _, _, h, _ => by simp at h
  | a :: l, 0, j, x, h, hj => by
    simp only [List.getElem?_cons_zero, Option.some.injEq] at h
    subst h
    rw [List.flatMap_cons, Nat.zero_mul, Nat.zero_add, List.getElem?_append_left (by rw [hc]; exact hj)]
  | a :: l, i + 1, j, x, h, hj => by
    have ih := hm_at hc l i j x (by simpa using h) hj
    have e : (i + 1) * c + j = c + (i * c + j) := by rw [Nat.add_mul]; omega
    rw [List.flatMap_cons, List.getElem?_append_right (by rw [hc, e]; omega), ← ih, hc, e]
    congr 1
    omega
/-- Which element a cell is of. -/
theorem hm_in (hc : ∀ x, (f x).length = c) (hc0 : 0 < c) {l : List α} {j : Nat} {u : Value} (h : (l.flatMap f)[j]? = some u) : ∃ x, l[j / c]? = some x ∧ (f x)[j % c]? = some u := by
  have hj := (List.getElem?_eq_some_iff.1 h).1
  rw [hm_len hc] at hj
  have hi : j / c < l.length := Nat.div_lt_of_lt_mul (by rw [Nat.mul_comm]; exact hj)
  refine ⟨l[j / c], List.getElem?_eq_getElem hi, ?_⟩
  rw [← hm_at hc l (j / c) (j % c) _ (List.getElem?_eq_getElem hi) (Nat.mod_lt _ hc0), ← h]
  congr 1
  have := Nat.div_add_mod j c
  rw [Nat.mul_comm] at this
  exact this
end
def wvH (ws : List Wy) : List Value := ws.flatMap fun z => [.int .i64 z.k, .int .i64 z.x, .int .i64 z.y, .int .i64 z.t]
/-- A piece in a row: where its ways lie. -/
structure Px where
  pc : Pc
  wo : Option Addr
  wc : Nat
def Px.cells (x : Px) : List Value := [.int .u8 (x.pc.l : Int), .int .i64 x.pc.v, .slice x.wo x.pc.ws.length x.wc]
theorem wvH_len (ws : List Wy) : (wvH ws).length = ws.length * 4 := hm_len (c := 4) (fun _ => rfl) ws
theorem pxs_len (L : List Px) : (L.flatMap Px.cells).length = L.length * 3 := hm_len (c := 3) (fun _ => rfl) L
theorem infoWayH : ∃ i0, Tryz.prog.info? 68 = some i0 ∧ i0.zero = some (.agg #[.int .i64 0, .int .i64 0, .int .i64 0, .int .i64 0]) ∧ i0.size = 4 ∧ i0.bytes = 32 := info_parts (by kernel_rfl)
theorem infoPieceH : ∃ i0, Tryz.prog.info? 71 = some i0 ∧ i0.zero = some (.agg #[.int .u8 0, .int .i64 0, .slice none 0 0]) ∧ i0.size = 3 ∧ i0.bytes = 40 := info_parts (by kernel_rfl)
/-- The cells of ways, one by one. -/
theorem wys_cells {w : World} {g off cap : Nat} {ws : List Wy} (h : isWys w (some ⟨g, off, none⟩) cap ws) (j : Nat) (u : Value) (hj : (wvH ws)[j]? = some u) : g < w.heap.size ∧ w.cell? ((⟨g, off, none⟩ : Addr).add j) = some u := by
  obtain ⟨x, hx, hu⟩ := hm_in (c := 4) (fun _ => rfl) (by decide) hj
  have hne : ws ≠ [] := fun e => by subst e; simp at hx
  obtain ⟨g', off', e, hg, hc⟩ := h.cells hne
  cases e
  obtain ⟨c0, c1, c2, c3⟩ := hc _ _ hx
  refine ⟨hg, ?_⟩
  have hd := Nat.div_add_mod j 4
  have hm : j % 4 < 4 := Nat.mod_lt _ (by decide)
  rw [show (⟨g, off, none⟩ : Addr).add j = ⟨g, off + j, none⟩ by simp [Addr.add]]
  rcases (by omega : j % 4 = 0 ∨ j % 4 = 1 ∨ j % 4 = 2 ∨ j % 4 = 3) with e | e | e | e <;> rw [e] at hu <;> simp at hu <;> subst hu
  · rw [show off + j = off + j / 4 * 4 by omega]; exact c0
  · rw [show off + j = off + j / 4 * 4 + 1 by omega]; exact c1
  · rw [show off + j = off + j / 4 * 4 + 2 by omega]; exact c2
  · rw [show off + j = off + j / 4 * 4 + 3 by omega]; exact c3
/-- Ways in a row of the call's own. -/
theorem wys_of_row {w : World} {base : Nat} {v : Value} {ws : List Wy} (h : w.ownsRow base 68 4 v ws.length (wvH ws)) : ∃ ao cap, v = .slice ao ws.length cap ∧ isWys w ao cap ws ∧ ∀ a, ao = some a → base ≤ a.block := by
  rcases h.2 with ⟨rfl, h0⟩ | ⟨g, cap, cur, rfl, hg, hb, hn, hm, hs, ht⟩
  · exact ⟨none, 0, by rw [h0], ⟨by omega, by unfold maxLen; omega, fun _ => rfl, fun hne => absurd (List.eq_nil_of_length_eq_zero h0) hne⟩, fun a e => by cases e⟩
  · refine ⟨some ⟨g, 0, none⟩, cap, rfl, ⟨hn, hm, (fun e => by cases e), fun _ => ⟨g, 0, rfl, (Array.getElem?_eq_some_iff.1 hb).1, fun i z hz => ?_⟩⟩, fun a e => by cases e; exact hg⟩
    have hi := (List.getElem?_eq_some_iff.1 hz).1
    have hcell : ∀ k, k < 4 → w.cell? ⟨g, 0 + i * 4 + k, none⟩ = ([Value.int .i64 z.k, .int .i64 z.x, .int .i64 z.y, .int .i64 z.t] : List Value)[k]? := fun k hk => by
      have h1 := hm_at (f := fun z : Wy => [Value.int .i64 z.k, .int .i64 z.x, .int .i64 z.y, .int .i64 z.t]) (c := 4) (fun _ => rfl) ws i k z hz hk
      rw [show ws.flatMap (fun z : Wy => [Value.int .i64 z.k, .int .i64 z.x, .int .i64 z.y, .int .i64 z.t]) = wvH ws from rfl, ← ht, List.getElem?_take_of_lt (by omega), Array.getElem?_toList] at h1
      rw [Nat.zero_add]
      simp only [World.cell?, hb]
      exact h1
    exact ⟨hcell 0 (by decide), hcell 1 (by decide), hcell 2 (by decide), hcell 3 (by decide)⟩
set_option maxHeartbeats 2000000 in
set_option maxRecDepth 100000 in
theorem cloneWays_any (ao : Option Addr) (cap : Nat) (ws : List Wy) (w : World) (h : isWys w ao cap ws) (hl : ws.length ≤ 1000) :
    Calls Tryz.prog 59 #[.slice ao ws.length cap] w fun e w' => ∃ ao' cap', e = .returned (.slice ao' ws.length cap') ∧ isWys w' ao' cap' ws ∧ (∀ a, ao' = some a → w.heap.size ≤ a.block) ∧ Below w.heap.size w w' := by
  obtain ⟨i0, hinfo, hz0, hz1, hz2⟩ := infoWayH
  have heq : ∀ (a : Option Addr) (l c : Nat) (u : World), (binOp .eql 69 (.slice a l c) (.slice none 0 0)).run Tryz.prog u = .ok (.bool a.isNone) u := fun a l c u => by
    simp only [binOp]
    simp [run_equal_slice_nil u 69 68 a l c Tryz.underlying69]
  cases ao with
  | none =>
    have hc0 := h.nil rfl
    have hle := h.le
    have hw0 : ws = [] := List.eq_nil_of_length_eq_zero (by omega)
    subst hw0
    subst hc0
    have H := hide h
    clear h hinfo hz0 hz1 hz2
    go_enter Tryz.func59, Tryz.ntmps59
    go_wp2
    go_ret
    exact ⟨none, 0, rfl, unhide H, (fun a e => by cases e), Below.refl _ _⟩
  | some a =>
    obtain ⟨wa, hwa⟩ : ∃ wa, wa = w.alloc (.cells #[] 68 (0, 0)) := ⟨_, rfl⟩
    have hba : Below w.heap.size w wa := by rw [hwa]; exact (Below.refl _ _).alloc (Nat.le_refl _) _
    have hown : wa.ownsRow w.heap.size 68 4 (.slice (some ⟨w.heap.size, 0, none⟩) 0 0) 0 [] := by rw [hwa]; exact World.ownsRow_lit w #[] 0 (Nat.le_refl _) (by unfold maxLen; omega) rfl
    have hcells : ∀ (j : Nat) (u : Value), (wvH ws)[j]? = some u → wa.cell? (a.add j) = some u := by
      intro j u hj
      have hne : ws ≠ [] := fun e => by subst e; simp [wvH] at hj
      obtain ⟨g, off, e, -⟩ := h.cells hne
      injection e with e
      subst e
      obtain ⟨hg, hc⟩ := wys_cells h j u hj
      rw [show (⟨g, off, none⟩ : Addr).add j = ⟨g, off + j, none⟩ by simp [Addr.add]] at hc ⊢
      exact (hba.cell (p := ⟨g, off + j, none⟩) hg).trans hc
    have hone : ∀ u ∈ wvH ws, u.oneCell' = true := by
      intro u hu
      unfold wvH at hu
      simp only [List.mem_flatMap, List.mem_cons, List.not_mem_nil, or_false] at hu
      obtain ⟨z, -, rfl | rfl | rfl | rfl⟩ := hu <;> rfl
    have hil := wvH_len ws
    have HBA := hide hba
    have HOW := hide hown
    have HCE := hide hcells
    have HON := hide hone
    have HIL := hide hil
    have HWA := hide hwa
    have HI0 := hide hinfo
    have HZ0 := hide hz0
    have HZ1 := hide hz1
    have HZ2 := hide hz2
    obtain ⟨n, hn⟩ : ∃ n, n = ws.length := ⟨_, rfl⟩
    obtain ⟨xs, hxs⟩ : ∃ xs, xs = wvH ws := ⟨_, rfl⟩
    have HFIN : Hid (∀ (v' : Value) (w2 : World), w2.ownsRow w.heap.size 68 4 v' n xs → ∃ ao' cap', v' = .slice ao' n cap' ∧ isWys w2 ao' cap' ws ∧ ∀ a, ao' = some a → w.heap.size ≤ a.block) := hide (fun v' w2 ho => by rw [hn]; rw [hn, hxs] at ho; exact wys_of_row ho)
    rw [← hn] at HIL hl ⊢
    rw [← hxs] at HCE HON HIL
    clear hba hown hcells hone hil hwa h hinfo hz0 hz1 hz2 hn hxs
    go_enter Tryz.func59, Tryz.ntmps59
    go_wp2_with (at_builtin; rw [← unhide HWA]; refine wpList_append_own _ rfl _ _ 69 rfl w.heap.size 68 i0 _ 4 32 Tryz.underlying69 (unhide HI0) (unhide HZ0) (unhide HZ1) (unhide HZ2) rfl (by decide) _ 0 _ rfl (unhide HOW) a n cap xs rfl (unhide HIL) (unhide HCE) (unhide HON) ?c3 ?c4 (unhide HBA).size ?_)
    case c3 => unfold maxLen; omega
    case c4 => omega
    intro v' w2 hown' hg' _
    have hb2 : Below w.heap.size w w2 := (unhide HBA).grown hg' (unhide HBA).size (fun k hk => by cases hk; exact Nat.le_refl _)
    have hown2 : w2.ownsRow w.heap.size 68 4 v' n xs := by simpa using hown'
    obtain ⟨ao', cap', rfl, hw', hge⟩ := unhide HFIN v' w2 hown2
    have HE := hide (And.intro hw' (And.intro hge hb2))
    clear hown' hg' hown2 hb2 hw' hge
    go_wp2
    go_ret
    exact ⟨ao', cap', rfl, unhide HE⟩
/-- Pieces in a row: each where the list says, its ways where it says. -/
theorem pcs_px {w : World} {ao : Option Addr} {cap : Nat} {ps : List Pc} (h : isPcs w ao cap ps) : ∃ L : List Px, L.map Px.pc = ps ∧ (∀ x ∈ L, isWys w x.wo x.wc x.pc.ws ∧ x.pc.l < 256) ∧
    ∀ a, ao = some a → ∀ (j : Nat) (u : Value), (L.flatMap Px.cells)[j]? = some u → a.block < w.heap.size ∧ w.cell? (a.add j) = some u := by
  by_cases hne : ps = []
  · subst hne
    exact ⟨[], rfl, (fun x hx => by cases hx), (fun a _ j u hj => by simp at hj)⟩
  · obtain ⟨g, off, e, hg, hc⟩ := h.cells hne
    have hwx : ∀ i : Fin ps.length, ∃ x : Px, x.pc = ps[i] ∧ x.pc.l < 256 ∧ isWys w x.wo x.wc x.pc.ws ∧ w.cell? ⟨g, off + i * 3, none⟩ = some (.int .u8 (x.pc.l : Int)) ∧ w.cell? ⟨g, off + i * 3 + 1, none⟩ = some (.int .i64 x.pc.v) ∧ w.cell? ⟨g, off + i * 3 + 2, none⟩ = some (.slice x.wo x.pc.ws.length x.wc) := fun i => by
      obtain ⟨h1, wo, wc, c0, c1, c2, c3⟩ := hc i ps[i] (List.getElem?_eq_getElem i.2)
      exact ⟨⟨ps[i], wo, wc⟩, rfl, h1, c3, c0, c1, c2⟩
    let F : Fin ps.length → Px := fun i => Classical.choose (hwx i)
    have hF := fun i => Classical.choose_spec (hwx i)
    refine ⟨List.ofFn F, ?_, ?_, ?_⟩
    · apply List.ext_getElem
      · simp
      · intro i h1 h2
        rw [List.getElem_map, List.getElem_ofFn]
        exact (hF ⟨i, h2⟩).1
    · intro x hx
      obtain ⟨i, rfl⟩ := List.mem_ofFn.1 hx
      exact ⟨(hF i).2.2.1, (hF i).2.1⟩
    · intro a ha j u hj
      rw [e] at ha
      injection ha with ha
      subst ha
      refine ⟨hg, ?_⟩
      obtain ⟨x, hx, hu⟩ := hm_in (c := 3) (fun _ => rfl) (by decide) hj
      have hd := Nat.div_add_mod j 3
      have hm : j % 3 < 3 := Nat.mod_lt _ (by decide)
      obtain ⟨hil, hix⟩ := List.getElem?_eq_some_iff.1 hx
      rw [List.getElem_ofFn] at hix
      rw [List.length_ofFn] at hil
      have hf := (hF ⟨j / 3, hil⟩).2.2.2
      have hix2 : Classical.choose (hwx ⟨j / 3, hil⟩) = x := hix
      rw [hix2] at hf
      rw [show (⟨g, off, none⟩ : Addr).add j = ⟨g, off + j, none⟩ by simp [Addr.add]]
      obtain ⟨c0, c1, c2⟩ := hf
      unfold Px.cells at hu
      rcases (by omega : j % 3 = 0 ∨ j % 3 = 1 ∨ j % 3 = 2) with e | e | e <;> rw [e] at hu <;> simp at hu <;> subst hu
      · rw [show off + j = off + j / 3 * 3 by omega]; exact c0
      · rw [show off + j = off + j / 3 * 3 + 1 by omega]; exact c1
      · rw [show off + j = off + j / 3 * 3 + 2 by omega]; exact c2
set_option maxHeartbeats 2000000 in
set_option maxRecDepth 100000 in
theorem clonePcs_any (ao : Option Addr) (cap : Nat) (L : List Px) (w : World) (hle : L.length ≤ cap) (hnil : ao = none → cap = 0) (hce : ∀ a, ao = some a → ∀ (j : Nat) (u : Value), (L.flatMap Px.cells)[j]? = some u → a.block < w.heap.size ∧ w.cell? (a.add j) = some u) (hl : L.length ≤ 1000) :
    Calls Tryz.prog 58 #[.slice ao L.length cap] w fun e w' => ∃ v, e = .returned v ∧ w'.ownsRow w.heap.size 71 3 v L.length (L.flatMap Px.cells) ∧ Below w.heap.size w w' := by
  obtain ⟨i0, hinfo, hz0, hz1, hz2⟩ := infoPieceH
  have heq : ∀ (a : Option Addr) (l c : Nat) (u : World), (binOp .eql 25 (.slice a l c) (.slice none 0 0)).run Tryz.prog u = .ok (.bool a.isNone) u := fun a l c u => by
    simp only [binOp]
    simp [run_equal_slice_nil u 25 71 a l c Tryz.underlying25]
  cases ao with
  | none =>
    have hc0 := hnil rfl
    have hw0 : L = [] := List.eq_nil_of_length_eq_zero (by omega)
    subst hw0
    subst hc0
    clear hinfo hz0 hz1 hz2 hce hnil
    go_enter Tryz.func58, Tryz.ntmps58
    go_wp2
    go_ret
    exact ⟨_, rfl, ⟨rfl, .inl ⟨rfl, rfl⟩⟩, Below.refl _ _⟩
  | some a =>
    obtain ⟨wa, hwa⟩ : ∃ wa, wa = w.alloc (.cells #[] 71 (0, 0)) := ⟨_, rfl⟩
    have hba : Below w.heap.size w wa := by rw [hwa]; exact (Below.refl _ _).alloc (Nat.le_refl _) _
    have hown : wa.ownsRow w.heap.size 71 3 (.slice (some ⟨w.heap.size, 0, none⟩) 0 0) 0 [] := by rw [hwa]; exact World.ownsRow_lit w #[] 0 (Nat.le_refl _) (by unfold maxLen; omega) rfl
    have hcells : ∀ (j : Nat) (u : Value), (L.flatMap Px.cells)[j]? = some u → wa.cell? (a.add j) = some u := by
      intro j u hj
      obtain ⟨hg, hc⟩ := hce a rfl j u hj
      exact (hba.cell (p := a.add j) (by rw [show (a.add j).block = a.block by unfold Addr.add; split <;> rfl]; exact hg)).trans hc
    have hone : ∀ u ∈ L.flatMap Px.cells, u.oneCell' = true := by
      intro u hu
      unfold Px.cells at hu
      simp only [List.mem_flatMap, List.mem_cons, List.not_mem_nil, or_false] at hu
      obtain ⟨z, -, rfl | rfl | rfl⟩ := hu <;> rfl
    have hil := pxs_len L
    have HBA := hide hba
    have HOW := hide hown
    have HCE := hide hcells
    have HON := hide hone
    have HIL := hide hil
    have HWA := hide hwa
    have HI0 := hide hinfo
    have HZ0 := hide hz0
    have HZ1 := hide hz1
    have HZ2 := hide hz2
    obtain ⟨n, hn⟩ : ∃ n, n = L.length := ⟨_, rfl⟩
    obtain ⟨xs, hxs⟩ : ∃ xs, xs = L.flatMap Px.cells := ⟨_, rfl⟩
    rw [← hn] at HIL hl ⊢
    rw [← hxs] at HCE HON HIL ⊢
    clear hba hown hcells hone hil hwa hinfo hz0 hz1 hz2 hn hxs hce hnil hle
    go_enter Tryz.func58, Tryz.ntmps58
    go_wp2_with (at_builtin; rw [← unhide HWA]; refine wpList_append_own _ rfl _ _ 25 rfl w.heap.size 71 i0 _ 3 40 Tryz.underlying25 (unhide HI0) (unhide HZ0) (unhide HZ1) (unhide HZ2) rfl (by decide) _ 0 _ rfl (unhide HOW) a n cap xs rfl (unhide HIL) (unhide HCE) (unhide HON) ?c3 ?c4 (unhide HBA).size ?_)
    case c3 => unfold maxLen; omega
    case c4 => omega
    intro v' w2 hown' hg' _
    have hb2 : Below w.heap.size w w2 := (unhide HBA).grown hg' (unhide HBA).size (fun k hk => by cases hk; exact Nat.le_refl _)
    have hown2 : w2.ownsRow w.heap.size 71 3 v' n xs := by simpa using hown'
    have HE := hide (And.intro hown2 hb2)
    clear hown' hg' hown2 hb2
    go_wp2
    go_ret
    exact ⟨_, rfl, unhide HE⟩
end Go.Proofs.YtihojhfpepbjhaaGreatDoor
