/-
  package nim, walked: leave, win.
-/
import Derived.Test.YtphnjedoghopcaaQ25
import Derived.Test.YtphnjedoghopcaaM45
namespace Go.Proofs.Ytphnjedoghopcaa
open Go.RowKit
attribute [local go_sem ↓] Go.wp_at_zero Go.wp_at_succ

theorem upTo_some {p : List Nat → Bool} : ∀ {T : List (List Nat)} {x : List Nat}, T.find? p = some x → ∃ P, upTo p T = P ++ [x]
  | y :: T, x, h => by
    rw [List.find?_cons] at h
    rw [upTo]
    cases hp : p y with
    | true => rw [hp] at h; cases h; exact ⟨[], rfl⟩
    | false =>
      rw [hp] at h
      obtain ⟨P, hP⟩ := upTo_some h
      exact ⟨y :: P, by rw [hP]; rfl⟩
theorem find_congr {p q : List Nat → Bool} : ∀ {T : List (List Nat)}, (∀ x ∈ T, p x = q x) → T.find? p = T.find? q
  | [], _ => rfl
  | y :: T, h => by
    rw [List.find?_cons, List.find?_cons, h y (by simp), find_congr (fun x hx => h x (by simp [hx]))]
structure LeaveEnd (o : Option (List Nat)) (w : World) (e : Ending) (w' : World) : Prop where
  low : Below w.heap.size w w'
  none_ : o = none → e = .returned (.tuple #[.slice none 0 0, .bool false])
  some_ : ∀ x, o = some x → ∃ ao cap, e = .returned (.tuple #[.slice ao x.length cap, .bool true]) ∧ isIs w' w'.heap.size ao cap (natI x) ∧ ∀ k, (Value.slice ao x.length cap).ownBlock = some k → w.heap.size ≤ k
theorem setSame {w : World} {b : Nat} {v : Value} {t : TypeId} (h : isSb w b v t) (k : Nat) : (w.setCell ⟨b, 0, none⟩ v).heap[k]? = w.heap[k]? := by
  by_cases hk : k = b
  · subst hk; exact (h.put v).trans h.symm
  · exact Below.heap_setCell _ _ _ _ (by simp only; omega)
theorem entCl2 : ∀ args (u : World), (callFunc 38 args).run Try.prog u = .ok (.enter 38 args) u := enters_of Try.func38 (by kernel_rfl) rfl

set_option maxHeartbeats 4000000 in
set_option maxRecDepth 100000 in
theorem leave_any (d : ByteArray) (n q N : Nat) (wo : Option Addr) (wc : Nat) (w : World) (hd6 : d.size ≤ 6) (hdig : d.data.toList.all digB = true) (hn : n ≤ 400) (hnN : n ≤ N) (hN : N ≤ 401) (hW : isIs w w.heap.size wo wc (natI (grL (digs d) N))) :
    Calls Try.prog 33 #[.string d, .int .i64 (n : Int), .int .i64 (q : Int), .slice wo N wc] w fun e w' => LeaveEnd (leaveO (digs d) n q) w e w' := by
  obtain ⟨W, hWW⟩ : ∃ W, W = grL (digs d) N := ⟨_, rfl⟩
  have hWl : W.length = N := by rw [hWW]; exact grL_len _ _
  have hD6 : (digs d).length ≤ 6 := by rw [digs_len]; exact hd6
  have hWv : ∀ i : Nat, W[i]! < 4096 := fun i => by
    by_cases hik : i < N
    · rw [hWW, grL_at _ hik]; exact gr_lt hD6 (by omega)
    · rw [getElem!_neg W i (by omega)]; show 0 < 4096; omega
  obtain ⟨T, hT⟩ : ∃ T, T = tks (digs d) n := ⟨_, rfl⟩
  obtain ⟨o, ho⟩ : ∃ o, o = leaveO (digs d) n q := ⟨_, rfl⟩
  have hfd : T.find? (fun x => decide (xorL W x = q)) = o := by
    rw [ho]; unfold leaveO; rw [← hT]
    refine find_congr fun x hx => ?_
    rw [hWW]
    have : xorL (grL (digs d) N) x = grs (digs d) x := xorL_grL x 0 (fun y hy => by rw [hT] at hx; have := ((tks_lt hx).1 y hy).2; omega)
    rw [this]
  rw [← ho]
  rw [← hWW] at hW
  have hmf : ∀ (fn : Fn) (first cap : Array Value) (u : World), (Instr.makeFunc fn first cap).run Try.prog u = .ok (.func fn first cap) u := fun _ _ _ _ => rfl
  obtain ⟨w1, hw1⟩ : ∃ w1, w1 = w.alloc (.cells #[.int .i64 (q : Int)] 3 (0, 0)) := ⟨_, rfl⟩
  obtain ⟨w2, hw2⟩ : ∃ w2, w2 = w1.alloc (.cells #[.slice wo N wc] 48 (0, 0)) := ⟨_, rfl⟩
  obtain ⟨w3, hw3⟩ : ∃ w3, w3 = w2.alloc (.cells #[.slice none 0 0] 22 (0, 0)) := ⟨_, rfl⟩
  obtain ⟨w0, hw0⟩ : ∃ w0, w0 = w3.alloc (.cells #[.bool false] 4 (0, 0)) := ⟨_, rfl⟩
  have s1 : w1.heap.size = w.heap.size + 1 := by rw [hw1]; simp
  have s2 : w2.heap.size = w.heap.size + 1 + 1 := by rw [hw2]; simp [s1]
  have s3 : w3.heap.size = w.heap.size + 1 + 1 + 1 := by rw [hw3]; simp [s2]
  have s0 : w0.heap.size = w.heap.size + 1 + 1 + 1 + 1 := by rw [hw0]; simp [s3]
  have b1 : Below w.heap.size w w1 := by rw [hw1]; exact (Below.refl _ _).alloc (Nat.le_refl _) _
  have b2 : Below w1.heap.size w1 w2 := by rw [hw2]; exact (Below.refl _ _).alloc (Nat.le_refl _) _
  have b3 : Below w2.heap.size w2 w3 := by rw [hw3]; exact (Below.refl _ _).alloc (Nat.le_refl _) _
  have b0 : Below w3.heap.size w3 w0 := by rw [hw0]; exact (Below.refl _ _).alloc (Nat.le_refl _) _
  have bb : Below w.heap.size w w0 := ((b1.trans (b2.mono (by omega))).trans (b3.mono (by omega))).trans (b0.mono (by omega))
  have x6 : isSb w0 w.heap.size (.int .i64 (q : Int)) 3 := (b0.block _ (by omega)).trans ((b3.block _ (by omega)).trans ((b2.block _ (by omega)).trans (by rw [hw1]; exact heap_alloc_new w _)))
  have x7 : isSb w0 (w.heap.size + 1) (.slice wo N wc) 48 := (b0.block _ (by omega)).trans ((b3.block _ (by omega)).trans (by rw [hw2, ← s1]; exact heap_alloc_new w1 _))
  have x8 : isSb w0 (w.heap.size + 1 + 1) (.slice none 0 0) 22 := (b0.block _ (by omega)).trans (by rw [hw3, ← s2]; exact heap_alloc_new w2 _)
  have x9 : isSb w0 (w.heap.size + 1 + 1 + 1) (.bool false) 4 := by rw [hw0, ← s3]; exact heap_alloc_new w3 _
  have hW0 := hW.keep (w' := w0) (fun k hk => bb.block k hk) (Nat.le_refl _)
  have hEA := each_any d n 38 #[.pointer (some ⟨w.heap.size + 1, 0, none⟩), .pointer (some ⟨w.heap.size, 0, none⟩), .pointer (some ⟨w.heap.size + 1 + 1 + 1, 0, none⟩), .pointer (some ⟨w.heap.size + 1 + 1, 0, none⟩)] (fun x => decide (xorL W x = q)) (lI (fun x => decide (xorL W x = q)) (w.heap.size + 1 + 1) (w.heap.size + 1 + 1 + 1) w0) w0 hd6 hdig hn entCl2
    (fun P u o h => h.alloc o)
    (fun P x ao cap u hP hst hI hx hno => by
      obtain ⟨R, hP⟩ := hP
      have hxT : x ∈ tks (digs d) n := by rw [hP]; simp
      have hxx := tks_lt hxT
      have hI0 := hI
      obtain ⟨fv, ok, g8, g9, gf, gst⟩ := hI
      refine close2_any W hWv q w.heap.size (w.heap.size + 1) (w.heap.size + 1 + 1) (w.heap.size + 1 + 1 + 1) w.heap.size w0 wo ao wc cap P x u (by omega) (by omega) (by omega) (by rw [hWl]; exact x7.fr gf (by omega) (by omega)) (x6.fr gf (by omega) (by omega)) (hW0.keep (fun k hk => gf.block k (by omega) (by omega) (by omega)) (Nat.le_refl _)) hx hno (fun y hy => by have := (hxx.1 y hy).2; omega) hxx.2 hst hI0)
    ⟨_, _, x8, x9, Fr2.refl _ _ _, .inl ⟨fun y hy => by simp at hy, rfl, rfl⟩⟩
  rw [← hT] at hEA
  have HFIN : Hid (∀ u, lI (fun x => decide (xorL W x = q)) (w.heap.size + 1 + 1) (w.heap.size + 1 + 1 + 1) w0 (upTo (fun x => decide (xorL W x = q)) T) u → ∃ fo fl fc ok, isSb u (w.heap.size + 1 + 1) (.slice fo fl fc) 22 ∧ isSb u (w.heap.size + 1 + 1 + 1) (.bool ok) 4 ∧
      ∀ u', (∀ k, u'.heap[k]? = u.heap[k]?) → u'.os = u.os → u'.tape = u.tape → u'.output = u.output → LeaveEnd o w (.returned (.tuple #[.slice fo fl fc, .bool ok])) u') := hide (fun u hu => by
    obtain ⟨fv, ok, g8, g9, gf, gst⟩ := hu
    have low : ∀ u' : World, (∀ k, u'.heap[k]? = u.heap[k]?) → u'.os = u.os → u'.tape = u.tape → u'.output = u.output → Below w.heap.size w u' ∧ u.heap.size ≤ u'.heap.size := fun u' hh h1 h2 h3 => by
      have hsz : u.heap.size ≤ u'.heap.size := by
        rcases Nat.lt_or_ge u'.heap.size u.heap.size with h | h
        · have := hh u'.heap.size
          rw [Array.getElem?_eq_none (Nat.le_refl _), Array.getElem?_eq_getElem h] at this
          cases this
        · exact h
      refine ⟨⟨h1.trans (gf.os.trans bb.os), h2.trans (gf.tape.trans bb.tape), h3.trans (gf.output.trans bb.output), Nat.le_trans bb.size (Nat.le_trans gf.size hsz), fun k hk => (hh k).trans ((gf.block k (by omega) (by omega) (by omega)).trans (bb.block k hk))⟩, hsz⟩
    cases hoc : o with
    | none =>
      rw [hoc] at hfd
      have hall : ∀ y ∈ T, decide (xorL W y = q) = false := fun y hy => by
        have := List.find?_eq_none.1 hfd y hy
        simpa using this
      rw [upTo_all _ _ hall] at gst
      rcases gst with ⟨-, rfl, rfl⟩ | ⟨P', y, _, _, e, hp, -⟩
      · exact ⟨_, _, _, _, g8, g9, fun u' hh h1 h2 h3 => ⟨(low u' hh h1 h2 h3).1, fun _ => rfl, fun x hx => by cases hx⟩⟩
      · have := hall y (by rw [e]; simp)
        simp only at hp
        rw [this] at hp; cases hp
    | some x =>
      rw [hoc] at hfd
      obtain ⟨P, hP⟩ := upTo_some hfd
      have hpx : decide (xorL W x = q) = true := List.find?_some (p := fun x => decide (xorL W x = q)) hfd
      rcases gst with ⟨hall, -, -⟩ | ⟨P', y, fo, fc, e, hp, rfl, rfl, hi, hw⟩
      · have := hall x (by rw [hP]; simp)
        simp only at this
        rw [this] at hpx; cases hpx
      · rw [hP] at e
        have hxy : x = y := by
          have h1 := congrArg List.getLast? e
          simpa using h1
        subst hxy
        exact ⟨_, _, _, _, g8, g9, fun u' hh h1 h2 h3 => ⟨(low u' hh h1 h2 h3).1, (fun h => by cases h), fun z hz => by
          cases hz
          exact ⟨fo, fc, rfl, hi.keep (fun k _ => hh k) (low u' hh h1 h2 h3).2, fun k hk => Nat.le_trans bb.size (hw k hk)⟩⟩⟩)
  have HEA := hide hEA
  have H1 := hide hw1
  have H2 := hide hw2
  have H3 := hide hw3
  have H0 := hide hw0
  clear hEA hw1 hw2 hw3 hw0 s1 s2 s3 s0 b1 b2 b3 b0 bb x6 x7 x8 x9 hW0 hfd ho hT hWv hWl hWW hW hdig
  go_enter Try.func33, Try.ntmps33
  go_wp2_with fail
  rw [← unhide H1, ← unhide H2, ← unhide H3, ← unhide H0]
  refine (unhide HEA).mono ?_
  rintro e w5 ⟨rfl, hI⟩
  obtain ⟨fo, fl, fc, ok, g8, g9, hend⟩ := unhide HFIN w5 hI
  have c8 : w5.drew.cell? ⟨w.heap.size + 1 + 1, 0, none⟩ = some (.slice fo fl fc) := g8.cell.1
  have c9 : w5.drew.cell? ⟨w.heap.size + 1 + 1 + 1, 0, none⟩ = some (.bool ok) := g9.cell.1
  have f8 : w5.drew.frozen? ⟨w.heap.size + 1 + 1, 0, none⟩ = false := g8.cell.2
  have f9 : w5.drew.frozen? ⟨w.heap.size + 1 + 1 + 1, 0, none⟩ = false := g9.cell.2
  have c9' : w5.cell? ⟨w.heap.size + 1 + 1 + 1, 0, none⟩ = some (.bool ok) := g9.cell.1
  have f9' : w5.frozen? ⟨w.heap.size + 1 + 1 + 1, 0, none⟩ = false := g9.cell.2
  have c8' : w5.cell? ⟨w.heap.size + 1 + 1, 0, none⟩ = some (.slice fo fl fc) := g8.cell.1
  have f8' : w5.frozen? ⟨w.heap.size + 1 + 1, 0, none⟩ = false := g8.cell.2
  have hS : ∀ k, ((w5.setCell ⟨w.heap.size + 1 + 1, 0, none⟩ (.slice fo fl fc)).setCell ⟨w.heap.size + 1 + 1 + 1, 0, none⟩ (.bool ok)).drew.heap[k]? = w5.heap[k]? := fun k => by
    have hg9 : isSb (w5.setCell ⟨w.heap.size + 1 + 1, 0, none⟩ (.slice fo fl fc)) (w.heap.size + 1 + 1 + 1) (.bool ok) 4 := g9.put_other (by omega) 0 _
    exact (setSame hg9 k).trans (setSame g8 k)
  have hr8 : ((w5.setCell ⟨w.heap.size + 1 + 1, 0, none⟩ (.slice fo fl fc)).setCell ⟨w.heap.size + 1 + 1 + 1, 0, none⟩ (.bool ok)).drew.cell? ⟨w.heap.size + 1 + 1, 0, none⟩ = some (.slice fo fl fc) := (World.cell?_of_block (hS _)).trans c8'
  have hr9 : ((w5.setCell ⟨w.heap.size + 1 + 1, 0, none⟩ (.slice fo fl fc)).setCell ⟨w.heap.size + 1 + 1 + 1, 0, none⟩ (.bool ok)).drew.cell? ⟨w.heap.size + 1 + 1 + 1, 0, none⟩ = some (.bool ok) := (World.cell?_of_block (hS _)).trans c9'
  have HS := hide hS
  clear hS
  have HG8 := hide g8
  have HG9 := hide g9
  have HEND := hide hend
  clear g8 g9 hend hI
  go_upto_region 2 with fail
  go_region
  all_goals go_wp2
  all_goals
    refine bodyPost_ret (v := .tuple #[.slice fo fl fc, .bool ok]) (by simp [results, Try.results33, go_sem, c8', c9']) rfl ?_
    exact unhide HEND _ (unhide HS) rfl rfl rfl
end Go.Proofs.Ytphnjedoghopcaa
