/-
  package rules, walked: texts of ways.
-/
import Derived.Test.YtfhmpgjemobjhaaGreatDoorR6
import Derived.Test.YtfhmpgjemobjhaaGreatDoorShelf
import Derived.BigQuiet
import Derived.IntWalk
namespace Go.Proofs.YtfhmpgjemobjhaaGreatDoor
open Go.RowKit
attribute [local go_sem ↓] Go.wp_at_zero Go.wp_at_succ

theorem grow_below (w : World) (k : Nat) (os : Array Obj) : Below w.heap.size w (Go.Sort.grow (w.drewN k) os) := by
  refine ⟨rfl, rfl, rfl, ?_, ?_⟩
  · simp [Go.Sort.grow, World.drewN]
  · intro i hi
    simp only [Go.Sort.grow, World.drewN]
    rw [Array.getElem?_append_left hi]
/-- Go's table of the powers of ten lies as the program lays it. -/
def isTab (w : World) : Prop := Lib.TabIs Tryz.prog w "internal/strconv.uint64pow10" .u64 Lib.pow10Tab
theorem isTab.below {w w' : World} (h : isTab w) (hb : Below w.heap.size w w') : isTab w' := by
  unfold isTab Lib.TabIs World.var? at *
  cases hg : Tryz.prog.globalNamed "internal/strconv.uint64pow10" with
  | none => simp [hg] at h
  | some g =>
    simp only [hg, Option.bind_some] at h ⊢
    have hlt : g < w.heap.size := by
      rcases Nat.lt_or_ge g w.heap.size with h' | h'
      · exact h'
      · rw [Array.getElem?_eq_none h'] at h; simp at h
    rw [hb.block g hlt]
    exact h
theorem itoaN_any (n : Nat) (w : World) (hn : n < 9223372036854775808) (ht : isTab w) :
    Calls Tryz.prog 15 #[.int .i64 (n : Int)] w fun e w' => e = .returned (.string ⟨(Lib.decDigits n).toArray⟩) ∧ Below w.heap.size w w' := by
  refine (Tryz.strconv_Itoa (n : Int) (by omega) (by omega) w ht).mono ?_
  rintro e w' ⟨rfl, k, os, rfl⟩
  have e1 : Lib.itoa (n : Int) = Lib.decDigits n := by unfold Lib.itoa; rw [if_neg (by omega)]; simp
  rw [e1]
  exact ⟨rfl, grow_below w k os⟩

def kindL (k : Int) : List UInt8 := if k = 1 then [108, 101, 97, 112] else if k = 2 then [115, 108, 105, 100, 101] else [115, 116, 101, 112]
def takeL (t : Int) : List UInt8 := if t = 1 then [32, 116, 97, 107, 101] else if t = 2 then [32, 113, 117, 105, 101, 116] else []
/-- A way's text. -/
def wayL (z : Wy) : List UInt8 := kindL z.k ++ 32 :: (Lib.decDigits z.x.toNat ++ 32 :: (Lib.decDigits z.y.toNat ++ takeL z.t))

set_option maxHeartbeats 400000 in
theorem kindText_any (k : Int) (w : World) :
    Calls Tryz.prog 64 #[.int .i64 k] w fun e w' => e = .returned (.string ⟨(kindL k).toArray⟩) ∧ w' = w := by
  by_cases h1 : k = 1
  · subst h1
    go_enter Tryz.func64, Tryz.ntmps64
    go_wp2
    go_ret
    exact ⟨rfl, rfl⟩
  · by_cases h2 : k = 2
    · subst h2
      go_enter Tryz.func64, Tryz.ntmps64
      go_wp2
      go_ret
      exact ⟨rfl, rfl⟩
    · have hk : kindL k = [115, 116, 101, 112] := by simp [kindL, h1, h2]
      rw [hk]
      have b1 : (k == 1) = false := by simp [h1]
      have b2 : (k == 2) = false := by simp [h2]
      clear hk
      go_enter Tryz.func64, Tryz.ntmps64
      go_wp2
      go_ret
      exact ⟨rfl, rfl⟩

theorem ba_eq {a : ByteArray} {l : List UInt8} (h : a.data.toList = l) : a = ⟨l.toArray⟩ := by
  apply ByteArray.ext
  apply Array.toList_inj.1
  rw [h]
theorem ba_app (a b : ByteArray) : (a ++ b).data.toList = a.data.toList ++ b.data.toList := by simp [ByteArray.data_append]
theorem dec_size (n : Nat) (h : n < 10) : (⟨(Lib.decDigits n).toArray⟩ : ByteArray).size = 1 := by
  rw [← len_data]
  show (Lib.decDigits n).length = 1
  rw [Lib.decDigits_one h]; rfl
theorem kind_size (k : Int) : (⟨(kindL k).toArray⟩ : ByteArray).size ≤ 5 := by
  rw [← len_data]
  show (kindL k).length ≤ 5
  unfold kindL
  split
  · decide
  · split <;> decide

theorem ret_str {a b : ByteArray} (h : a.data.toList = b.data.toList) : Ending.returned (.string a) = .returned (.string b) := by
  have : a = b := by
    apply ByteArray.ext
    exact Array.toList_inj.1 h
  rw [this]

set_option maxHeartbeats 1000000 in
set_option maxRecDepth 100000 in
theorem wayText_any (z : Wy) (w : World) (hz : z.ok = true) :
    Calls Tryz.prog 36 #[z.v] w fun e w' => e = .returned (.string ⟨(wayL z).toArray⟩) ∧ Below w.heap.size w w' := by
  obtain ⟨k, x, y, t⟩ := z
  simp only [Wy.ok, inB, Bool.and_eq_true, Bool.or_eq_true, decide_eq_true_eq] at hz
  obtain ⟨⟨⟨⟨⟨hx0, hx1⟩, hy0, hy1⟩, _⟩, ht⟩, _⟩ := hz
  obtain ⟨x, rfl⟩ := Int.eq_ofNat_of_zero_le hx0
  obtain ⟨y, rfl⟩ := Int.eq_ofNat_of_zero_le hy0
  have hx : x < 10 := by omega
  have hy : y < 10 := by omega
  unfold Wy.v
  dsimp only
  obtain ⟨wa, hwa⟩ : ∃ wa, wa = w.alloc (.cells #[.int .i64 k, .int .i64 (x : Int), .int .i64 (y : Int), .int .i64 t] 62 (0, 0)) := ⟨_, rfl⟩
  have hba : Below w.heap.size w wa := by rw [hwa]; exact (Below.refl _ w).alloc (Nat.le_refl _) _
  have hbox : wa.heap[w.heap.size]? = some (.cells #[.int .i64 k, .int .i64 (x : Int), .int .i64 (y : Int), .int .i64 t] 62 (0, 0)) := by rw [hwa]; exact heap_alloc_new w _
  have c0 : wa.cell? ⟨w.heap.size, 0, none⟩ = some (.int .i64 k) := cell_of_row _ _ _ _ _ _ hbox
  have c1 : wa.cell? ⟨w.heap.size, 1, none⟩ = some (.int .i64 (x : Int)) := cell_of_row _ _ _ _ _ _ hbox
  have c2 : wa.cell? ⟨w.heap.size, 2, none⟩ = some (.int .i64 (y : Int)) := cell_of_row _ _ _ _ _ _ hbox
  have c3 : wa.cell? ⟨w.heap.size, 3, none⟩ = some (.int .i64 t) := cell_of_row _ _ _ _ _ _ hbox
  obtain ⟨K, hK⟩ : ∃ K : ByteArray, K = ⟨(kindL k).toArray⟩ := ⟨_, rfl⟩
  obtain ⟨X, hX⟩ : ∃ X : ByteArray, X = ⟨(Lib.decDigits x).toArray⟩ := ⟨_, rfl⟩
  obtain ⟨Y, hY⟩ : ∃ Y : ByteArray, Y = ⟨(Lib.decDigits y).toArray⟩ := ⟨_, rfl⟩
  have HKT : Hid (∀ n, Calls Tryz.prog 64 #[.int .i64 k] (wa.drewN n) fun e w'' => e = .returned (.string K) ∧ ∃ m, w'' = wa.drewN m) := by
    intro n
    refine (kindText_any k _).mono ?_
    rintro e w'' ⟨rfl, rfl⟩
    exact ⟨by rw [hK], n, rfl⟩
  have HXT : Hid (∀ n, Calls Tryz.prog 15 #[.int .i64 (x : Int)] (wa.drewN n) fun e w'' => e = .returned (.string X) ∧ ∃ m, w'' = wa.drewN m) := by
    intro n
    refine (Tryz.strconv_Itoa_small x (by omega) _).mono ?_
    rintro e w'' ⟨rfl, rfl⟩
    exact ⟨by rw [hX], n, rfl⟩
  have HYT : Hid (∀ n, Calls Tryz.prog 15 #[.int .i64 (y : Int)] (wa.drewN n) fun e w'' => e = .returned (.string Y) ∧ ∃ m, w'' = wa.drewN m) := by
    intro n
    refine (Tryz.strconv_Itoa_small y (by omega) _).mono ?_
    rintro e w'' ⟨rfl, rfl⟩
    exact ⟨by rw [hY], n, rfl⟩
  have zK : K.size ≤ 5 := by rw [hK]; exact kind_size k
  have zX : X.size = 1 := by rw [hX]; exact dec_size x hx
  have zY : Y.size = 1 := by rw [hY]; exact dec_size y hy
  obtain ⟨B, hB⟩ : ∃ B : ByteArray, B = ⟨#[32]⟩ := ⟨_, rfl⟩
  have zB : B.size = 1 := by rw [hB]; rfl
  obtain ⟨S1, h1⟩ : ∃ S1, K ++ B = S1 := ⟨_, rfl⟩
  obtain ⟨S2, h2⟩ : ∃ S2, S1 ++ X = S2 := ⟨_, rfl⟩
  obtain ⟨S3, h3⟩ : ∃ S3, S2 ++ B = S3 := ⟨_, rfl⟩
  obtain ⟨S4, h4⟩ : ∃ S4, S3 ++ Y = S4 := ⟨_, rfl⟩
  have z1 : S1.size ≤ 6 := by rw [← h1, ByteArray.size_append]; omega
  have z2 : S2.size ≤ 7 := by rw [← h2, ByteArray.size_append]; omega
  have z3 : S3.size ≤ 8 := by rw [← h3, ByteArray.size_append]; omega
  have z4 : S4.size ≤ 9 := by rw [← h4, ByteArray.size_append]; omega
  have q1 : K.size + B.size ≤ 9223372036854775807 := by omega
  have q2 : S1.size + X.size ≤ 9223372036854775807 := by omega
  have q3 : S2.size + B.size ≤ 9223372036854775807 := by omega
  have q4 : S3.size + Y.size ≤ 9223372036854775807 := by omega
  have hd : S4.data.toList = kindL k ++ 32 :: (Lib.decDigits x ++ 32 :: Lib.decDigits y) := by
    rw [← h4, ← h3, ← h2, ← h1, ba_app, ba_app, ba_app, ba_app, hK, hX, hY, hB]
    simp
  have HD := hide hd
  have HWA := hide hwa
  have HBA := hide hba
  subst hB
  clear hd hwa hba hbox hK hX hY hx hy hx0 hx1 hy0 hy1 zK zX zY z1 z2 z3
  go_enter Tryz.func36, Tryz.ntmps36
  go_wp2
  rw [← unhide HWA]
  go_quiet (first
    | (go_at_call 64; exact unhide HKT _)
    | (go_at_call 15; with_reducible exact unhide HXT _)
    | (go_at_call 15; with_reducible exact unhide HYT _))
  rcases ht with (rfl | rfl) | rfl
  · go_wp2
    go_ret
    refine ⟨?_, below_drewN (unhide HBA) _⟩
    rw [ba_eq (unhide HD)]
    simp [wayL, takeL]
  · go_wp2
    go_ret
    refine ⟨(ret_str ?_ : Ending.returned (.string (S4 ++ ⟨#[32]⟩ ++ ⟨#[116, 97, 107, 101]⟩)) = _), below_drewN (unhide HBA) _⟩
    rw [ba_app, ba_app, unhide HD]
    simp [wayL, takeL]
  · go_wp2
    go_ret
    refine ⟨(ret_str ?_ : Ending.returned (.string (S4 ++ ⟨#[32]⟩ ++ ⟨#[113, 117, 105, 101, 116]⟩)) = _), below_drewN (unhide HBA) _⟩
    rw [ba_app, ba_app, unhide HD]
    simp [wayL, takeL]
end Go.Proofs.YtfhmpgjemobjhaaGreatDoor
