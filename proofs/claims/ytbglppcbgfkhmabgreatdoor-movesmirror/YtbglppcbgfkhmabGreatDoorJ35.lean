/-
  Plain mathematics: the board in a mirror, and turned round for the other player, are such boards.
  Plain mathematics: the position in a mirror, and the one turned round for the other player, are of the rules.
  gamekeep.MovesMirror, walked for whatever comes in.
-/
import Derived.Test.YtbglppcbgfkhmabGreatDoorJ34
import Derived.Test.YtbglppcbgfkhmabGreatDoorV16
import Derived.Test.YtbglppcbgfkhmabGreatDoorD5
namespace Go.Proofs.YtbglppcbgfkhmabGreatDoor

/-- Left and right changed; up and down changed. -/
def flipN (W i : Nat) : Nat := i / W * W + (W - 1 - i % W)
def upsN (W H i : Nat) : Nat := (H - 1 - i / W) * W + i % W
theorem place_at {W H x y : Nat} (hx : x < W) (hy : y < H) : y * W + x < W * H ∧ (y * W + x) % W = x ∧ (y * W + x) / W = y := by
  refine ⟨?_, ?_, ?_⟩
  · have : (y + 1) * W ≤ H * W := Nat.mul_le_mul_right _ (by omega)
    rw [Nat.add_mul, Nat.one_mul] at this
    rw [Nat.mul_comm W H]; omega
  · rw [Nat.mul_comm, Nat.mul_add_mod]; exact Nat.mod_eq_of_lt hx
  · rw [Nat.mul_comm, Nat.mul_add_div (by omega), Nat.div_eq_of_lt hx]; rfl
theorem flip_at {W H i : Nat} (hW : 1 ≤ W) (hi : i < W * H) : flipN W i < W * H ∧ flipN W i % W = W - 1 - i % W ∧ flipN W i / W = i / W := by
  have h1 : i % W < W := Nat.mod_lt _ hW
  exact place_at (show W - 1 - i % W < W by omega) (Nat.div_lt_of_lt_mul hi)
theorem ups_at {W H i : Nat} (hW : 1 ≤ W) (hH : 1 ≤ H) (_hi : i < W * H) : upsN W H i < W * H ∧ upsN W H i % W = i % W ∧ upsN W H i / W = H - 1 - i / W :=
  place_at (Nat.mod_lt _ hW) (Nat.lt_of_le_of_lt (Nat.sub_le _ _) (Nat.sub_lt hH Nat.one_pos))
theorem of_place (W i : Nat) : i / W * W + i % W = i := by
  have := Nat.div_add_mod i W
  rw [Nat.mul_comm] at this; exact this
theorem flip_inv {W H i : Nat} (hW : 1 ≤ W) (hi : i < W * H) : flipN W (flipN W i) = i := by
  obtain ⟨-, h2, h3⟩ := flip_at hW hi
  have h1 : i % W < W := Nat.mod_lt _ hW
  show flipN W i / W * W + (W - 1 - flipN W i % W) = i
  rw [h2, h3, show W - 1 - (W - 1 - i % W) = i % W by omega]
  exact of_place W i
theorem ups_inv {W H i : Nat} (hW : 1 ≤ W) (hH : 1 ≤ H) (hi : i < W * H) : upsN W H (upsN W H i) = i := by
  obtain ⟨-, h2, h3⟩ := ups_at hW hH hi
  have h1 : i / W < H := Nat.div_lt_of_lt_mul hi
  show (H - 1 - upsN W H i / W) * W + upsN W H i % W = i
  rw [h2, h3, show H - 1 - (H - 1 - i / W) = i / W by generalize i / W = q at h1 ⊢; omega]
  exact of_place W i
theorem tstr_cell (C : ByteArray) (W H k : Nat) {i : Nat} (hi : i < W * H) : cellN (tstr C W H k) i = (tcell C.data.toList W H k (twd W H k) i).toNat := by
  have hl : i < (tstr C W H k).size := by
    show i < (tcells C.data.toList W H k (twd W H k) (W * H)).toArray.size
    simp [tcells]; exact hi
  obtain ⟨q1, q2⟩ := cellN_list (tstr C W H k) i hl
  rw [q2]
  congr 1
  have : (tstr C W H k).data.toList[i]? = some (tcell C.data.toList W H k (twd W H k) i) := by
    unfold tstr tcells
    simp [hi]
  rw [this] at q1
  exact (Option.some.inj q1).symm
theorem getD_cell (C : ByteArray) (i : Nat) (hi : i < C.size) : (C.data.toList.getD i 0).toNat = cellN C i := by
  obtain ⟨q1, q2⟩ := cellN_list C i hi
  rw [List.getD_eq_getElem?_getD, q1, q2]; rfl
theorem mirror_cell {C : ByteArray} {W H : Nat} (hW : 1 ≤ W) (hC : C.size = W * H) {i : Nat} (hi : i < W * H) : cellN (tstr C W H 1) (flipN W i) = cellN C i := by
  obtain ⟨h1, h2, h3⟩ := flip_at hW hi
  rw [tstr_cell C W H 1 h1]
  have hlt : i % W < W := Nat.mod_lt _ hW
  unfold tcell
  have e : (srcY (H : Int) 1 ((flipN W i % twd W H 1 : Nat) : Int) ((flipN W i / twd W H 1 : Nat) : Int) * (W : Int) + srcX (W : Int) 1 ((flipN W i % twd W H 1 : Nat) : Int) ((flipN W i / twd W H 1 : Nat) : Int)).toNat = i := by
    have ht : twd W H 1 = W := rfl
    rw [ht, h2, h3]
    have a1 : srcY (H : Int) 1 ((W - 1 - i % W : Nat) : Int) ((i / W : Nat) : Int) = ((i / W : Nat) : Int) := rfl
    have a2 : srcX (W : Int) 1 ((W - 1 - i % W : Nat) : Int) ((i / W : Nat) : Int) = (W : Int) - 1 - ((W - 1 - i % W : Nat) : Int) := rfl
    rw [a1, a2, show (W : Int) - 1 - ((W - 1 - i % W : Nat) : Int) = ((i % W : Nat) : Int) by omega, ← Int.natCast_mul, ← Int.natCast_add, of_place]
    rfl
  rw [e]
  exact getD_cell C i (by rw [hC]; exact hi)
theorem ups_cell {C : ByteArray} {W H : Nat} (hW : 1 ≤ W) (hH : 1 ≤ H) (hC : C.size = W * H) {i : Nat} (hi : i < W * H) : cellN (tstr C W H 2) (upsN W H i) = cellN C i := by
  obtain ⟨h1, h2, h3⟩ := ups_at hW hH hi
  rw [tstr_cell C W H 2 h1]
  have hlt : i / W < H := Nat.div_lt_of_lt_mul hi
  unfold tcell
  have e : (srcY (H : Int) 2 ((upsN W H i % twd W H 2 : Nat) : Int) ((upsN W H i / twd W H 2 : Nat) : Int) * (W : Int) + srcX (W : Int) 2 ((upsN W H i % twd W H 2 : Nat) : Int) ((upsN W H i / twd W H 2 : Nat) : Int)).toNat = i := by
    have ht : twd W H 2 = W := rfl
    rw [ht, h2, h3]
    have a1 : srcY (H : Int) 2 ((i % W : Nat) : Int) ((H - 1 - i / W : Nat) : Int) = (H : Int) - 1 - ((H - 1 - i / W : Nat) : Int) := rfl
    have a2 : srcX (W : Int) 2 ((i % W : Nat) : Int) ((H - 1 - i / W : Nat) : Int) = ((i % W : Nat) : Int) := rfl
    rw [a1, a2, show (H : Int) - 1 - ((H - 1 - i / W : Nat) : Int) = ((i / W : Nat) : Int) by omega, ← Int.natCast_mul, ← Int.natCast_add, of_place]
    rfl
  rw [e]
  exact getD_cell C i (by rw [hC]; exact hi)
theorem tstr_sz (C : ByteArray) (W H k : Nat) : (tstr C W H k).size = W * H := by
  show (tcells C.data.toList W H k (twd W H k) (W * H)).toArray.size = W * H
  simp [tcells]
/-- The other case of a cell. -/
def flN (c : Nat) : Nat := (flipB c.toUInt8).toNat
theorem sstr_cell {C : ByteArray} {W H : Nat} (hW : 1 ≤ W) (hH : 1 ≤ H) (hC : C.size = W * H) {i : Nat} (hi : i < W * H) : cellN (sstr C W H) (upsN W H i) = flN (cellN C i) := by
  obtain ⟨h1, -, -⟩ := ups_at hW hH hi
  have hl : upsN W H i < (sstr C W H).size := by
    show _ < ((tstr C W H 2).data.toList.map flipB).toArray.size
    have hz : (tstr C W H 2).data.toList.length = W * H := by unfold tstr tcells; simp
    rw [List.size_toArray, List.length_map, hz]; exact h1
  obtain ⟨q1, q2⟩ := cellN_list (sstr C W H) _ hl
  obtain ⟨r1, r2⟩ := cellN_list (tstr C W H 2) (upsN W H i) (by rw [tstr_sz]; exact h1)
  have : (sstr C W H).data.toList[upsN W H i]? = some (flipB ((tstr C W H 2).get! (upsN W H i))) := by
    unfold sstr
    simp only [List.getElem?_map, r1, Option.map_some]
  rw [this] at q1
  rw [q2, ← Option.some.inj q1]
  have h3 := ups_cell hW hH hC hi
  rw [r2] at h3
  unfold flN
  rw [← h3]
  congr 2
  exact UInt8.toNat_inj.1 (by show _ = _ % 256; have := UInt8.toNat_lt ((tstr C W H 2).get! (upsN W H i)); omega)
theorem fl_facts : ∀ c : Nat, c < 256 → cellB (c : Int) = true → (flN c = 46 ↔ c = 46) ∧ upN (flN c) = upN c ∧ ownB 0 (flN c) = ownB 1 c ∧ ownB 1 (flN c) = ownB 0 c ∧ cellB (flN c : Nat) = true := by decide +kernel
theorem mirror_steps (T : Nat) (k x y : Int) (d : Int × Int) (_hx : 0 ≤ x) (_hy : 0 ≤ y) (hd : d ∈ stepsL k x y T) : (-1 * d.1, 1 * d.2) ∈ stepsL k x y T := by
  unfold stepsL at hd ⊢
  split at hd
  · rename_i h
    rw [if_pos h]
    simp only [List.mem_cons, List.not_mem_nil, or_false] at hd ⊢
    rcases hd with rfl | rfl <;> simp
  · rename_i h
    rw [if_neg h]
    rw [mem8 _hx _hy] at hd ⊢
    simp only at hd ⊢
    omega
theorem ups_steps {T T' : Nat} (hT : T ≤ 1) (hT' : T' = 1 - T) (k x y : Int) (d : Int × Int) (hx : 0 ≤ x) (hy : 0 ≤ y) (hd : d ∈ stepsL k x y T) : (1 * d.1, -1 * d.2) ∈ stepsL k x y T' := by
  unfold stepsL at hd ⊢
  split at hd
  · rename_i h
    rw [if_pos h]
    have hf : fwdI T' = - fwdI T := by unfold fwdI; omega
    rw [hf]
    simp only [List.mem_cons, List.not_mem_nil, or_false] at hd ⊢
    rcases hd with rfl | rfl <;> simp [Int.mul_neg]
  · rename_i h
    rw [if_neg h]
    rw [mem8 hx hy] at hd ⊢
    simp only at hd ⊢
    omega
theorem mirror_dx {W H a b : Nat} (hW : 1 ≤ W) (ha : a < W * H) (hb : b < W * H) : dxI W (flipN W a) (flipN W b) = -1 * dxI W a b ∧ dyI W (flipN W a) (flipN W b) = 1 * dyI W a b := by
  obtain ⟨-, a2, a3⟩ := flip_at hW ha
  obtain ⟨-, b2, b3⟩ := flip_at hW hb
  have h1 : a % W < W := Nat.mod_lt _ hW
  have h2 : b % W < W := Nat.mod_lt _ hW
  unfold dxI dyI
  rw [a2, a3, b2, b3]
  generalize a % W = p at *
  generalize b % W = q at *
  omega
theorem ups_dx {W H a b : Nat} (hW : 1 ≤ W) (hH : 1 ≤ H) (ha : a < W * H) (hb : b < W * H) : dxI W (upsN W H a) (upsN W H b) = 1 * dxI W a b ∧ dyI W (upsN W H a) (upsN W H b) = -1 * dyI W a b := by
  obtain ⟨-, a2, a3⟩ := ups_at hW hH ha
  obtain ⟨-, b2, b3⟩ := ups_at hW hH hb
  have h1 : a / W < H := Nat.div_lt_of_lt_mul ha
  have h2 : b / W < H := Nat.div_lt_of_lt_mul hb
  unfold dxI dyI
  rw [a2, a3, b2, b3]
  generalize a / W = p at *
  generalize b / W = q at *
  omega
/-- The board in a mirror. -/
theorem sym_mirror {W H T : Nat} {C : ByteArray} (hW : 1 ≤ W) (hC : C.size = W * H) : Sym W H T T C (tstr C W H 1) (flipN W) (-1) 1 := by
  refine ⟨.inr rfl, .inl rfl, fun i hi => (flip_at hW hi).1, fun i hi => flip_inv hW hi, fun a b ha hb => (mirror_dx hW ha hb).1, fun a b ha hb => (mirror_dx hW ha hb).2, fun i hi => ?_, fun i hi => ?_, fun i hi => ?_, fun i hi => ?_, mirror_steps T⟩
  all_goals rw [mirror_cell hW hC hi]
theorem ply_mirror {W H P : Nat} {C : ByteArray} (hP : P ≤ 1) (hW : 1 ≤ W) (hC : C.size = W * H) : Ply W H C (tstr C W H 1) (flipN W) P P :=
  ⟨hP, hP, fun i hi => by rw [mirror_cell hW hC hi], fun i hi => by rw [(flip_at hW hi).2.2]⟩
/-- The board turned round, for the other player. -/
theorem sym_swap {W H T : Nat} {C : ByteArray} (hT : T ≤ 1) (hW : 1 ≤ W) (hH : 1 ≤ H) (hC : C.size = W * H) (hv : ∀ c, c < W * H → cellB (cellN C c : Nat) = true ∧ cellN C c < 256) : Sym W H T (1 - T) C (sstr C W H) (upsN W H) 1 (-1) := by
  have own : ∀ P, P ≤ 1 → ∀ i, i < W * H → ownB (1 - P) (cellN (sstr C W H) (upsN W H i)) = ownB P (cellN C i) := fun P hP i hi => by
    obtain ⟨-, -, f3, f4, -⟩ := fl_facts _ (hv i hi).2 (hv i hi).1
    rw [sstr_cell hW hH hC hi]
    rcases (by omega : P = 0 ∨ P = 1) with rfl | rfl
    · exact f4
    · exact f3
  refine ⟨.inl rfl, .inr rfl, fun i hi => (ups_at hW hH hi).1, fun i hi => ups_inv hW hH hi, fun a b ha hb => (ups_dx hW hH ha hb).1, fun a b ha hb => (ups_dx hW hH ha hb).2, fun i hi => ?_, fun i hi => ?_, fun i hi => own T hT i hi, fun i hi => ?_, ups_steps hT rfl⟩
  · rw [sstr_cell hW hH hC hi]; exact (fl_facts _ (hv i hi).2 (hv i hi).1).1
  · rw [sstr_cell hW hH hC hi]; exact (fl_facts _ (hv i hi).2 (hv i hi).1).2.1
  · exact own (1 - T) (by omega) i hi
theorem ply_swap {W H P : Nat} {C : ByteArray} (hP : P ≤ 1) (hW : 1 ≤ W) (hH : 1 ≤ H) (hC : C.size = W * H) (hv : ∀ c, c < W * H → cellB (cellN C c : Nat) = true ∧ cellN C c < 256) : Ply W H C (sstr C W H) (upsN W H) P (1 - P) := by
  refine ⟨hP, by omega, fun i hi => ?_, fun i hi => ?_⟩
  · obtain ⟨-, -, f3, f4, -⟩ := fl_facts _ (hv i hi).2 (hv i hi).1
    rw [sstr_cell hW hH hC hi]
    rcases (by omega : P = 0 ∨ P = 1) with rfl | rfl
    · exact f4
    · exact f3
  · rw [(ups_at hW hH hi).2.2]
    have h1 : i / W < H := Nat.div_lt_of_lt_mul hi
    unfold lastN
    generalize i / W = q at *
    rcases (by omega : P = 0 ∨ P = 1) with rfl | rfl <;> simp <;> omega
theorem swap_cells {W H : Nat} {C : ByteArray} (hW : 1 ≤ W) (hH : 1 ≤ H) (hC : C.size = W * H) (hv : ∀ c, c < W * H → cellB (cellN C c : Nat) = true ∧ cellN C c < 256) : ∀ c, c < W * H → cellB (cellN (sstr C W H) c : Nat) = true ∧ cellN (sstr C W H) c < 256 := fun c hc => by
  have h1 := (ups_at hW hH hc).1
  have := sstr_cell hW hH hC h1
  rw [ups_inv hW hH hc] at this
  refine ⟨?_, cellN_lt _ _⟩
  rw [this]
  exact (fl_facts _ (hv _ h1).2 (hv _ h1).1).2.2.2.2
theorem mirror_cells {W H : Nat} {C : ByteArray} (hW : 1 ≤ W) (hC : C.size = W * H) (hv : ∀ c, c < W * H → cellB (cellN C c : Nat) = true ∧ cellN C c < 256) : ∀ c, c < W * H → cellB (cellN (tstr C W H 1) c : Nat) = true ∧ cellN (tstr C W H 1) c < 256 := fun c hc => by
  have h1 := (flip_at hW hc).1
  have := mirror_cell hW hC h1
  rw [flip_inv hW hc] at this
  rw [this]
  exact hv _ h1
end Go.Proofs.YtbglppcbgfkhmabGreatDoor

namespace Go.Proofs.YtbglppcbgfkhmabGreatDoor

theorem at_isPos {W0 H0 T0 : Int} {C0 A0 B0 : List UInt8} {ps : List Pc} {lo re : Nat} {li pl W H T : Int} {C A B : ByteArray} (h : atB W0 H0 C0 T0 A0 B0 ps lo li re pl W H C.data.toList T A.data.toList B.data.toList = true) {W' H' T' : Nat} (hf : AtF ps W H T C A B W' H' T') : IsPos W' H' C T' A B := by
  unfold atB posB at h
  simp only [Bool.and_eq_true] at h
  obtain ⟨⟨⟨⟨-, ⟨⟨⟨⟨-, -⟩, -, hcs⟩, -⟩, hA⟩, hB⟩, -⟩, -⟩, -⟩ := h
  exact ⟨hf.w1.1, hf.w1.2, hf.h1.1, hf.h1.2, hf.c, hcs, by have := hf.t1; omega, hA, hB⟩
theorem all_cells {C : ByteArray} {p : UInt8 → Bool} {n : Nat} (hC : C.size = n) : C.data.toList.all p = true ↔ ∀ i, i < n → p (C.get! i) = true := by
  rw [List.all_eq_true]
  constructor
  · intro h i hi
    exact h _ (List.mem_of_getElem? (cellN_list C i (by omega)).1)
  · intro h x hx
    obtain ⟨i, hi⟩ := List.getElem?_of_mem hx
    have hl : i < C.size := by
      have := (List.getElem?_eq_some_iff.1 hi).1
      simpa using this
    rw [(cellN_list C i hl).1] at hi
    rw [← Option.some.inj hi]
    exact h i (by omega)
theorem cellL_up {S : Nat} {a b : UInt8} (h46 : a.toNat = 46 ↔ b.toNat = 46) (hup : upN a.toNat = upN b.toNat) : cellL S a = cellL S b := by
  unfold cellL
  rw [hup]
  congr 1
  rw [Bool.eq_iff_iff, decide_eq_true_eq, decide_eq_true_eq]
  exact h46
/-- A board the other way is of the rules if the board is. -/
theorem at_sym {W0 H0 T0 : Int} {C0 A0 B0 : List UInt8} {ps : List Pc} {lo re : Nat} {li pl W H T : Int} {C A B : ByteArray} (h : atB W0 H0 C0 T0 A0 B0 ps lo li re pl W H C.data.toList T A.data.toList B.data.toList = true) {W' H' T' : Nat} (hf : AtF ps W H T C A B W' H' T')
    {T2 : Nat} {C' A' B' : ByteArray} {s : Nat → Nat} {ex ey : Int} (hs : Sym W' H' T' T2 C C' s ex ey) (hC' : C'.size = W' * H') (hv' : ∀ c, c < W' * H' → cellB (cellN C' c : Nat) = true ∧ cellN C' c < 256) (hT2 : T2 ≤ 1) (hAB : (A' = A ∧ B' = B) ∨ (A' = B ∧ B' = A)) :
    atB W0 H0 C0 T0 A0 B0 ps lo li re pl W H C'.data.toList T2 A'.data.toList B'.data.toList = true := by
  unfold atB posB allL at h ⊢
  simp only [Bool.and_eq_true, decide_eq_true_eq] at h ⊢
  obtain ⟨⟨⟨⟨h1, ⟨⟨⟨⟨hw, hh⟩, -, hcs⟩, -⟩, hA⟩, hB⟩, h2⟩, h3⟩, ⟨hl1, hl2⟩, hl3⟩ := h
  have hlen : ((C'.data.toList.length : Nat) : Int) = W * H := by
    rw [len_data, hC', hf.w, hf.h]; simp
  have hcs' : cellsB C'.data.toList = true := by
    unfold cellsB
    rw [all_cells hC']
    intro i hi
    exact (hv' i hi).1
  have hl1' : C'.data.toList.all (cellL (lettersS ps)) = true := by
    rw [all_cells hC']
    rw [all_cells hf.c] at hl1
    intro i hi
    have hsi := hs.lt i hi
    have e46 := hs.e46 (s i) hsi
    have eup := hs.up (s i) hsi
    rw [hs.inv i hi] at e46 eup
    rw [cellL_up (a := C'.get! i) (b := C.get! (s i)) e46 eup]
    exact hl1 (s i) hsi
  have ht : ((decide ((T2 : Int) = 0) || decide ((T2 : Int) = 1)) = true) := by
    simp only [Bool.or_eq_true, decide_eq_true_eq]; omega
  rcases hAB with ⟨rfl, rfl⟩ | ⟨rfl, rfl⟩
  · exact ⟨⟨⟨⟨h1, ⟨⟨⟨⟨hw, hh⟩, hlen, hcs'⟩, ht⟩, hA⟩, hB⟩, h2⟩, h3⟩, ⟨hl1', hl2⟩, hl3⟩
  · exact ⟨⟨⟨⟨h1, ⟨⟨⟨⟨hw, hh⟩, hlen, hcs'⟩, ht⟩, hB⟩, hA⟩, h2⟩, h3⟩, ⟨hl1', hl3⟩, hl2⟩
end Go.Proofs.YtbglppcbgfkhmabGreatDoor

namespace Go.Proofs.YtbglppcbgfkhmabGreatDoor
open Go.RowKit

theorem hasZ_capM {S lo : Nat} (h : hasZ S lo = true) (h0 : lo ≠ 0) : capB (lo : Int) = true := by
  unfold hasZ hasL at h
  simp only [Bool.or_eq_true, Bool.and_eq_true, decide_eq_true_eq] at h
  rcases h with h | h
  · omega
  · exact h.1
theorem at_caps {W0 H0 T0 : Int} {C0 A0 B0 : List UInt8} {ps : List Pc} {lo re : Nat} {li pl W H T : Int} {C A B : ByteArray} (h : atB W0 H0 C0 T0 A0 B0 ps lo li re pl W H C.data.toList T A.data.toList B.data.toList = true) {W' H' T' : Nat} (hf : AtF ps W H T C A B W' H' T') :
    (∀ c, c < W' * H' → cellB (cellN C c : Nat) = true ∧ cellN C c < 256) ∧ (lo ≠ 0 → capB (lo : Int) = true) ∧ (re ≠ 0 → capB (re : Int) = true) ∧ (li = 0 ∨ (2 ≤ li ∧ li ≤ 8)) := by
  unfold atB posB at h
  simp only [Bool.and_eq_true, decide_eq_true_eq] at h
  obtain ⟨⟨⟨⟨hr, ⟨⟨⟨⟨-, -⟩, -, hcs⟩, -⟩, -⟩, -⟩, -⟩, -⟩, -⟩ := h
  refine ⟨fun c hc => ⟨?_, UInt8.toNat_lt _⟩, ?_, ?_, ?_⟩
  · unfold cellsB at hcs
    exact (all_cells hf.c).1 hcs c hc
  · unfold rulesB at hr
    simp only [Bool.and_eq_true] at hr
    exact hasZ_capM hr.1.1.1.2
  · unfold rulesB at hr
    simp only [Bool.and_eq_true] at hr
    exact hasZ_capM hr.1.1.2
  · unfold rulesB inB at hr
    simp only [Bool.and_eq_true, Bool.or_eq_true, decide_eq_true_eq] at hr
    omega
theorem out_rng (W H T : Nat) (C A B : ByteArray) (ps : List Pc) (dr st : Bool) (lo : Nat) (li : Int) (re : Nat) : 0 ≤ outO W H T C A B ps dr st lo li re ∧ outO W H T C A B ps dr st lo li re ≤ 3 := by
  have h1 := wonI_ne (1 - (T : Int))
  have h2 := wonI_ne (T : Int)
  have hd : 0 ≤ decO W H T C lo li re ∧ decO W H T C lo li re ≤ 3 := by
    rw [decO_ch]
    unfold dch
    repeat' split
    all_goals omega
  unfold outO
  repeat' split
  all_goals omega
theorem in_mem {m : Mv} {L : List Mv} (h : m ∈ L) {f t : Int} {c : Nat} (hf : f = m.f) (ht : t = (m.t : Int)) (hc : c = m.c) : inM f t c L = true := by
  unfold inM eqM
  rw [List.any_eq_true]
  exact ⟨m, h, by simp [hf, ht, hc]⟩
theorem handOf_swap {T : Nat} (hT : T ≤ 1) (A B : ByteArray) : handOf (1 - T) B A = handOf T A B := by
  unfold handOf
  rcases (by omega : T = 0 ∨ T = 1) with rfl | rfl <;> rfl

theorem sstr_sz (C : ByteArray) (W H : Nat) : (sstr C W H).size = W * H := by
  show ((tstr C W H 2).data.toList.map flipB).toArray.size = W * H
  rw [List.size_toArray, List.length_map, len_data, tstr_size]

set_option maxHeartbeats 2000000 in
theorem movesMirror_any (W0 H0 T0 : Int) (C0 A0 B0 : ByteArray) (ao : Option Addr) (cap : Nat) (ps : List Pc) (dr st : Bool) (lo re : Nat) (li pl : Int) (W H T : Int) (C A B : ByteArray) (mx : Int) (w : World) (hm : w.cell? ⟨0, 0, none⟩ = some (.int .i64 mx)) (hC0 : C0.size ≤ maxLen) (hA0 : A0.size ≤ maxLen) (hB0 : B0.size ≤ maxLen) (hlo : lo < 256) (hre : re < 256) (h : isPcs w ao cap ps) (hC : C.size ≤ maxLen) (hA : A.size ≤ maxLen) (hB : B.size ≤ maxLen) :
    Calls Tryz.prog 5 #[.agg #[.int .i64 W0, .int .i64 H0, .string C0, .int .i64 T0, .string A0, .string B0, .slice ao ps.length cap, .bool dr, .int .u8 (lo : Int), .int .i64 li, .int .u8 (re : Int), .bool st, .int .i64 pl], .agg #[.int .i64 W, .int .i64 H, .string C, .int .i64 T, .string A, .string B]] w fun e w' => e = .returned (.bool true) ∧ Below w.heap.size w w' := by
  have hps : ∀ u, Below w.heap.size w u → isPcs u ao cap ps := fun u hu => h.below hu (Nat.le_refl _)
  have hMv : ∀ u, Below w.heap.size w u → Calls Tryz.prog 21 #[] u fun e w' => e = .returned (.bool true) ∧ Below u.heap.size u w' := fun u hu => movable_any mx u ((hu.cell (p := ⟨0, 0, none⟩) (World.block_lt_of_cell? w ⟨0, 0, none⟩ hm)).trans hm)
  cases hat : atB W0 H0 C0.data.toList T0 A0.data.toList B0.data.toList ps lo li re pl W H C.data.toList T A.data.toList B.data.toList with
  | false =>
    exact mirror_no (.int .i64 W0) (.int .i64 H0) (.string C0) (.int .i64 T0) (.string A0) (.string B0) (.slice ao ps.length cap) (.bool dr) (.int .u8 (lo : Int)) (.int .i64 li) (.int .u8 (re : Int)) (.bool st) (.int .i64 pl) W H T C A B w hMv
      (fun u hu => Moves_no W0 H0 T0 C0 A0 B0 ao cap ps dr st lo re li pl W H T C A B u hC0 hA0 hB0 hlo hre (hps u hu) hC hA hB hat)
      (fun u hu => Outcome_no W0 H0 T0 C0 A0 B0 ao cap ps dr st lo re li pl W H T C A B u hC0 hA0 hB0 hlo hre (hps u hu) hC hA hB hat)
  | true =>
    obtain ⟨W', H', T', hf⟩ := at_facts hat
    obtain ⟨hcell, hloc, hrec, hli⟩ := at_caps hat hf
    have hpos := at_isPos hat hf
    obtain rfl := hf.w
    obtain rfl := hf.h
    obtain rfl := hf.t
    have hT1 := hf.t1
    have hW1 := hf.w1.1
    have hH1 := hf.h1.1
    have hCs := hf.c
    -- in the mirror
    have sm := sym_mirror (W := W') (H := H') (T := T') (C := C) hW1 hCs
    have smb := sm.back (fun k x y d hx hy hd => mirror_steps T' k x y d hx hy hd)
    have hC1s : (tstr C W' H' 1).size = W' * H' := tstr_sz C W' H' 1
    have hcell1 := mirror_cells hW1 hCs hcell
    have hat1 := at_sym hat hf sm hC1s hcell1 hT1 (.inl ⟨rfl, rfl⟩)
    have hf1 : AtF ps W' H' T' (tstr C W' H' 1) A B W' H' T' := ⟨rfl, rfl, rfl, hT1, hf.w1, hf.h1, hC1s, hf.a, hf.b, hf.ok⟩
    obtain ⟨o1, n1, m1⟩ := sm.out smb (ply_mirror hT1 hW1 hCs) (ply_mirror (P := 1 - T') (by omega) hW1 hCs) hW1 hH1 hCs hC1s hcell hcell1 hlo hre hloc hrec hli (A := A) (B := B) (A' := A) (B' := B) (ps := ps) (dr := dr) (st := st) hf.ok rfl
    -- turned round, the players exchanged
    have ss := sym_swap hT1 hW1 hH1 hCs hcell
    have hT2 : 1 - T' ≤ 1 := by omega
    have hTT : T' = 1 - (1 - T') := by omega
    have ssb := ss.back (fun k x y d hx hy hd => ups_steps hT2 hTT k x y d hx hy hd)
    have hC2s : (sstr C W' H').size = W' * H' := sstr_sz C W' H'
    have hcell2 := swap_cells hW1 hH1 hCs hcell
    have hat2 := at_sym hat hf ss hC2s hcell2 hT2 (.inr ⟨rfl, rfl⟩)
    have hf2 : AtF ps W' H' ((1 - T' : Nat) : Int) (sstr C W' H') B A W' H' (1 - T') := ⟨rfl, rfl, rfl, hT2, hf.w1, hf.h1, hC2s, hf.b, hf.a, hf.ok⟩
    obtain ⟨o2, n2, m2⟩ := ss.out ssb (ply_swap hT1 hW1 hH1 hCs hcell) (ply_swap (P := 1 - T') hT2 hW1 hH1 hCs hcell) hW1 hH1 hCs hC2s hcell hcell2 hlo hre hloc hrec hli (A := A) (B := B) (A' := B) (B' := A) (ps := ps) (dr := dr) (st := st) hf.ok (handOf_swap hT1 A B)
    have hC1m : (tstr C W' H' 1).size ≤ maxLen := by rw [hC1s, ← hCs]; exact hC
    have hC2m : (sstr C W' H').size ≤ maxLen := by rw [hC2s, ← hCs]; exact hC
    have e1T : ((1 - T' : Nat) : Int) = 1 - (T' : Int) := by omega
    have ho1 : oth3 T' T' (outO W' H' T' C A B ps dr st lo li re) = outO W' H' T' C A B ps dr st lo li re := by unfold oth3; rw [if_pos rfl]
    have ho2 : oth3 T' (1 - T') (outO W' H' T' C A B ps dr st lo li re) = if outO W' H' T' C A B ps dr st lo li re = 1 ∨ outO W' H' T' C A B ps dr st lo li re = 2 then 3 - outO W' H' T' C A B ps dr st lo li re else outO W' H' T' C A B ps dr st lo li re := by unfold oth3; rw [if_neg (by omega)]
    have hMO2 := fun u (hu : Below w.heap.size w u) => Moves_ok W0 H0 T0 C0 A0 B0 ao cap ps dr st lo re li pl W' H' ((1 - T' : Nat) : Int) (sstr C W' H') B A u hC0 hA0 hB0 hlo hre (hps u hu) hC2m hB hA hat2 W' H' (1 - T') hf2
    have hOU2 := fun u (hu : Below w.heap.size w u) => Outcome_ok W0 H0 T0 C0 A0 B0 ao cap ps dr st lo re li pl W' H' ((1 - T' : Nat) : Int) (sstr C W' H') B A u hC0 hA0 hB0 hlo hre (hps u hu) hC2m hB hA hat2 W' H' (1 - T') hf2
    rw [e1T] at hMO2 hOU2
    have hMO1 := fun u (hu : Below w.heap.size w u) => Moves_ok W0 H0 T0 C0 A0 B0 ao cap ps dr st lo re li pl W' H' T' (tstr C W' H' 1) A B u hC0 hA0 hB0 hlo hre (hps u hu) hC1m hA hB hat1 W' H' T' hf1
    have hOU1 := fun u (hu : Below w.heap.size w u) => Outcome_ok W0 H0 T0 C0 A0 B0 ao cap ps dr st lo re li pl W' H' T' (tstr C W' H' 1) A B u hC0 hA0 hB0 hlo hre (hps u hu) hC1m hA hB hat1 W' H' T' hf1
    rw [o1, ho1] at hOU1
    rw [o2, ho2] at hOU2
    refine mirror_walk (.int .i64 W0) (.int .i64 H0) (.string C0) (.int .i64 T0) (.string A0) (.string B0) (.slice ao ps.length cap) (.bool dr) (.int .u8 (lo : Int)) (.int .i64 li) (.int .u8 (re : Int)) (.bool st) (.int .i64 pl) W' H' T' C A B (tstr C W' H' 1) (sstr C W' H')
      (movesL W' H' T' C A B ps dr lo li re) (movesL W' H' T' (tstr C W' H' 1) A B ps dr lo li re) (movesL W' H' (1 - T') (sstr C W' H') B A ps dr lo li re) (outO W' H' T' C A B ps dr st lo li re) _ w hf.w1 hf.h1 n1 n2 ?_ (out_rng ..) rfl hMv
      (fun u hu => Moves_ok W0 H0 T0 C0 A0 B0 ao cap ps dr st lo re li pl W' H' T' C A B u hC0 hA0 hB0 hlo hre (hps u hu) hC hA hB hat W' H' T' hf)
      (fun u hu => Outcome_ok W0 H0 T0 C0 A0 B0 ao cap ps dr st lo re li pl W' H' T' C A B u hC0 hA0 hB0 hlo hre (hps u hu) hC hA hB hat W' H' T' hf)
      (fun u => Turned_ok u (k := 1) (by omega) hpos) hMO1 hOU1 (fun u => Swapped_ok u hpos) hMO2 hOU2 ?_
    · unfold movesL
      split
      · exact possL_len hf.a hf.b (by rw [hf.c]; exact Nat.mul_le_mul hf.w1.2 hf.h1.2)
      · simp
    · intro m hmem
      obtain ⟨f1, f2, f3⟩ := (mov_is hmem).facts
      rw [hCs] at f1 f2
      refine ⟨by omega, by omega, in_mem (m1 m hmem) ?_ ?_ rfl, in_mem (m2 m hmem) ?_ ?_ rfl⟩
      · unfold flipI mvS flipN; rfl
      · unfold flipI mvS flipN; rw [if_neg (by omega), Int.toNat_natCast]
      · unfold upsI mvS upsN; rfl
      · unfold upsI mvS upsN; rw [if_neg (by omega), Int.toNat_natCast]
end Go.Proofs.YtbglppcbgfkhmabGreatDoor
