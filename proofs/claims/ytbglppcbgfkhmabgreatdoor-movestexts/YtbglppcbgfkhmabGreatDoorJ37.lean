/-
  Plain mathematics: the board in a mirror, and turned round for the other player, are such boards.
  Plain mathematics: the position in a mirror, and the one turned round for the other player, are of the rules.
-/
import Derived.Test.YtbglppcbgfkhmabGreatDoorJ36
import Derived.Test.YtbglppcbgfkhmabGreatDoorV16
namespace Go.Proofs.YtbglppcbgfkhmabGreatDoor

/-- Left and right changed; up and down changed. -/
def flipN (W i : Nat) : Nat := i / W * W + (W - 1 - i % W)
def upsN (W H i : Nat) : Nat := (H - 1 - i / W) * W + i % W
theorem place_at {W H x y : Nat} (hx : x < W) (hy : y < H) : y * W + x < W * H ∧ (y * W + x) % W = x ∧ (y * W + x) / W = y := by
  refine ⟨?_, ?_, ?_⟩
  · have : (y + 1) * W ≤ H * W := Nat.mul_le_mul_right _ (by omega)
    rw [Nat.add_mul, Nat.one_mul] at this
    rw [Nat.mul_comm W H]; omega
  · rw [Nat.mul_comm, Nat.mul_add_mod]; exact Nat.mod_eq_of_lt hx
  · rw [Nat.mul_comm, Nat.mul_add_div (by omega), Nat.div_eq_of_lt hx]; rfl
theorem flip_at {W H i : Nat} (hW : 1 ≤ W) (hi : i < W * H) : flipN W i < W * H ∧ flipN W i % W = W - 1 - i % W ∧ flipN W i / W = i / W := by
  have h1 : i % W < W := Nat.mod_lt _ hW
  exact place_at (show W - 1 - i % W < W by omega) (Nat.div_lt_of_lt_mul hi)
theorem ups_at {W H i : Nat} (hW : 1 ≤ W) (hH : 1 ≤ H) (_hi : i < W * H) : upsN W H i < W * H ∧ upsN W H i % W = i % W ∧ upsN W H i / W = H - 1 - i / W :=
  place_at (Nat.mod_lt _ hW) (Nat.lt_of_le_of_lt (Nat.sub_le _ _) (Nat.sub_lt hH Nat.one_pos))
theorem of_place (W i : Nat) : i / W * W + i % W = i := by
  have := Nat.div_add_mod i W
  rw [Nat.mul_comm] at this; exact this
theorem flip_inv {W H i : Nat} (hW : 1 ≤ W) (hi : i < W * H) : flipN W (flipN W i) = i := by
  obtain ⟨-, h2, h3⟩ := flip_at hW hi
  have h1 : i % W < W := Nat.mod_lt _ hW
  show flipN W i / W * W + (W - 1 - flipN W i % W) = i
  rw [h2, h3, show W - 1 - (W - 1 - i % W) = i % W by omega]
  exact of_place W i
theorem ups_inv {W H i : Nat} (hW : 1 ≤ W) (hH : 1 ≤ H) (hi : i < W * H) : upsN W H (upsN W H i) = i := by
  obtain ⟨-, h2, h3⟩ := ups_at hW hH hi
  have h1 : i / W < H := Nat.div_lt_of_lt_mul hi
  show (H - 1 - upsN W H i / W) * W + upsN W H i % W = i
  rw [h2, h3, show H - 1 - (H - 1 - i / W) = i / W by generalize i / W = q at h1 ⊢; omega]
  exact of_place W i
theorem tstr_cell (C : ByteArray) (W H k : Nat) {i : Nat} (hi : i < W * H) : cellN (tstr C W H k) i = (tcell C.data.toList W H k (twd W H k) i).toNat := by
  have hl : i < (tstr C W H k).size := by
    show i < (tcells C.data.toList W H k (twd W H k) (W * H)).toArray.size
    simp [tcells]; exact hi
  obtain ⟨q1, q2⟩ := cellN_list (tstr C W H k) i hl
  rw [q2]
  congr 1
  have : (tstr C W H k).data.toList[i]? = some (tcell C.data.toList W H k (twd W H k) i) := by
    unfold tstr tcells
    simp [hi]
  rw [this] at q1
  exact (Option.some.inj q1).symm
theorem getD_cell (C : ByteArray) (i : Nat) (hi : i < C.size) : (C.data.toList.getD i 0).toNat = cellN C i := by
  obtain ⟨q1, q2⟩ := cellN_list C i hi
  rw [List.getD_eq_getElem?_getD, q1, q2]; rfl
theorem mirror_cell {C : ByteArray} {W H : Nat} (hW : 1 ≤ W) (hC : C.size = W * H) {i : Nat} (hi : i < W * H) : cellN (tstr C W H 1) (flipN W i) = cellN C i := by
  obtain ⟨h1, h2, h3⟩ := flip_at hW hi
  rw [tstr_cell C W H 1 h1]
  have hlt : i % W < W := Nat.mod_lt _ hW
  unfold tcell
  have e : (srcY (H : Int) 1 ((flipN W i % twd W H 1 : Nat) : Int) ((flipN W i / twd W H 1 : Nat) : Int) * (W : Int) + srcX (W : Int) 1 ((flipN W i % twd W H 1 : Nat) : Int) ((flipN W i / twd W H 1 : Nat) : Int)).toNat = i := by
    have ht : twd W H 1 = W := rfl
    rw [ht, h2, h3]
    have a1 : srcY (H : Int) 1 ((W - 1 - i % W : Nat) : Int) ((i / W : Nat) : Int) = ((i / W : Nat) : Int) := rfl
    have a2 : srcX (W : Int) 1 ((W - 1 - i % W : Nat) : Int) ((i / W : Nat) : Int) = (W : Int) - 1 - ((W - 1 - i % W : Nat) : Int) := rfl
    rw [a1, a2, show (W : Int) - 1 - ((W - 1 - i % W : Nat) : Int) = ((i % W : Nat) : Int) by omega, ← Int.natCast_mul, ← Int.natCast_add, of_place]
    rfl
  rw [e]
  exact getD_cell C i (by rw [hC]; exact hi)
theorem ups_cell {C : ByteArray} {W H : Nat} (hW : 1 ≤ W) (hH : 1 ≤ H) (hC : C.size = W * H) {i : Nat} (hi : i < W * H) : cellN (tstr C W H 2) (upsN W H i) = cellN C i := by
  obtain ⟨h1, h2, h3⟩ := ups_at hW hH hi
  rw [tstr_cell C W H 2 h1]
  have hlt : i / W < H := Nat.div_lt_of_lt_mul hi
  unfold tcell
  have e : (srcY (H : Int) 2 ((upsN W H i % twd W H 2 : Nat) : Int) ((upsN W H i / twd W H 2 : Nat) : Int) * (W : Int) + srcX (W : Int) 2 ((upsN W H i % twd W H 2 : Nat) : Int) ((upsN W H i / twd W H 2 : Nat) : Int)).toNat = i := by
    have ht : twd W H 2 = W := rfl
    rw [ht, h2, h3]
    have a1 : srcY (H : Int) 2 ((i % W : Nat) : Int) ((H - 1 - i / W : Nat) : Int) = (H : Int) - 1 - ((H - 1 - i / W : Nat) : Int) := rfl
    have a2 : srcX (W : Int) 2 ((i % W : Nat) : Int) ((H - 1 - i / W : Nat) : Int) = ((i % W : Nat) : Int) := rfl
    rw [a1, a2, show (H : Int) - 1 - ((H - 1 - i / W : Nat) : Int) = ((i / W : Nat) : Int) by omega, ← Int.natCast_mul, ← Int.natCast_add, of_place]
    rfl
  rw [e]
  exact getD_cell C i (by rw [hC]; exact hi)
theorem tstr_sz (C : ByteArray) (W H k : Nat) : (tstr C W H k).size = W * H := by
  show (tcells C.data.toList W H k (twd W H k) (W * H)).toArray.size = W * H
  simp [tcells]
/-- The other case of a cell. -/
def flN (c : Nat) : Nat := (flipB c.toUInt8).toNat
theorem sstr_cell {C : ByteArray} {W H : Nat} (hW : 1 ≤ W) (hH : 1 ≤ H) (hC : C.size = W * H) {i : Nat} (hi : i < W * H) : cellN (sstr C W H) (upsN W H i) = flN (cellN C i) := by
  obtain ⟨h1, -, -⟩ := ups_at hW hH hi
  have hl : upsN W H i < (sstr C W H).size := by
    show _ < ((tstr C W H 2).data.toList.map flipB).toArray.size
    have hz : (tstr C W H 2).data.toList.length = W * H := by unfold tstr tcells; simp
    rw [List.size_toArray, List.length_map, hz]; exact h1
  obtain ⟨q1, q2⟩ := cellN_list (sstr C W H) _ hl
  obtain ⟨r1, r2⟩ := cellN_list (tstr C W H 2) (upsN W H i) (by rw [tstr_sz]; exact h1)
  have : (sstr C W H).data.toList[upsN W H i]? = some (flipB ((tstr C W H 2).get! (upsN W H i))) := by
    unfold sstr
    simp only [List.getElem?_map, r1, Option.map_some]
  rw [this] at q1
  rw [q2, ← Option.some.inj q1]
  have h3 := ups_cell hW hH hC hi
  rw [r2] at h3
  unfold flN
  rw [← h3]
  congr 2
  exact UInt8.toNat_inj.1 (by show _ = _ % 256; have := UInt8.toNat_lt ((tstr C W H 2).get! (upsN W H i)); omega)
theorem fl_facts : ∀ c : Nat, c < 256 → cellB (c : Int) = true → (flN c = 46 ↔ c = 46) ∧ upN (flN c) = upN c ∧ ownB 0 (flN c) = ownB 1 c ∧ ownB 1 (flN c) = ownB 0 c ∧ cellB (flN c : Nat) = true := by decide +kernel
theorem mirror_steps (T : Nat) (k x y : Int) (d : Int × Int) (_hx : 0 ≤ x) (_hy : 0 ≤ y) (hd : d ∈ stepsL k x y T) : (-1 * d.1, 1 * d.2) ∈ stepsL k x y T := by
  unfold stepsL at hd ⊢
  split at hd
  · rename_i h
    rw [if_pos h]
    simp only [List.mem_cons, List.not_mem_nil, or_false] at hd ⊢
    rcases hd with rfl | rfl <;> simp
  · rename_i h
    rw [if_neg h]
    rw [mem8 _hx _hy] at hd ⊢
    simp only at hd ⊢
    omega
theorem ups_steps {T T' : Nat} (hT : T ≤ 1) (hT' : T' = 1 - T) (k x y : Int) (d : Int × Int) (hx : 0 ≤ x) (hy : 0 ≤ y) (hd : d ∈ stepsL k x y T) : (1 * d.1, -1 * d.2) ∈ stepsL k x y T' := by
  unfold stepsL at hd ⊢
  split at hd
  · rename_i h
    rw [if_pos h]
    have hf : fwdI T' = - fwdI T := by unfold fwdI; omega
    rw [hf]
    simp only [List.mem_cons, List.not_mem_nil, or_false] at hd ⊢
    rcases hd with rfl | rfl <;> simp [Int.mul_neg]
  · rename_i h
    rw [if_neg h]
    rw [mem8 hx hy] at hd ⊢
    simp only at hd ⊢
    omega
theorem mirror_dx {W H a b : Nat} (hW : 1 ≤ W) (ha : a < W * H) (hb : b < W * H) : dxI W (flipN W a) (flipN W b) = -1 * dxI W a b ∧ dyI W (flipN W a) (flipN W b) = 1 * dyI W a b := by
  obtain ⟨-, a2, a3⟩ := flip_at hW ha
  obtain ⟨-, b2, b3⟩ := flip_at hW hb
  have h1 : a % W < W := Nat.mod_lt _ hW
  have h2 : b % W < W := Nat.mod_lt _ hW
  unfold dxI dyI
  rw [a2, a3, b2, b3]
  generalize a % W = p at *
  generalize b % W = q at *
  omega
theorem ups_dx {W H a b : Nat} (hW : 1 ≤ W) (hH : 1 ≤ H) (ha : a < W * H) (hb : b < W * H) : dxI W (upsN W H a) (upsN W H b) = 1 * dxI W a b ∧ dyI W (upsN W H a) (upsN W H b) = -1 * dyI W a b := by
  obtain ⟨-, a2, a3⟩ := ups_at hW hH ha
  obtain ⟨-, b2, b3⟩ := ups_at hW hH hb
  have h1 : a / W < H := Nat.div_lt_of_lt_mul ha
  have h2 : b / W < H := Nat.div_lt_of_lt_mul hb
  unfold dxI dyI
  rw [a2, a3, b2, b3]
  generalize a / W = p at *
  generalize b / W = q at *
  omega
/-- The board in a mirror. -/
theorem sym_mirror {W H T : Nat} {C : ByteArray} (hW : 1 ≤ W) (hC : C.size = W * H) : Sym W H T T C (tstr C W H 1) (flipN W) (-1) 1 := by
  refine ⟨.inr rfl, .inl rfl, fun i hi => (flip_at hW hi).1, fun i hi => flip_inv hW hi, fun a b ha hb => (mirror_dx hW ha hb).1, fun a b ha hb => (mirror_dx hW ha hb).2, fun i hi => ?_, fun i hi => ?_, fun i hi => ?_, fun i hi => ?_, mirror_steps T⟩
  all_goals rw [mirror_cell hW hC hi]
theorem ply_mirror {W H P : Nat} {C : ByteArray} (hP : P ≤ 1) (hW : 1 ≤ W) (hC : C.size = W * H) : Ply W H C (tstr C W H 1) (flipN W) P P :=
  ⟨hP, hP, fun i hi => by rw [mirror_cell hW hC hi], fun i hi => by rw [(flip_at hW hi).2.2]⟩
/-- The board turned round, for the other player. -/
theorem sym_swap {W H T : Nat} {C : ByteArray} (hT : T ≤ 1) (hW : 1 ≤ W) (hH : 1 ≤ H) (hC : C.size = W * H) (hv : ∀ c, c < W * H → cellB (cellN C c : Nat) = true ∧ cellN C c < 256) : Sym W H T (1 - T) C (sstr C W H) (upsN W H) 1 (-1) := by
  have own : ∀ P, P ≤ 1 → ∀ i, i < W * H → ownB (1 - P) (cellN (sstr C W H) (upsN W H i)) = ownB P (cellN C i) := fun P hP i hi => by
    obtain ⟨-, -, f3, f4, -⟩ := fl_facts _ (hv i hi).2 (hv i hi).1
    rw [sstr_cell hW hH hC hi]
    rcases (by omega : P = 0 ∨ P = 1) with rfl | rfl
    · exact f4
    · exact f3
  refine ⟨.inl rfl, .inr rfl, fun i hi => (ups_at hW hH hi).1, fun i hi => ups_inv hW hH hi, fun a b ha hb => (ups_dx hW hH ha hb).1, fun a b ha hb => (ups_dx hW hH ha hb).2, fun i hi => ?_, fun i hi => ?_, fun i hi => own T hT i hi, fun i hi => ?_, ups_steps hT rfl⟩
  · rw [sstr_cell hW hH hC hi]; exact (fl_facts _ (hv i hi).2 (hv i hi).1).1
  · rw [sstr_cell hW hH hC hi]; exact (fl_facts _ (hv i hi).2 (hv i hi).1).2.1
  · exact own (1 - T) (by omega) i hi
theorem ply_swap {W H P : Nat} {C : ByteArray} (hP : P ≤ 1) (hW : 1 ≤ W) (hH : 1 ≤ H) (hC : C.size = W * H) (hv : ∀ c, c < W * H → cellB (cellN C c : Nat) = true ∧ cellN C c < 256) : Ply W H C (sstr C W H) (upsN W H) P (1 - P) := by
  refine ⟨hP, by omega, fun i hi => ?_, fun i hi => ?_⟩
  · obtain ⟨-, -, f3, f4, -⟩ := fl_facts _ (hv i hi).2 (hv i hi).1
    rw [sstr_cell hW hH hC hi]
    rcases (by omega : P = 0 ∨ P = 1) with rfl | rfl
    · exact f4
    · exact f3
  · rw [(ups_at hW hH hi).2.2]
    have h1 : i / W < H := Nat.div_lt_of_lt_mul hi
    unfold lastN
    generalize i / W = q at *
    rcases (by omega : P = 0 ∨ P = 1) with rfl | rfl <;> simp <;> omega
theorem swap_cells {W H : Nat} {C : ByteArray} (hW : 1 ≤ W) (hH : 1 ≤ H) (hC : C.size = W * H) (hv : ∀ c, c < W * H → cellB (cellN C c : Nat) = true ∧ cellN C c < 256) : ∀ c, c < W * H → cellB (cellN (sstr C W H) c : Nat) = true ∧ cellN (sstr C W H) c < 256 := fun c hc => by
  have h1 := (ups_at hW hH hc).1
  have := sstr_cell hW hH hC h1
  rw [ups_inv hW hH hc] at this
  refine ⟨?_, cellN_lt _ _⟩
  rw [this]
  exact (fl_facts _ (hv _ h1).2 (hv _ h1).1).2.2.2.2
theorem mirror_cells {W H : Nat} {C : ByteArray} (hW : 1 ≤ W) (hC : C.size = W * H) (hv : ∀ c, c < W * H → cellB (cellN C c : Nat) = true ∧ cellN C c < 256) : ∀ c, c < W * H → cellB (cellN (tstr C W H 1) c : Nat) = true ∧ cellN (tstr C W H 1) c < 256 := fun c hc => by
  have h1 := (flip_at hW hc).1
  have := mirror_cell hW hC h1
  rw [flip_inv hW hc] at this
  rw [this]
  exact hv _ h1
end Go.Proofs.YtbglppcbgfkhmabGreatDoor

namespace Go.Proofs.YtbglppcbgfkhmabGreatDoor

theorem at_isPos {W0 H0 T0 : Int} {C0 A0 B0 : List UInt8} {ps : List Pc} {lo re : Nat} {li pl W H T : Int} {C A B : ByteArray} (h : atB W0 H0 C0 T0 A0 B0 ps lo li re pl W H C.data.toList T A.data.toList B.data.toList = true) {W' H' T' : Nat} (hf : AtF ps W H T C A B W' H' T') : IsPos W' H' C T' A B := by
  unfold atB posB at h
  simp only [Bool.and_eq_true] at h
  obtain ⟨⟨⟨⟨-, ⟨⟨⟨⟨-, -⟩, -, hcs⟩, -⟩, hA⟩, hB⟩, -⟩, -⟩, -⟩ := h
  exact ⟨hf.w1.1, hf.w1.2, hf.h1.1, hf.h1.2, hf.c, hcs, by have := hf.t1; omega, hA, hB⟩
theorem all_cells {C : ByteArray} {p : UInt8 → Bool} {n : Nat} (hC : C.size = n) : C.data.toList.all p = true ↔ ∀ i, i < n → p (C.get! i) = true := by
  rw [List.all_eq_true]
  constructor
  · intro h i hi
    exact h _ (List.mem_of_getElem? (cellN_list C i (by omega)).1)
  · intro h x hx
    obtain ⟨i, hi⟩ := List.getElem?_of_mem hx
    have hl : i < C.size := by
      have := (List.getElem?_eq_some_iff.1 hi).1
      simpa using this
    rw [(cellN_list C i hl).1] at hi
    rw [← Option.some.inj hi]
    exact h i (by omega)
theorem cellL_up {S : Nat} {a b : UInt8} (h46 : a.toNat = 46 ↔ b.toNat = 46) (hup : upN a.toNat = upN b.toNat) : cellL S a = cellL S b := by
  unfold cellL
  rw [hup]
  congr 1
  rw [Bool.eq_iff_iff, decide_eq_true_eq, decide_eq_true_eq]
  exact h46
/-- A board the other way is of the rules if the board is. -/
theorem at_sym {W0 H0 T0 : Int} {C0 A0 B0 : List UInt8} {ps : List Pc} {lo re : Nat} {li pl W H T : Int} {C A B : ByteArray} (h : atB W0 H0 C0 T0 A0 B0 ps lo li re pl W H C.data.toList T A.data.toList B.data.toList = true) {W' H' T' : Nat} (hf : AtF ps W H T C A B W' H' T')
    {T2 : Nat} {C' A' B' : ByteArray} {s : Nat → Nat} {ex ey : Int} (hs : Sym W' H' T' T2 C C' s ex ey) (hC' : C'.size = W' * H') (hv' : ∀ c, c < W' * H' → cellB (cellN C' c : Nat) = true ∧ cellN C' c < 256) (hT2 : T2 ≤ 1) (hAB : (A' = A ∧ B' = B) ∨ (A' = B ∧ B' = A)) :
    atB W0 H0 C0 T0 A0 B0 ps lo li re pl W H C'.data.toList T2 A'.data.toList B'.data.toList = true := by
  unfold atB posB allL at h ⊢
  simp only [Bool.and_eq_true, decide_eq_true_eq] at h ⊢
  obtain ⟨⟨⟨⟨h1, ⟨⟨⟨⟨hw, hh⟩, -, hcs⟩, -⟩, hA⟩, hB⟩, h2⟩, h3⟩, ⟨hl1, hl2⟩, hl3⟩ := h
  have hlen : ((C'.data.toList.length : Nat) : Int) = W * H := by
    rw [len_data, hC', hf.w, hf.h]; simp
  have hcs' : cellsB C'.data.toList = true := by
    unfold cellsB
    rw [all_cells hC']
    intro i hi
    exact (hv' i hi).1
  have hl1' : C'.data.toList.all (cellL (lettersS ps)) = true := by
    rw [all_cells hC']
    rw [all_cells hf.c] at hl1
    intro i hi
    have hsi := hs.lt i hi
    have e46 := hs.e46 (s i) hsi
    have eup := hs.up (s i) hsi
    rw [hs.inv i hi] at e46 eup
    rw [cellL_up (a := C'.get! i) (b := C.get! (s i)) e46 eup]
    exact hl1 (s i) hsi
  have ht : ((decide ((T2 : Int) = 0) || decide ((T2 : Int) = 1)) = true) := by
    simp only [Bool.or_eq_true, decide_eq_true_eq]; omega
  rcases hAB with ⟨rfl, rfl⟩ | ⟨rfl, rfl⟩
  · exact ⟨⟨⟨⟨h1, ⟨⟨⟨⟨hw, hh⟩, hlen, hcs'⟩, ht⟩, hA⟩, hB⟩, h2⟩, h3⟩, ⟨hl1', hl2⟩, hl3⟩
  · exact ⟨⟨⟨⟨h1, ⟨⟨⟨⟨hw, hh⟩, hlen, hcs'⟩, ht⟩, hB⟩, hA⟩, h2⟩, h3⟩, ⟨hl1', hl3⟩, hl2⟩
end Go.Proofs.YtbglppcbgfkhmabGreatDoor
