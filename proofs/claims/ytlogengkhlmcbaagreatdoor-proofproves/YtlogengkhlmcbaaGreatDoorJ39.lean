/-
  Plain mathematics: the board in a mirror, and turned round for the other player, are such boards.
  Plain mathematics: the position in a mirror, and the one turned round for the other player, are of the rules.
  What comes behind a move is of the rules.
-/
import Derived.Test.YtlogengkhlmcbaaGreatDoorJ38
import Derived.Test.YtlogengkhlmcbaaGreatDoorJ12
import Derived.Test.YtlogengkhlmcbaaGreatDoorJ23
namespace Go.Proofs.YtlogengkhlmcbaaGreatDoor

/-- Left and right changed; up and down changed. -/
def flipN (W i : Nat) : Nat := i / W * W + (W - 1 - i % W)
def upsN (W H i : Nat) : Nat := (H - 1 - i / W) * W + i % W
theorem place_at {W H x y : Nat} (hx : x < W) (hy : y < H) : y * W + x < W * H ∧ (y * W + x) % W = x ∧ (y * W + x) / W = y := by
  refine ⟨?_, ?_, ?_⟩
  · have : (y + 1) * W ≤ H * W := Nat.mul_le_mul_right _ (by omega)
    rw [Nat.add_mul, Nat.one_mul] at this
    rw [Nat.mul_comm W H]; omega
  · rw [Nat.mul_comm, Nat.mul_add_mod]; exact Nat.mod_eq_of_lt hx
  · rw [Nat.mul_comm, Nat.mul_add_div (by omega), Nat.div_eq_of_lt hx]; rfl
theorem flip_at {W H i : Nat} (hW : 1 ≤ W) (hi : i < W * H) : flipN W i < W * H ∧ flipN W i % W = W - 1 - i % W ∧ flipN W i / W = i / W := by
  have h1 : i % W < W := Nat.mod_lt _ hW
  exact place_at (show W - 1 - i % W < W by omega) (Nat.div_lt_of_lt_mul hi)
theorem ups_at {W H i : Nat} (hW : 1 ≤ W) (hH : 1 ≤ H) (_hi : i < W * H) : upsN W H i < W * H ∧ upsN W H i % W = i % W ∧ upsN W H i / W = H - 1 - i / W :=
  place_at (Nat.mod_lt _ hW) (Nat.lt_of_le_of_lt (Nat.sub_le _ _) (Nat.sub_lt hH Nat.one_pos))
theorem of_place (W i : Nat) : i / W * W + i % W = i := by
  have := Nat.div_add_mod i W
  rw [Nat.mul_comm] at this; exact this
theorem flip_inv {W H i : Nat} (hW : 1 ≤ W) (hi : i < W * H) : flipN W (flipN W i) = i := by
  obtain ⟨-, h2, h3⟩ := flip_at hW hi
  have h1 : i % W < W := Nat.mod_lt _ hW
  show flipN W i / W * W + (W - 1 - flipN W i % W) = i
  rw [h2, h3, show W - 1 - (W - 1 - i % W) = i % W by omega]
  exact of_place W i
theorem ups_inv {W H i : Nat} (hW : 1 ≤ W) (hH : 1 ≤ H) (hi : i < W * H) : upsN W H (upsN W H i) = i := by
  obtain ⟨-, h2, h3⟩ := ups_at hW hH hi
  have h1 : i / W < H := Nat.div_lt_of_lt_mul hi
  show (H - 1 - upsN W H i / W) * W + upsN W H i % W = i
  rw [h2, h3, show H - 1 - (H - 1 - i / W) = i / W by generalize i / W = q at h1 ⊢; omega]
  exact of_place W i
theorem tstr_cell (C : ByteArray) (W H k : Nat) {i : Nat} (hi : i < W * H) : cellN (tstr C W H k) i = (tcell C.data.toList W H k (twd W H k) i).toNat := by
  have hl : i < (tstr C W H k).size := by
    show i < (tcells C.data.toList W H k (twd W H k) (W * H)).toArray.size
    simp [tcells]; exact hi
  obtain ⟨q1, q2⟩ := cellN_list (tstr C W H k) i hl
  rw [q2]
  congr 1
  have : (tstr C W H k).data.toList[i]? = some (tcell C.data.toList W H k (twd W H k) i) := by
    unfold tstr tcells
    simp [hi]
  rw [this] at q1
  exact (Option.some.inj q1).symm
theorem getD_cell (C : ByteArray) (i : Nat) (hi : i < C.size) : (C.data.toList.getD i 0).toNat = cellN C i := by
  obtain ⟨q1, q2⟩ := cellN_list C i hi
  rw [List.getD_eq_getElem?_getD, q1, q2]; rfl
theorem mirror_cell {C : ByteArray} {W H : Nat} (hW : 1 ≤ W) (hC : C.size = W * H) {i : Nat} (hi : i < W * H) : cellN (tstr C W H 1) (flipN W i) = cellN C i := by
  obtain ⟨h1, h2, h3⟩ := flip_at hW hi
  rw [tstr_cell C W H 1 h1]
  have hlt : i % W < W := Nat.mod_lt _ hW
  unfold tcell
  have e : (srcY (H : Int) 1 ((flipN W i % twd W H 1 : Nat) : Int) ((flipN W i / twd W H 1 : Nat) : Int) * (W : Int) + srcX (W : Int) 1 ((flipN W i % twd W H 1 : Nat) : Int) ((flipN W i / twd W H 1 : Nat) : Int)).toNat = i := by
    have ht : twd W H 1 = W := rfl
    rw [ht, h2, h3]
    have a1 : srcY (H : Int) 1 ((W - 1 - i % W : Nat) : Int) ((i / W : Nat) : Int) = ((i / W : Nat) : Int) := rfl
    have a2 : srcX (W : Int) 1 ((W - 1 - i % W : Nat) : Int) ((i / W : Nat) : Int) = (W : Int) - 1 - ((W - 1 - i % W : Nat) : Int) := rfl
    rw [a1, a2, show (W : Int) - 1 - ((W - 1 - i % W : Nat) : Int) = ((i % W : Nat) : Int) by omega, ← Int.natCast_mul, ← Int.natCast_add, of_place]
    rfl
  rw [e]
  exact getD_cell C i (by rw [hC]; exact hi)
theorem ups_cell {C : ByteArray} {W H : Nat} (hW : 1 ≤ W) (hH : 1 ≤ H) (hC : C.size = W * H) {i : Nat} (hi : i < W * H) : cellN (tstr C W H 2) (upsN W H i) = cellN C i := by
  obtain ⟨h1, h2, h3⟩ := ups_at hW hH hi
  rw [tstr_cell C W H 2 h1]
  have hlt : i / W < H := Nat.div_lt_of_lt_mul hi
  unfold tcell
  have e : (srcY (H : Int) 2 ((upsN W H i % twd W H 2 : Nat) : Int) ((upsN W H i / twd W H 2 : Nat) : Int) * (W : Int) + srcX (W : Int) 2 ((upsN W H i % twd W H 2 : Nat) : Int) ((upsN W H i / twd W H 2 : Nat) : Int)).toNat = i := by
    have ht : twd W H 2 = W := rfl
    rw [ht, h2, h3]
    have a1 : srcY (H : Int) 2 ((i % W : Nat) : Int) ((H - 1 - i / W : Nat) : Int) = (H : Int) - 1 - ((H - 1 - i / W : Nat) : Int) := rfl
    have a2 : srcX (W : Int) 2 ((i % W : Nat) : Int) ((H - 1 - i / W : Nat) : Int) = ((i % W : Nat) : Int) := rfl
    rw [a1, a2, show (H : Int) - 1 - ((H - 1 - i / W : Nat) : Int) = ((i / W : Nat) : Int) by omega, ← Int.natCast_mul, ← Int.natCast_add, of_place]
    rfl
  rw [e]
  exact getD_cell C i (by rw [hC]; exact hi)
theorem tstr_sz (C : ByteArray) (W H k : Nat) : (tstr C W H k).size = W * H := by
  show (tcells C.data.toList W H k (twd W H k) (W * H)).toArray.size = W * H
  simp [tcells]
/-- The other case of a cell. -/
def flN (c : Nat) : Nat := (flipB c.toUInt8).toNat
theorem sstr_cell {C : ByteArray} {W H : Nat} (hW : 1 ≤ W) (hH : 1 ≤ H) (hC : C.size = W * H) {i : Nat} (hi : i < W * H) : cellN (sstr C W H) (upsN W H i) = flN (cellN C i) := by
  obtain ⟨h1, -, -⟩ := ups_at hW hH hi
  have hl : upsN W H i < (sstr C W H).size := by
    show _ < ((tstr C W H 2).data.toList.map flipB).toArray.size
    have hz : (tstr C W H 2).data.toList.length = W * H := by unfold tstr tcells; simp
    rw [List.size_toArray, List.length_map, hz]; exact h1
  obtain ⟨q1, q2⟩ := cellN_list (sstr C W H) _ hl
  obtain ⟨r1, r2⟩ := cellN_list (tstr C W H 2) (upsN W H i) (by rw [tstr_sz]; exact h1)
  have : (sstr C W H).data.toList[upsN W H i]? = some (flipB ((tstr C W H 2).get! (upsN W H i))) := by
    unfold sstr
    simp only [List.getElem?_map, r1, Option.map_some]
  rw [this] at q1
  rw [q2, ← Option.some.inj q1]
  have h3 := ups_cell hW hH hC hi
  rw [r2] at h3
  unfold flN
  rw [← h3]
  congr 2
  exact UInt8.toNat_inj.1 (by show _ = _ % 256; have := UInt8.toNat_lt ((tstr C W H 2).get! (upsN W H i)); omega)
theorem fl_facts : ∀ c : Nat, c < 256 → cellB (c : Int) = true → (flN c = 46 ↔ c = 46) ∧ upN (flN c) = upN c ∧ ownB 0 (flN c) = ownB 1 c ∧ ownB 1 (flN c) = ownB 0 c ∧ cellB (flN c : Nat) = true := by decide +kernel
theorem mirror_steps (T : Nat) (k x y : Int) (d : Int × Int) (_hx : 0 ≤ x) (_hy : 0 ≤ y) (hd : d ∈ stepsL k x y T) : (-1 * d.1, 1 * d.2) ∈ stepsL k x y T := by
  unfold stepsL at hd ⊢
  split at hd
  · rename_i h
    rw [if_pos h]
    simp only [List.mem_cons, List.not_mem_nil, or_false] at hd ⊢
    rcases hd with rfl | rfl <;> simp
  · rename_i h
    rw [if_neg h]
    rw [mem8 _hx _hy] at hd ⊢
    simp only at hd ⊢
    omega
theorem ups_steps {T T' : Nat} (hT : T ≤ 1) (hT' : T' = 1 - T) (k x y : Int) (d : Int × Int) (hx : 0 ≤ x) (hy : 0 ≤ y) (hd : d ∈ stepsL k x y T) : (1 * d.1, -1 * d.2) ∈ stepsL k x y T' := by
  unfold stepsL at hd ⊢
  split at hd
  · rename_i h
    rw [if_pos h]
    have hf : fwdI T' = - fwdI T := by unfold fwdI; omega
    rw [hf]
    simp only [List.mem_cons, List.not_mem_nil, or_false] at hd ⊢
    rcases hd with rfl | rfl <;> simp [Int.mul_neg]
  · rename_i h
    rw [if_neg h]
    rw [mem8 hx hy] at hd ⊢
    simp only at hd ⊢
    omega
theorem mirror_dx {W H a b : Nat} (hW : 1 ≤ W) (ha : a < W * H) (hb : b < W * H) : dxI W (flipN W a) (flipN W b) = -1 * dxI W a b ∧ dyI W (flipN W a) (flipN W b) = 1 * dyI W a b := by
  obtain ⟨-, a2, a3⟩ := flip_at hW ha
  obtain ⟨-, b2, b3⟩ := flip_at hW hb
  have h1 : a % W < W := Nat.mod_lt _ hW
  have h2 : b % W < W := Nat.mod_lt _ hW
  unfold dxI dyI
  rw [a2, a3, b2, b3]
  generalize a % W = p at *
  generalize b % W = q at *
  omega
theorem ups_dx {W H a b : Nat} (hW : 1 ≤ W) (hH : 1 ≤ H) (ha : a < W * H) (hb : b < W * H) : dxI W (upsN W H a) (upsN W H b) = 1 * dxI W a b ∧ dyI W (upsN W H a) (upsN W H b) = -1 * dyI W a b := by
  obtain ⟨-, a2, a3⟩ := ups_at hW hH ha
  obtain ⟨-, b2, b3⟩ := ups_at hW hH hb
  have h1 : a / W < H := Nat.div_lt_of_lt_mul ha
  have h2 : b / W < H := Nat.div_lt_of_lt_mul hb
  unfold dxI dyI
  rw [a2, a3, b2, b3]
  generalize a / W = p at *
  generalize b / W = q at *
  omega
/-- The board in a mirror. -/
theorem sym_mirror {W H T : Nat} {C : ByteArray} (hW : 1 ≤ W) (hC : C.size = W * H) : Sym W H T T C (tstr C W H 1) (flipN W) (-1) 1 := by
  refine ⟨.inr rfl, .inl rfl, fun i hi => (flip_at hW hi).1, fun i hi => flip_inv hW hi, fun a b ha hb => (mirror_dx hW ha hb).1, fun a b ha hb => (mirror_dx hW ha hb).2, fun i hi => ?_, fun i hi => ?_, fun i hi => ?_, fun i hi => ?_, mirror_steps T⟩
  all_goals rw [mirror_cell hW hC hi]
theorem ply_mirror {W H P : Nat} {C : ByteArray} (hP : P ≤ 1) (hW : 1 ≤ W) (hC : C.size = W * H) : Ply W H C (tstr C W H 1) (flipN W) P P :=
  ⟨hP, hP, fun i hi => by rw [mirror_cell hW hC hi], fun i hi => by rw [(flip_at hW hi).2.2]⟩
/-- The board turned round, for the other player. -/
theorem sym_swap {W H T : Nat} {C : ByteArray} (hT : T ≤ 1) (hW : 1 ≤ W) (hH : 1 ≤ H) (hC : C.size = W * H) (hv : ∀ c, c < W * H → cellB (cellN C c : Nat) = true ∧ cellN C c < 256) : Sym W H T (1 - T) C (sstr C W H) (upsN W H) 1 (-1) := by
  have own : ∀ P, P ≤ 1 → ∀ i, i < W * H → ownB (1 - P) (cellN (sstr C W H) (upsN W H i)) = ownB P (cellN C i) := fun P hP i hi => by
    obtain ⟨-, -, f3, f4, -⟩ := fl_facts _ (hv i hi).2 (hv i hi).1
    rw [sstr_cell hW hH hC hi]
    rcases (by omega : P = 0 ∨ P = 1) with rfl | rfl
    · exact f4
    · exact f3
  refine ⟨.inl rfl, .inr rfl, fun i hi => (ups_at hW hH hi).1, fun i hi => ups_inv hW hH hi, fun a b ha hb => (ups_dx hW hH ha hb).1, fun a b ha hb => (ups_dx hW hH ha hb).2, fun i hi => ?_, fun i hi => ?_, fun i hi => own T hT i hi, fun i hi => ?_, ups_steps hT rfl⟩
  · rw [sstr_cell hW hH hC hi]; exact (fl_facts _ (hv i hi).2 (hv i hi).1).1
  · rw [sstr_cell hW hH hC hi]; exact (fl_facts _ (hv i hi).2 (hv i hi).1).2.1
  · exact own (1 - T) (by omega) i hi
theorem ply_swap {W H P : Nat} {C : ByteArray} (hP : P ≤ 1) (hW : 1 ≤ W) (hH : 1 ≤ H) (hC : C.size = W * H) (hv : ∀ c, c < W * H → cellB (cellN C c : Nat) = true ∧ cellN C c < 256) : Ply W H C (sstr C W H) (upsN W H) P (1 - P) := by
  refine ⟨hP, by omega, fun i hi => ?_, fun i hi => ?_⟩
  · obtain ⟨-, -, f3, f4, -⟩ := fl_facts _ (hv i hi).2 (hv i hi).1
    rw [sstr_cell hW hH hC hi]
    rcases (by omega : P = 0 ∨ P = 1) with rfl | rfl
    · exact f4
    · exact f3
  · rw [(ups_at hW hH hi).2.2]
    have h1 : i / W < H := Nat.div_lt_of_lt_mul hi
    unfold lastN
    generalize i / W = q at *
    rcases (by omega : P = 0 ∨ P = 1) with rfl | rfl <;> simp <;> omega
theorem swap_cells {W H : Nat} {C : ByteArray} (hW : 1 ≤ W) (hH : 1 ≤ H) (hC : C.size = W * H) (hv : ∀ c, c < W * H → cellB (cellN C c : Nat) = true ∧ cellN C c < 256) : ∀ c, c < W * H → cellB (cellN (sstr C W H) c : Nat) = true ∧ cellN (sstr C W H) c < 256 := fun c hc => by
  have h1 := (ups_at hW hH hc).1
  have := sstr_cell hW hH hC h1
  rw [ups_inv hW hH hc] at this
  refine ⟨?_, cellN_lt _ _⟩
  rw [this]
  exact (fl_facts _ (hv _ h1).2 (hv _ h1).1).2.2.2.2
theorem mirror_cells {W H : Nat} {C : ByteArray} (hW : 1 ≤ W) (hC : C.size = W * H) (hv : ∀ c, c < W * H → cellB (cellN C c : Nat) = true ∧ cellN C c < 256) : ∀ c, c < W * H → cellB (cellN (tstr C W H 1) c : Nat) = true ∧ cellN (tstr C W H 1) c < 256 := fun c hc => by
  have h1 := (flip_at hW hc).1
  have := mirror_cell hW hC h1
  rw [flip_inv hW hc] at this
  rw [this]
  exact hv _ h1
end Go.Proofs.YtlogengkhlmcbaaGreatDoor

namespace Go.Proofs.YtlogengkhlmcbaaGreatDoor

theorem at_isPos {W0 H0 T0 : Int} {C0 A0 B0 : List UInt8} {ps : List Pc} {lo re : Nat} {li pl W H T : Int} {C A B : ByteArray} (h : atB W0 H0 C0 T0 A0 B0 ps lo li re pl W H C.data.toList T A.data.toList B.data.toList = true) {W' H' T' : Nat} (hf : AtF ps W H T C A B W' H' T') : IsPos W' H' C T' A B := by
  unfold atB posB at h
  simp only [Bool.and_eq_true] at h
  obtain ⟨⟨⟨⟨-, ⟨⟨⟨⟨-, -⟩, -, hcs⟩, -⟩, hA⟩, hB⟩, -⟩, -⟩, -⟩ := h
  exact ⟨hf.w1.1, hf.w1.2, hf.h1.1, hf.h1.2, hf.c, hcs, by have := hf.t1; omega, hA, hB⟩
theorem all_cells {C : ByteArray} {p : UInt8 → Bool} {n : Nat} (hC : C.size = n) : C.data.toList.all p = true ↔ ∀ i, i < n → p (C.get! i) = true := by
  rw [List.all_eq_true]
  constructor
  · intro h i hi
    exact h _ (List.mem_of_getElem? (cellN_list C i (by omega)).1)
  · intro h x hx
    obtain ⟨i, hi⟩ := List.getElem?_of_mem hx
    have hl : i < C.size := by
      have := (List.getElem?_eq_some_iff.1 hi).1
      simpa using this
    rw [(cellN_list C i hl).1] at hi
    rw [← Option.some.inj hi]
    exact h i (by omega)
theorem cellL_up {S : Nat} {a b : UInt8} (h46 : a.toNat = 46 ↔ b.toNat = 46) (hup : upN a.toNat = upN b.toNat) : cellL S a = cellL S b := by
  unfold cellL
  rw [hup]
  congr 1
  rw [Bool.eq_iff_iff, decide_eq_true_eq, decide_eq_true_eq]
  exact h46
/-- A board the other way is of the rules if the board is. -/
theorem at_sym {W0 H0 T0 : Int} {C0 A0 B0 : List UInt8} {ps : List Pc} {lo re : Nat} {li pl W H T : Int} {C A B : ByteArray} (h : atB W0 H0 C0 T0 A0 B0 ps lo li re pl W H C.data.toList T A.data.toList B.data.toList = true) {W' H' T' : Nat} (hf : AtF ps W H T C A B W' H' T')
    {T2 : Nat} {C' A' B' : ByteArray} {s : Nat → Nat} {ex ey : Int} (hs : Sym W' H' T' T2 C C' s ex ey) (hC' : C'.size = W' * H') (hv' : ∀ c, c < W' * H' → cellB (cellN C' c : Nat) = true ∧ cellN C' c < 256) (hT2 : T2 ≤ 1) (hAB : (A' = A ∧ B' = B) ∨ (A' = B ∧ B' = A)) :
    atB W0 H0 C0 T0 A0 B0 ps lo li re pl W H C'.data.toList T2 A'.data.toList B'.data.toList = true := by
  unfold atB posB allL at h ⊢
  simp only [Bool.and_eq_true, decide_eq_true_eq] at h ⊢
  obtain ⟨⟨⟨⟨h1, ⟨⟨⟨⟨hw, hh⟩, -, hcs⟩, -⟩, hA⟩, hB⟩, h2⟩, h3⟩, ⟨hl1, hl2⟩, hl3⟩ := h
  have hlen : ((C'.data.toList.length : Nat) : Int) = W * H := by
    rw [len_data, hC', hf.w, hf.h]; simp
  have hcs' : cellsB C'.data.toList = true := by
    unfold cellsB
    rw [all_cells hC']
    intro i hi
    exact (hv' i hi).1
  have hl1' : C'.data.toList.all (cellL (lettersS ps)) = true := by
    rw [all_cells hC']
    rw [all_cells hf.c] at hl1
    intro i hi
    have hsi := hs.lt i hi
    have e46 := hs.e46 (s i) hsi
    have eup := hs.up (s i) hsi
    rw [hs.inv i hi] at e46 eup
    rw [cellL_up (a := C'.get! i) (b := C.get! (s i)) e46 eup]
    exact hl1 (s i) hsi
  have ht : ((decide ((T2 : Int) = 0) || decide ((T2 : Int) = 1)) = true) := by
    simp only [Bool.or_eq_true, decide_eq_true_eq]; omega
  rcases hAB with ⟨rfl, rfl⟩ | ⟨rfl, rfl⟩
  · exact ⟨⟨⟨⟨h1, ⟨⟨⟨⟨hw, hh⟩, hlen, hcs'⟩, ht⟩, hA⟩, hB⟩, h2⟩, h3⟩, ⟨hl1', hl2⟩, hl3⟩
  · exact ⟨⟨⟨⟨h1, ⟨⟨⟨⟨hw, hh⟩, hlen, hcs'⟩, ht⟩, hB⟩, hA⟩, h2⟩, h3⟩, ⟨hl1', hl3⟩, hl2⟩
end Go.Proofs.YtlogengkhlmcbaaGreatDoor

namespace Go.Proofs.YtlogengkhlmcbaaGreatDoor
open Go.RowKit

/-! Hands. -/
theorem caps_of : ∀ (h : List UInt8) (m : Int), Ord h → (∀ a ∈ h, m ≤ a.toNat ∧ capB a.toNat = true) → capsB m h = true
  | [], _, _, _ => rfl
  | a :: t, m, ho, hc => by
    obtain ⟨h1, h2⟩ := List.pairwise_cons.1 ho
    rw [capsB, Bool.and_eq_true, Bool.and_eq_true]
    refine ⟨⟨(hc a (by simp)).2, decide_eq_true (hc a (by simp)).1⟩, caps_of t a.toNat h2 (fun b hb => ⟨?_, (hc b (by simp [hb])).2⟩)⟩
    have := UInt8.le_iff_toNat_le.1 (h1 b hb)
    omega
theorem hand_of {h : List UInt8} (hl : h.length ≤ 8) (ho : Ord h) (hc : ∀ a ∈ h, capB a.toNat = true) : handB h = true := by
  unfold handB
  rw [Bool.and_eq_true]
  refine ⟨decide_eq_true hl, caps_of h 65 ho (fun a ha => ⟨?_, hc a ha⟩)⟩
  have := hc a ha
  simp only [capB, Bool.and_eq_true, decide_eq_true_eq] at this
  exact this.1
theorem insL_mem {c b : UInt8} : ∀ {h : List UInt8}, b ∈ insL h c → b = c ∨ b ∈ h
  | [], hb => by rw [insL_nil] at hb; simp at hb; exact .inl hb
  | a :: t, hb => by
    by_cases hac : a < c
    · rw [insL_lt hac] at hb
      rcases List.mem_cons.1 hb with rfl | hb
      · exact .inr (by simp)
      · rcases insL_mem hb with h | h
        · exact .inl h
        · exact .inr (by simp [h])
    · rw [insL_ge hac] at hb
      rcases List.mem_cons.1 hb with rfl | hb
      · exact .inl rfl
      · exact .inr hb
theorem insL_ord {c : UInt8} : ∀ {h : List UInt8}, Ord h → Ord (insL h c)
  | [], _ => by rw [insL_nil]; exact List.pairwise_singleton _ _
  | a :: t, ho => by
    obtain ⟨h1, h2⟩ := List.pairwise_cons.1 ho
    by_cases hac : a < c
    · rw [insL_lt hac]
      refine List.pairwise_cons.2 ⟨fun b hb => ?_, insL_ord h2⟩
      rcases insL_mem hb with rfl | hb
      · rw [UInt8.le_iff_toNat_le]; rw [UInt8.lt_iff_toNat_lt] at hac; omega
      · exact h1 b hb
    · rw [insL_ge hac]
      refine List.pairwise_cons.2 ⟨fun b hb => ?_, ho⟩
      have hca : c ≤ a := by rw [UInt8.le_iff_toNat_le]; rw [UInt8.lt_iff_toNat_lt] at hac; omega
      rcases List.mem_cons.1 hb with rfl | hb
      · exact hca
      · have := h1 b hb
        rw [UInt8.le_iff_toNat_le] at this hca ⊢
        omega
theorem insL_len (h : List UInt8) (c : UInt8) : (insL h c).length = h.length + 1 := by
  unfold insL
  have h1 := congrArg List.length (List.take_append_drop (placeN h c) h)
  rw [List.length_append] at h1
  rw [List.length_append, List.length_cons]
  omega
theorem without_sub (h : List UInt8) (c : UInt8) : (withoutL h c).Sublist h := by
  unfold withoutL
  split
  · exact List.Sublist.refl _
  · generalize (Lib.indexByte h c).toNat = k
    have h1 : (h.drop (k + 1)).Sublist (h.drop k) := by
      rw [← List.drop_drop]
      exact List.drop_sublist _ _
    have := (List.Sublist.refl (h.take k)).append h1
    rwa [List.take_append_drop] at this
/-- A hand of letters of the rules. -/
structure HandS (S : Nat) (h : List UInt8) : Prop where
  len : h.length ≤ 8
  ord : Ord h
  mem : ∀ a ∈ h, hasL S (a.toNat : Nat) = true
theorem HandS.sub {S : Nat} {h h' : List UInt8} (hh : HandS S h) (hs : h'.Sublist h) : HandS S h' :=
  ⟨Nat.le_trans hs.length_le hh.len, hh.ord.sublist hs, fun a ha => hh.mem a (hs.subset ha)⟩
theorem hasL_cap {S c : Nat} (h : hasL S (c : Nat) = true) : capB (c : Int) = true := by
  unfold hasL at h
  simp only [Bool.and_eq_true] at h
  exact h.1
theorem HandS.handB {S : Nat} {h : List UInt8} (hh : HandS S h) : handB h = true := hand_of hh.len hh.ord (fun a ha => hasL_cap (hh.mem a ha))
theorem behH_hand {S : Nat} {C h : List UInt8} {dr : Bool} {f : Int} {t : Nat} {c : UInt8} (hh : HandS S h) (hk : (cellsA C f)[t]! = 46 ∨ hasL S (upN ((cellsA C f)[t]!).toNat : Nat) = true) : HandS S (behH C h dr f t c) := by
  have h1 : HandS S (handA h f c) := by
    unfold handA
    split
    · exact hh.sub (without_sub h c)
    · exact hh
  unfold behH handB'
  split
  · rename_i h2
    have hk2 : hasL S (upN ((cellsA C f)[t]!).toNat : Nat) = true := by
      rcases hk with h | h
      · exact absurd h h2.1
      · exact h
    have h256 := (up_andNot _ (UInt8.toNat_lt (cellsA C f)[t]!)).2
    unfold withL
    split
    · exact h1
    · rename_i h8
      rw [isort_ins _ _ h1.ord]
      refine ⟨by rw [insL_len]; have := h1.len; omega, insL_ord h1.ord, fun a ha => ?_⟩
      rcases insL_mem ha with rfl | ha
      · rw [u8_back h256]; exact hk2
      · exact h1.mem a ha
  · exact h1

/-! Cells. -/
theorem cap_cell : ∀ c : Nat, c < 256 → capB (c : Int) = true → cellB (letN 0 c : Nat) = true ∧ cellB (letN 1 c : Nat) = true ∧ upN (letN 0 c) = c ∧ upN (letN 1 c) = c := by decide +kernel
theorem cap_let {T c : Nat} (hT : T ≤ 1) (hc : c < 256) (h : capB (c : Int) = true) : cellB (letN T c : Nat) = true ∧ upN (letN T c) = c := by
  obtain ⟨h1, h2, h3, h4⟩ := cap_cell c hc h
  rcases (by omega : T = 0 ∨ T = 1) with rfl | rfl
  · exact ⟨h1, h3⟩
  · exact ⟨h2, h4⟩
theorem beh_mem {C : List UInt8} {f : Int} {t : Nat} {x a : UInt8} (h : a ∈ behC C f t x) : a ∈ C ∨ a = 46 ∨ a = x := by
  unfold behC cellsA at h
  rcases List.mem_or_eq_of_mem_set h with h | h
  · split at h
    · exact .inl h
    · rcases List.mem_or_eq_of_mem_set h with h | h
      · exact .inl h
      · exact .inr (.inl h)
  · exact .inr (.inr h)
theorem cellsA_at {C : List UInt8} {f : Int} {t : Nat} (ht : t < C.length) : (cellsA C f)[t]! = 46 ∨ (cellsA C f)[t]! ∈ C := by
  have hl : t < (cellsA C f).length := by unfold cellsA; split <;> simpa using ht
  have hm : (cellsA C f)[t]! ∈ cellsA C f := by rw [getElem!_pos (cellsA C f) t hl]; exact List.getElem_mem hl
  generalize (cellsA C f)[t]! = a at *
  unfold cellsA at hm
  split at hm
  · exact .inr hm
  · rcases List.mem_or_eq_of_mem_set hm with h | h
    · exact .inr h
    · exact .inl h

/-- What comes behind a move is a position of the rules. -/
theorem at_beh {W0 H0 T0 : Int} {C0 A0 B0 : List UInt8} {ps : List Pc} {lo re : Nat} {li pl : Int} {p : Po} {dr : Bool} (h : atB W0 H0 C0 T0 A0 B0 ps lo li re pl p.W p.H p.C.data.toList p.T p.A.data.toList p.B.data.toList = true) {m : Mv} (hm : m ∈ movP ps dr lo li re p) :
    atB W0 H0 C0 T0 A0 B0 ps lo li re pl (behP dr p m).W (behP dr p m).H (behP dr p m).C.data.toList (behP dr p m).T (behP dr p m).A.data.toList (behP dr p m).B.data.toList = true := by
  obtain ⟨W', H', T', hf⟩ := at_facts h
  rw [hf.movs] at hm
  have hmv := mov_is hm
  obtain ⟨f1, f2, f3⟩ := hmv.facts
  have ht1 := hf.t1
  have hTn : p.T.toNat = T' := by rw [hf.t]; rfl
  unfold atB posB allL at h ⊢
  simp only [Bool.and_eq_true, decide_eq_true_eq] at h ⊢
  obtain ⟨⟨⟨⟨hr, ⟨⟨⟨⟨hw, hh⟩, hlen, hcs⟩, -⟩, hA⟩, hB⟩, hw0⟩, hh0⟩, ⟨hl1, hl2⟩, hl3⟩ := h
  generalize lettersS ps = S at *
  have hAS : HandS S p.A.data.toList := ⟨by rw [len_data]; exact hf.a, (hand_ord hA).1, fun a ha => List.all_eq_true.1 hl2 a ha⟩
  have hBS : HandS S p.B.data.toList := ⟨by rw [len_data]; exact hf.b, (hand_ord hB).1, fun a ha => List.all_eq_true.1 hl3 a ha⟩
  have hcl : ∀ a ∈ p.C.data.toList, a = 46 ∨ hasL S (upN a.toNat : Nat) = true := fun a ha => by
    have := List.all_eq_true.1 hl1 a ha
    unfold cellL at this
    simp only [Bool.or_eq_true, decide_eq_true_eq] at this
    rcases this with h | h
    · exact .inl (UInt8.toNat_inj.1 h)
    · exact .inr h
  have hget : ∀ i, i < p.C.size → ∃ a ∈ p.C.data.toList, a.toNat = cellN p.C i := fun i hi => by
    refine ⟨p.C.get! i, ?_, rfl⟩
    have hi' : i < p.C.data.size := hi
    have e1 : p.C.get! i = p.C.data[i] := by
      show p.C.data.get!Internal i = _
      exact getElem!_pos p.C.data i hi'
    rw [e1]
    exact Array.mem_toList_iff.2 (Array.getElem_mem hi')
  -- the letter of the piece that moves
  have hcS : hasL S (m.c : Nat) = true := by
    cases hmv with
    | drop h1 h2 h3 h4 h5 =>
      obtain ⟨a, ha, e⟩ := h5
      rw [e]
      unfold handOf at ha
      split at ha
      · exact hAS.mem a ha
      · exact hBS.mem a ha
    | go fr h1 h2 h3 h4 h5 h6 =>
      obtain ⟨a, ha, e⟩ := hget fr h2
      rw [h5, ← e]
      rcases hcl a ha with h | h
      · rw [← e, h] at h4
        simp [ownB] at h4
      · exact h
  have hcap := hasL_cap hcS
  obtain ⟨q1, q2⟩ := cap_let ht1 f3 hcap
  have hx : ((letN T' m.c).toUInt8).toNat = letN T' m.c := u8_back (letN_lt f3)
  have hk : (cellsA p.C.data.toList m.f)[m.t]! = 46 ∨ hasL S (upN ((cellsA p.C.data.toList m.f)[m.t]!).toNat : Nat) = true := by
    rcases cellsA_at (C := p.C.data.toList) (f := m.f) (t := m.t) (by rw [len_data]; exact f1) with h | h
    · exact .inl h
    · exact hcl _ h
  have hqA : HandS S (behP dr p m).A.data.toList := by
    unfold behP
    dsimp only
    split
    · exact behH_hand hAS hk
    · exact hAS
  have hqB : HandS S (behP dr p m).B.data.toList := by
    unfold behP
    dsimp only
    split
    · exact hBS
    · exact behH_hand hBS hk
  have hqC : ∀ a ∈ (behP dr p m).C.data.toList, a ∈ p.C.data.toList ∨ a = 46 ∨ a = (letN T' m.c).toUInt8 := fun a ha => by
    have : a ∈ behC p.C.data.toList m.f m.t (letN p.T.toNat m.c).toUInt8 := ha
    rw [hTn] at this
    exact beh_mem this
  refine ⟨⟨⟨⟨hr, ⟨⟨⟨⟨hw, hh⟩, ?_, ?_⟩, ?_⟩, hqA.handB⟩, hqB.handB⟩, hw0⟩, hh0⟩, ⟨?_, ?_⟩, ?_⟩
  · show ((behC p.C.data.toList m.f m.t (letN p.T.toNat m.c).toUInt8).length : Int) = p.W * p.H
    rw [behC_len]
    exact hlen
  · unfold cellsB at hcs ⊢
    rw [List.all_eq_true] at hcs ⊢
    intro a ha
    rcases hqC a ha with h | rfl | rfl
    · exact hcs a h
    · decide
    · rw [hx]; exact q1
  · show (decide (1 - p.T = 0) || decide (1 - p.T = 1)) = true
    rw [hf.t]
    simp only [Bool.or_eq_true, decide_eq_true_eq]
    omega
  · rw [List.all_eq_true]
    intro a ha
    rcases hqC a ha with h | rfl | rfl
    · exact List.all_eq_true.1 hl1 a h
    · simp [cellL]
    · unfold cellL; rw [hx, q2, hcS]; simp
  · rw [List.all_eq_true]; exact hqA.mem
  · rw [List.all_eq_true]; exact hqB.mem
end Go.Proofs.YtlogengkhlmcbaaGreatDoor
