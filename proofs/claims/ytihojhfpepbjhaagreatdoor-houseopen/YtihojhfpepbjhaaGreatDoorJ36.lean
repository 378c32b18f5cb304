/-
  Lines of a house, in plain form: what is saved is opened again.
  What is saved is opened again, wherever it is cut.
-/
import Derived.Test.YtihojhfpepbjhaaGreatDoorJ25
import Derived.Lib.Index
import Derived.Lib.IndexLaws
namespace Go.Proofs.YtihojhfpepbjhaaGreatDoor
open Go.RowKit

theorem cut_hit {c : UInt8} {l : List UInt8} (r : List UInt8) (h : c ∉ l) : Lib.cut (l ++ c :: r) [c] = (l, r, true) := by
  have hi : Lib.index (l ++ c :: r) [c] = l.length := Lib.index_first (by simp) (by unfold Lib.occAt; simp) (fun j hj => by
    rw [Bool.eq_false_iff]
    intro ho
    have := Lib.occAt_head rfl ho
    rw [List.getElem?_append_left hj] at this
    exact h (List.mem_of_getElem? this))
  unfold Lib.cut
  rw [hi, if_pos (by omega)]
  simp
theorem cut_miss {c : UInt8} {l : List UInt8} (h : c ∉ l) : Lib.cut l [c] = (l, [], false) := by
  have hi : Lib.index l [c] = -1 := Lib.index_none (fun j _ => by
    rw [Bool.eq_false_iff]
    intro ho
    exact h (List.mem_of_getElem? (Lib.occAt_head rfl ho)))
  unfold Lib.cut
  rw [hi]
  rfl
theorem itoa_no (n : Int) (h : 0 ≤ n) (c : UInt8) (hc : c.toNat < 48) : c ∉ Lib.itoa n := by
  rw [itoa_nat n h]
  intro hm
  have := dec_digit _ _ hm
  omega
/-- A line without its end. -/
def lnL (ply n : Int) (mv : List UInt8) : List UInt8 := Lib.itoa ply ++ 32 :: (Lib.itoa n ++ 32 :: mv)
theorem lineX_L (ply n : Int) (mv : List UInt8) : lineX ply n ⟨mv.toArray⟩ = ⟨(lnL ply n mv).toArray⟩ ++ ⟨#[10]⟩ := by
  apply ByteArray.ext
  apply Array.ext'
  unfold lineX lnL itoaB
  simp [ByteArray.data_append]
theorem msg_lnL (ply n : Int) (mv : List UInt8) (h1 : 0 ≤ ply ∧ ply < 9223372036854775808) (h2 : 0 ≤ n ∧ n < 9223372036854775808) : msgOf (lnL ply n mv) = some (ply, n, mv) := by
  unfold msgOf lnL
  rw [cut_hit _ (itoa_no ply h1.1 32 (by decide))]
  dsimp only
  rw [cut_hit _ (itoa_no n h2.1 32 (by decide)), atoi_itoa ply h1]
  dsimp only
  rw [atoi_itoa n h2]
theorem lnL_no (ply n : Int) (mv : List UInt8) (h1 : 0 ≤ ply) (h2 : 0 ≤ n) (h : (10 : UInt8) ∉ mv) : (10 : UInt8) ∉ lnL ply n mv := by
  unfold lnL
  simp only [List.mem_append, List.mem_cons, not_or]
  exact ⟨itoa_no ply h1 10 (by decide), by decide, itoa_no n h2 10 (by decide), by decide, h⟩
theorem goX_now (y : Ho) (n : Int) (h : y.now ≤ n) : (y.go n).now = n := by
  unfold Ho.go
  split
  · split <;> rfl
  · show y.now = n
    omega
theorem goX_go (y : Ho) (n a : Int) (h : y.now ≤ n) : (y.go n).go a = y.go (if n < a then a else n) := by
  obtain ⟨p, ply, l0, l1, now, flag, tx⟩ := y
  dsimp only at h
  unfold Ho.go
  dsimp only
  by_cases h1 : now < n
  · by_cases h2 : n < a
    · have h3 : now < a := by omega
      by_cases h4 : p.T = 0
      · simp [h1, h2, h3, h4]
        omega
      · simp [h1, h2, h3, h4]
        omega
    · by_cases h4 : p.T = 0
      · simp [h1, h2, h4]
      · simp [h1, h2, h4]
  · obtain rfl : n = now := by omega
    by_cases h2 : n < a
    · simp [h2]
    · simp [h2]
theorem goX_self (y : Ho) : y.go y.now = y := by
  unfold Ho.go
  rw [if_neg (by omega)]
/-- The one house is the other, but for time that went by. -/
structure Rl (x y : Ho) : Prop where
  p : x.p = y.p
  ply : x.ply = y.ply
  tx : x.tx = y.tx
  yf : y.flag = 0
  le : y.now ≤ x.now
  x : x.flag = 0 → x = y.go x.now
theorem Rl.self {y : Ho} (h : y.flag = 0) : Rl y y := ⟨rfl, rfl, rfl, h, Int.le_refl _, fun _ => (goX_self y).symm⟩
theorem rl_step {G : Gm} {ok : Po → Prop} (hG : G.Ok ok) (hnl : ∀ p, ok p → ∀ m ∈ G.L p, (10 : UInt8) ∉ G.tx p m) {x y : Ho} (hx : HoI G ok x) (r : Rl x y) (m : Ms) (ha : m.at_ < 9223372036854775808) :
    Rl (G.step x m).1 y ∨ ((G.step x m).1.flag = 0 ∧ ∃ l : List UInt8, (10 : UInt8) ∉ l ∧ G.line y ⟨l.toArray⟩ = some (G.step x m).1) := by
  have hI := hx.step hG ha
  by_cases he : G.ended x = 0
  · have hf := ended_flag he hx.flag.1
    have hxe := r.x hf
    obtain ⟨z, hz⟩ : ∃ z, z = x.go m.at_ := ⟨_, rfl⟩
    have zp : z.p = x.p := by rw [hz, Ho.go_p]
    have zy : z.ply = x.ply := by rw [hz, Ho.go_ply]
    have zf : z.flag = x.flag := by rw [hz, Ho.go_flag]
    have zt : z.tx = x.tx := by rw [hz, Ho.go_tx]
    have hzy : z = y.go (if x.now < m.at_ then m.at_ else x.now) := by
      rw [hz]
      conv => lhs; rw [hxe]
      rw [goX_go y x.now m.at_ r.le]
    have hle := r.le
    have hzn : z.now = if x.now < m.at_ then m.at_ else x.now := by
      rw [hzy]
      exact goX_now y _ (by split <;> omega)
    have hzl : y.now ≤ z.now := by rw [hzn]; split <;> omega
    rw [← hzn] at hzy
    have hRz : Rl z y := ⟨zp.trans r.p, zy.trans r.ply, zt.trans r.tx, r.yf, hzl, fun _ => hzy⟩
    have hT := hG.t _ hx.p
    unfold Gm.step at hI ⊢
    rw [if_neg (by simp [he]), ← hz] at hI ⊢
    by_cases h2 : z.left < 0
    · rw [if_pos h2]
      refine Or.inl ⟨hRz.p, hRz.ply, hRz.tx, r.yf, hzl, fun h => ?_⟩
      exfalso
      have : (2 : Int) - x.p.T = 0 := h
      omega
    · rw [if_neg h2] at hI ⊢
      by_cases h3 : m.ply = x.ply
      · rw [if_neg (by simp [h3])] at hI ⊢
        by_cases h4 : m.seat = x.p.T
        · rw [if_neg (by simp [h4])] at hI ⊢
          cases hq : G.find x.p m.mv with
          | none => exact Or.inl hRz
          | some q =>
            rw [hq] at hI
            obtain ⟨hqm, hqt⟩ := Gm.find_mem hq
            refine Or.inr ⟨zf.trans hf, lnL x.ply z.now m.mv.data.toList, ?_, ?_⟩
            · exact lnL_no _ _ _ hx.ply.1 hI.now.1 (by rw [← hqt]; exact hnl _ hx.p q hqm)
            · have hpl := hG.pl
              have hye : G.ended y = 0 := by
                rw [← he]
                unfold Gm.ended
                rw [r.p, r.ply, r.yf, hf]
              have hmv : (⟨m.mv.data.toList.toArray⟩ : ByteArray) = m.mv := rfl
              have hst : G.step y ⟨y.p.T, x.ply, m.mv, z.now⟩ = ({ z with p := G.beh x.p q, ply := x.ply + 1, tx := x.tx ++ lineX x.ply z.now m.mv }, 1) := by
                unfold Gm.step
                rw [if_neg (by simp [hye]), ← hzy, if_neg h2, if_neg (by simp [r.ply]), if_neg (by simp), ← r.p, hq, ← r.ply, ← r.tx]
              unfold Gm.line
              rw [show (⟨(lnL x.ply z.now m.mv.data.toList).toArray⟩ : ByteArray).data.toList = lnL x.ply z.now m.mv.data.toList from rfl, msg_lnL _ _ _ ⟨hx.ply.1, by have := hx.ply.2; omega⟩ hI.now]
              dsimp only
              rw [hmv, hst, if_pos ⟨rfl, by rw [← lineX_L]⟩]
        · rw [if_pos h4]
          exact Or.inl hRz
      · rw [if_pos h3]
        exact Or.inl hRz
  · left
    unfold Gm.step
    rw [if_pos he]
    exact r
end Go.Proofs.YtihojhfpepbjhaaGreatDoor

namespace Go.Proofs.YtihojhfpepbjhaaGreatDoor
open Go.RowKit

/-- Lines, one behind another, each taken. -/
def Rp (G : Gm) : Ho → List (List UInt8) → Ho → Prop
  | x, [], y => x = y
  | x, l :: ls, y => (10 : UInt8) ∉ l ∧ ∃ z, G.line x ⟨l.toArray⟩ = some z ∧ Rp G z ls y
def flatL (ls : List (List UInt8)) : List UInt8 := ls.flatMap fun l => l ++ [10]
theorem flatL_cons (l : List UInt8) (ls : List (List UInt8)) : flatL (l :: ls) = l ++ 10 :: flatL ls := by
  unfold flatL
  rw [List.flatMap_cons]
  simp
theorem flatL_len : ∀ ls : List (List UInt8), ls.length ≤ (flatL ls).length
  | [] => Nat.zero_le _
  | l :: ls => by
    have := flatL_len ls
    rw [flatL_cons, List.length_append, List.length_cons, List.length_cons]
    omega
theorem Rp.no {G : Gm} : ∀ (ls : List (List UInt8)) {x y : Ho}, Rp G x ls y → ∀ l ∈ ls, (10 : UInt8) ∉ l
  | [], _, _, _, _, h => by cases h
  | l :: ls, _, _, ⟨h1, z, _, h3⟩, q, hq => by
    rcases List.mem_cons.1 hq with rfl | hq
    · exact h1
    · exact Rp.no ls h3 q hq
theorem Rp.snoc {G : Gm} : ∀ (ls : List (List UInt8)) {x y z : Ho} {l : List UInt8}, Rp G x ls y → (10 : UInt8) ∉ l → G.line y ⟨l.toArray⟩ = some z → Rp G x (ls ++ [l]) z
  | [], _, _, _, _, h, h1, h2 => by
    have h : _ = _ := h
    subst h
    exact ⟨h1, _, h2, rfl⟩
  | _ :: ls, _, _, _, _, ⟨a, z, b, c⟩, h1, h2 => ⟨a, z, b, Rp.snoc ls c h1 h2⟩
theorem Rp.split {G : Gm} : ∀ (a : List (List UInt8)) {b : List (List UInt8)} {x y : Ho}, Rp G x (a ++ b) y → ∃ z, Rp G x a z ∧ Rp G z b y
  | [], _, x, _, h => ⟨x, rfl, h⟩
  | _ :: a, _, _, _, ⟨h1, z, h2, h3⟩ => by
    obtain ⟨u, h4, h5⟩ := Rp.split a h3
    exact ⟨u, ⟨h1, z, h2, h4⟩, h5⟩
theorem line_tx {G : Gm} {x y : Ho} {l : ByteArray} (h : G.line x l = some y) : y.tx = x.tx ++ (l ++ ⟨#[10]⟩) ∧ y.ply = x.ply + 1 := by
  unfold Gm.line at h
  split at h
  · cases h
  · rename_i p a mv hm
    split at h
    · rename_i hc
      injection h with h
      obtain ⟨h1, h2⟩ := hc
      obtain ⟨-, hp, -, -, q, -, he⟩ := step_done h1
      dsimp only at hp he
      rw [← h, ← h2, he]
      rw [hp]
      exact ⟨rfl, rfl⟩
    · cases h
theorem Rp.tx {G : Gm} : ∀ (ls : List (List UInt8)) {x y : Ho}, Rp G x ls y → y.tx.data.toList = x.tx.data.toList ++ flatL ls ∧ y.ply = x.ply + ls.length
  | [], _, _, h => by
    have h : _ = _ := h
    subst h
    simp [flatL]
  | l :: ls, x, y, ⟨_, z, h2, h3⟩ => by
    obtain ⟨h4, h5⟩ := Rp.tx ls h3
    obtain ⟨h6, h7⟩ := line_tx h2
    refine ⟨?_, by rw [h5, h7, List.length_cons]; omega⟩
    rw [h4, h6, flatL_cons]
    simp [ByteArray.data_append]
theorem open_stop {G : Gm} (f : Nat) (y : Ho) {r : List UInt8} (h : (10 : UInt8) ∉ r) : G.open_ f y r = y := by
  cases f with
  | zero => rw [Gm.open_]
  | succ f =>
    rw [Gm.open_, cut_miss h]
    rfl
theorem open_Rp {G : Gm} : ∀ (ls : List (List UInt8)) (f : Nat) {x y : Ho} (r : List UInt8), Rp G x ls y → G.open_ (ls.length + f) x (flatL ls ++ r) = G.open_ f y r
  | [], f, x, y, r, h => by
    have h : _ = _ := h
    subst h
    simp [flatL]
  | l :: ls, f, x, y, r, ⟨h1, z, h2, h3⟩ => by
    have ih := open_Rp ls f r h3
    rw [List.length_cons, show ls.length + 1 + f = (ls.length + f) + 1 by omega, Gm.open_, flatL_cons, List.append_assoc, List.cons_append, cut_hit _ h1]
    dsimp only
    rw [if_pos rfl, h2]
    exact ih
theorem take_flat : ∀ (ls : List (List UInt8)) (k : Nat), (∀ l ∈ ls, (10 : UInt8) ∉ l) → ∃ j r, j ≤ ls.length ∧ (flatL ls).take k = flatL (ls.take j) ++ r ∧ (10 : UInt8) ∉ r
  | [], k, _ => ⟨0, [], Nat.le_refl _, by simp [flatL], by simp⟩
  | l :: ls, k, h => by
    by_cases hk : k ≤ l.length
    · refine ⟨0, l.take k, Nat.zero_le _, ?_, fun hm => h l (by simp) (List.mem_of_mem_take hm)⟩
      rw [flatL_cons, List.take_append_of_le_length hk]
      simp [flatL]
    · obtain ⟨j, r, h1, h2, h3⟩ := take_flat ls (k - (l.length + 1)) (fun q hq => h q (by simp [hq]))
      refine ⟨j + 1, r, by rw [List.length_cons]; omega, ?_, h3⟩
      rw [List.take_succ_cons, flatL_cons, flatL_cons, List.take_append, List.take_of_length_le (by omega), show k - l.length = (k - (l.length + 1)) + 1 by omega, List.take_succ_cons, h2]
      simp
theorem rl_run {G : Gm} {ok : Po → Prop} (hG : G.Ok ok) (hnl : ∀ p, ok p → ∀ m ∈ G.L p, (10 : UInt8) ∉ G.tx p m) {x0 : Ho} : ∀ (ml : List Ms) {x y : Ho} {ls : List (List UInt8)}, HoI G ok x → Rl x y → Rp G x0 ls y → (∀ m ∈ ml, m.at_ < 9223372036854775808) → ∃ ls' y', Rp G x0 ls' y' ∧ Rl (G.run x ml) y'
  | [], _, y, ls, _, r, p, _ => ⟨ls, y, p, r⟩
  | m :: ml, x, y, ls, hx, r, p, h => by
    have ha := h m (by simp)
    have hI := hx.step hG ha
    rcases rl_step hG hnl hx r m ha with h1 | ⟨h1, l, h2, h3⟩
    · exact rl_run hG hnl ml hI h1 p (fun q hq => h q (by simp [hq]))
    · exact rl_run hG hnl ml hI (Rl.self h1) (Rp.snoc ls p h2 h3) (fun q hq => h q (by simp [hq]))
/-- Wherever what is saved is cut: the whole lines are opened, and what is saved then, opened again, is the same. -/
theorem opened {G : Gm} {ok : Po → Prop} (hG : G.Ok ok) (hnl : ∀ p, ok p → ∀ m ∈ G.L p, (10 : UInt8) ∉ G.tx p m) {p : Po} (hp : ok p) {time : Int} (ht : 1 ≤ time ∧ time ≤ 1000000) (ml : List Ms) (hma : ∀ m ∈ ml, m.at_ < 9223372036854775808) (k : Nat) :
    ∃ L r y, (∀ l ∈ L, (10 : UInt8) ∉ l) ∧ (10 : UInt8) ∉ r ∧ (G.run (startX p time) ml).tx.data.toList.take k = flatL L ++ r ∧ (∀ f, L.length ≤ f → G.open_ f (startX p time) (flatL L ++ r) = y) ∧ (∀ f, L.length ≤ f → G.open_ f (startX p time) (flatL L) = y) ∧ y.tx.data.toList = flatL L ∧ y.ply = L.length := by
  obtain ⟨ls, y, h1, h2⟩ := rl_run hG hnl (x0 := startX p time) ml (start_I hG hp ht) (Rl.self rfl) (ls := []) rfl hma
  have h3 := (Rp.tx ls h1).1
  rw [show (startX p time).tx.data.toList = [] from rfl, List.nil_append] at h3
  have hn := Rp.no ls h1
  obtain ⟨j, r, hj, h4, h5⟩ := take_flat ls k hn
  rw [← List.take_append_drop j ls] at h1
  obtain ⟨z, h6, -⟩ := Rp.split _ h1
  obtain ⟨h7, h8⟩ := Rp.tx _ h6
  rw [show (startX p time).tx.data.toList = [] from rfl, List.nil_append] at h7
  rw [show (startX p time).ply = 0 from rfl] at h8
  refine ⟨ls.take j, r, z, fun l hl => hn l (List.mem_of_mem_take hl), h5, by rw [h2.tx, h3]; exact h4, fun f hf => ?_, fun f hf => ?_, h7, by omega⟩
  · obtain ⟨g, rfl⟩ : ∃ g, f = (ls.take j).length + g := ⟨f - (ls.take j).length, by omega⟩
    rw [open_Rp _ g r h6]
    exact open_stop g z h5
  · obtain ⟨g, rfl⟩ : ∃ g, f = (ls.take j).length + g := ⟨f - (ls.take j).length, by omega⟩
    have := open_Rp _ g [] h6
    rw [List.append_nil] at this
    rw [this]
    exact open_stop g z (by simp)
/-- What the law counts: where the last whole line ends, and the lines. -/
def wlF : Nat → List UInt8 → Nat × Nat → Nat × Nat
  | _, [], s => s
  | i, c :: t, s => wlF (i + 1) t (if c = 10 then (i + 1, s.2 + 1) else s)
theorem wlF_no : ∀ (r : List UInt8) (i : Nat) (s : Nat × Nat), (10 : UInt8) ∉ r → wlF i r s = s
  | [], _, _, _ => rfl
  | c :: t, i, s, h => by
    rw [wlF, if_neg (fun e => h (by simp [e]))]
    exact wlF_no t (i + 1) s (fun hm => h (by simp [hm]))
theorem wlF_app : ∀ (l t : List UInt8) (i : Nat) (s : Nat × Nat), (10 : UInt8) ∉ l → wlF i (l ++ t) s = wlF (i + l.length) t s
  | [], _, _, _, _ => by simp
  | c :: l, t, i, s, h => by
    rw [List.cons_append, wlF, if_neg (fun e => h (by simp [e])), wlF_app l t (i + 1) s (fun hm => h (by simp [hm])), List.length_cons]
    congr 1
    omega
theorem wlF_flat : ∀ (L : List (List UInt8)) (r : List UInt8) (i : Nat) (s : Nat × Nat), (∀ l ∈ L, (10 : UInt8) ∉ l) → (10 : UInt8) ∉ r → wlF i (flatL L ++ r) s = (if L = [] then s.1 else i + (flatL L).length, s.2 + L.length)
  | [], r, i, s, _, hr => by
    rw [show flatL [] = [] from rfl, List.nil_append, wlF_no r i s hr]
    rfl
  | l :: L, r, i, s, h, hr => by
    rw [flatL_cons, List.append_assoc, List.cons_append, wlF_app _ _ _ _ (h l (by simp)), wlF, if_pos rfl, wlF_flat L r _ _ (fun q hq => h q (by simp [hq])) hr]
    simp only [List.length_append, List.length_cons, reduceCtorEq, if_false]
    split
    · rename_i e
      subst e
      simp [flatL]
      omega
    · simp
      omega
end Go.Proofs.YtihojhfpepbjhaaGreatDoor
