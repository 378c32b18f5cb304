/-
  gameref.Players, walked.
-/
import Derived.Test.YtppkejblhkbkjaaZ23
namespace Go.Proofs.Ytppkejblhkbkjaa
open Go.RowKit Tu
attribute [local go_sem ↓] Go.wp_at_zero Go.wp_at_succ

/-- What Players tells. -/
def plB (n : Int) (l : List (Int × Int)) : Bool := fldB n && l.all (okTw n)
theorem plB_next {n : Int} {l : List (Int × Int)} {i : Nat} {z : Int × Int} (h : l[i]? = some z) (hp : plB n (l.take i) = true) : plB n (l.take (i + 1)) = okTw n z := by
  unfold plB at hp ⊢
  simp only [Bool.and_eq_true] at hp
  rw [List.take_add_one, h, List.all_append, hp.1, hp.2]
  simp
theorem plB_off {n : Int} {l : List (Int × Int)} {i : Nat} (hp : plB n (l.take i) = false) : plB n l = false := by
  unfold plB at hp ⊢
  cases hf : fldB n with
  | false => rfl
  | true =>
    rw [hf] at hp
    simp only [Bool.true_and] at hp ⊢
    cases ha : l.all (okTw n) with
    | false => rfl
    | true =>
      rw [List.all_eq_true] at ha
      rw [List.all_eq_true.2 (fun x hx => ha x (List.mem_of_mem_take hx))] at hp
      cases hp

set_option maxHeartbeats 4000000 in
set_option maxRecDepth 100000 in
theorem rPlayers_any (n : Int) (l : List (Int × Int)) (ao : Option Addr) (cap : Nat) (w : World) (h : isTw w w.heap.size ao cap l) :
    Calls Try.prog 15 #[.int .i64 n, .slice ao l.length cap] w fun e w' => e = .returned (.bool (plB n l)) ∧ Below w.heap.size w w' := by
  have hle := h.le
  have hmx := h.mx
  unfold maxLen at hmx
  obtain ⟨L, hL⟩ : ∃ L, L = l.length := ⟨_, rfl⟩
  rw [← hL] at hle ⊢
  obtain ⟨R, hR⟩ : ∃ R, R = plB n l := ⟨_, rfl⟩
  rw [← hR]
  have HL := hide hL
  have HR := hide hR
  have HH := hide h
  clear hL hR h
  obtain ⟨q, hq⟩ : ∃ q, n.tmod 2 = q := ⟨_, rfl⟩
  have HST0 : Hid (∀ b, b = fldB n → b = plB n (l.take 0) ∧ Below w.heap.size w w) := hide (fun b hb => ⟨by rw [hb]; simp [plB], Below.refl _ _⟩)
  by_cases g1 : 0 ≤ n
  · by_cases g2 : n ≤ 60
    · by_cases g3 : q = 0
      · have hqb : (q == 0) = true := by simp [g3]
        have HST := hide (unhide HST0 true (by unfold fldB; rw [hq]; simp [g1, g2, g3]))
        clear g3 HST0
        go_enter Try.func15, Try.ntmps15
        go_wp2
        go_loopw [5, 6] (fun ov iv wr => ∃ (i : Nat) (b : Bool), i ≤ L ∧ ov = .bool b ∧ iv = .int .i64 (i : Int) ∧ Hid (b = plB n (l.take i) ∧ Below w.heap.size w wr)) (fun _ iv _ => L - (intOf iv).toNat)
        case atStart => exact ⟨0, _, Nat.zero_le _, rfl, rfl, HST⟩
        case round =>
          obtain ⟨i, b, hi, rfl, rfl, HI⟩ := hrel
          rename World => wr
          clear HST
          by_cases hil : i < L
          · have hii : (i : Int) < (L : Int) := by omega
            have hi0 : (0 : Int) ≤ (i : Int) := by omega
            cases b with
            | false =>
              have HE : Hid (R = false) := hide (by rw [unhide HR]; exact plB_off (unhide HI).1.symm)
              go_wp2
              go_ret
              exact ⟨ret_bool (by rw [unhide HE]), (unhide HI).2⟩
            | true =>
              obtain ⟨⟨za, zb⟩, hz⟩ : ∃ z, l[i]? = some z := ⟨l[i]'(by rw [← unhide HL]; exact hil), List.getElem?_eq_getElem _⟩
              obtain ⟨g, off, rfl, hg, c1, c2⟩ := ((unhide HH).below (unhide HI).2 (Nat.le_refl _)).at_ hz
              have hpl := (unhide HI).1.symm
              by_cases h1 : za = zb
              · have hb1 : (za == zb) = true := by simp [h1]
                have HN : Hid (plB n (l.take (i + 1)) = false) := hide (by rw [plB_next hz hpl]; (unfold okTw; simp; intros; omega))
                clear hz hpl
                go_wp2_with fail
                go_quiet (fail)
                have HBQ := hide (below_drewN (unhide HI).2 nq)
                clear c1 c2 HI
                generalize wr.drewN nq = wv at *
                go_wp2
                go_roundw
                case rel => exact ⟨i + 1, false, by omega, (by first | rfl | (simp_all; done)), by go_num, hide ⟨(unhide HN).symm, unhide HBQ⟩⟩
                case measure => simp only [intOf]; omega
              · have hb1 : (za == zb) = false := by simpa using h1
                by_cases h2 : 0 ≤ za
                · by_cases h3 : 0 ≤ zb
                  · by_cases h4 : za < n
                    · by_cases h5 : zb < n
                      · have HN : Hid (plB n (l.take (i + 1)) = true) := hide (by rw [plB_next hz hpl]; (unfold okTw; simp; omega))
                        clear hz hpl
                        go_wp2_with fail
                        go_quiet (fail)
                        have HBQ := hide (below_drewN (unhide HI).2 nq)
                        clear c1 c2 HI
                        generalize wr.drewN nq = wv at *
                        go_wp2
                        go_roundw
                        case rel => exact ⟨i + 1, true, by omega, (by first | rfl | (simp_all; done)), by go_num, hide ⟨(unhide HN).symm, unhide HBQ⟩⟩
                        case measure => simp only [intOf]; omega
                      · have HN : Hid (plB n (l.take (i + 1)) = false) := hide (by rw [plB_next hz hpl]; (unfold okTw; simp; intros; omega))
                        clear hz hpl
                        go_wp2_with fail
                        go_quiet (fail)
                        have HBQ := hide (below_drewN (unhide HI).2 nq)
                        clear c1 c2 HI
                        generalize wr.drewN nq = wv at *
                        go_wp2
                        go_roundw
                        case rel => exact ⟨i + 1, false, by omega, (by first | rfl | (simp_all; done)), by go_num, hide ⟨(unhide HN).symm, unhide HBQ⟩⟩
                        case measure => simp only [intOf]; omega
                    · have HN : Hid (plB n (l.take (i + 1)) = false) := hide (by rw [plB_next hz hpl]; (unfold okTw; simp; intros; omega))
                      clear hz hpl
                      go_wp2_with fail
                      go_quiet (fail)
                      have HBQ := hide (below_drewN (unhide HI).2 nq)
                      clear c1 c2 HI
                      generalize wr.drewN nq = wv at *
                      go_wp2
                      go_roundw
                      case rel => exact ⟨i + 1, false, by omega, (by first | rfl | (simp_all; done)), by go_num, hide ⟨(unhide HN).symm, unhide HBQ⟩⟩
                      case measure => simp only [intOf]; omega
                  · have HN : Hid (plB n (l.take (i + 1)) = false) := hide (by rw [plB_next hz hpl]; (unfold okTw; simp; intros; omega))
                    clear hz hpl
                    go_wp2_with fail
                    go_quiet (fail)
                    have HBQ := hide (below_drewN (unhide HI).2 nq)
                    clear c1 c2 HI
                    generalize wr.drewN nq = wv at *
                    go_wp2
                    go_roundw
                    case rel => exact ⟨i + 1, false, by omega, (by first | rfl | (simp_all; done)), by go_num, hide ⟨(unhide HN).symm, unhide HBQ⟩⟩
                    case measure => simp only [intOf]; omega
                · have HN : Hid (plB n (l.take (i + 1)) = false) := hide (by rw [plB_next hz hpl]; (unfold okTw; simp; intros; omega))
                  clear hz hpl
                  go_wp2_with fail
                  go_quiet (fail)
                  have HBQ := hide (below_drewN (unhide HI).2 nq)
                  clear c1 c2 HI
                  generalize wr.drewN nq = wv at *
                  go_wp2
                  go_roundw
                  case rel => exact ⟨i + 1, false, by omega, (by first | rfl | (simp_all; done)), by go_num, hide ⟨(unhide HN).symm, unhide HBQ⟩⟩
                  case measure => simp only [intOf]; omega
          · obtain rfl : i = L := by omega
            have hii : ¬ (i : Int) < (i : Int) := by omega
            have HE : Hid (b = R) := hide (by
              have := (unhide HI).1
              rw [unhide HL, List.take_length] at this
              rw [unhide HR]; exact this)
            go_wp2
            go_ret
            exact ⟨ret_bool (unhide HE), (unhide HI).2⟩
      · have hqb : (q == 0) = false := by simpa using g3
        have HST := hide (unhide HST0 false (by unfold fldB; rw [hq]; simp [g3]))
        clear g3 HST0
        go_enter Try.func15, Try.ntmps15
        go_wp2
        go_loopw [5, 6] (fun ov iv wr => ∃ (i : Nat) (b : Bool), i ≤ L ∧ ov = .bool b ∧ iv = .int .i64 (i : Int) ∧ Hid (b = plB n (l.take i) ∧ Below w.heap.size w wr)) (fun _ iv _ => L - (intOf iv).toNat)
        case atStart => exact ⟨0, _, Nat.zero_le _, rfl, rfl, HST⟩
        case round =>
          obtain ⟨i, b, hi, rfl, rfl, HI⟩ := hrel
          rename World => wr
          clear HST
          by_cases hil : i < L
          · have hii : (i : Int) < (L : Int) := by omega
            have hi0 : (0 : Int) ≤ (i : Int) := by omega
            cases b with
            | false =>
              have HE : Hid (R = false) := hide (by rw [unhide HR]; exact plB_off (unhide HI).1.symm)
              go_wp2
              go_ret
              exact ⟨ret_bool (by rw [unhide HE]), (unhide HI).2⟩
            | true =>
              obtain ⟨⟨za, zb⟩, hz⟩ : ∃ z, l[i]? = some z := ⟨l[i]'(by rw [← unhide HL]; exact hil), List.getElem?_eq_getElem _⟩
              obtain ⟨g, off, rfl, hg, c1, c2⟩ := ((unhide HH).below (unhide HI).2 (Nat.le_refl _)).at_ hz
              have hpl := (unhide HI).1.symm
              by_cases h1 : za = zb
              · have hb1 : (za == zb) = true := by simp [h1]
                have HN : Hid (plB n (l.take (i + 1)) = false) := hide (by rw [plB_next hz hpl]; (unfold okTw; simp; intros; omega))
                clear hz hpl
                go_wp2_with fail
                go_quiet (fail)
                have HBQ := hide (below_drewN (unhide HI).2 nq)
                clear c1 c2 HI
                generalize wr.drewN nq = wv at *
                go_wp2
                go_roundw
                case rel => exact ⟨i + 1, false, by omega, (by first | rfl | (simp_all; done)), by go_num, hide ⟨(unhide HN).symm, unhide HBQ⟩⟩
                case measure => simp only [intOf]; omega
              · have hb1 : (za == zb) = false := by simpa using h1
                by_cases h2 : 0 ≤ za
                · by_cases h3 : 0 ≤ zb
                  · by_cases h4 : za < n
                    · by_cases h5 : zb < n
                      · have HN : Hid (plB n (l.take (i + 1)) = true) := hide (by rw [plB_next hz hpl]; (unfold okTw; simp; omega))
                        clear hz hpl
                        go_wp2_with fail
                        go_quiet (fail)
                        have HBQ := hide (below_drewN (unhide HI).2 nq)
                        clear c1 c2 HI
                        generalize wr.drewN nq = wv at *
                        go_wp2
                        go_roundw
                        case rel => exact ⟨i + 1, true, by omega, (by first | rfl | (simp_all; done)), by go_num, hide ⟨(unhide HN).symm, unhide HBQ⟩⟩
                        case measure => simp only [intOf]; omega
                      · have HN : Hid (plB n (l.take (i + 1)) = false) := hide (by rw [plB_next hz hpl]; (unfold okTw; simp; intros; omega))
                        clear hz hpl
                        go_wp2_with fail
                        go_quiet (fail)
                        have HBQ := hide (below_drewN (unhide HI).2 nq)
                        clear c1 c2 HI
                        generalize wr.drewN nq = wv at *
                        go_wp2
                        go_roundw
                        case rel => exact ⟨i + 1, false, by omega, (by first | rfl | (simp_all; done)), by go_num, hide ⟨(unhide HN).symm, unhide HBQ⟩⟩
                        case measure => simp only [intOf]; omega
                    · have HN : Hid (plB n (l.take (i + 1)) = false) := hide (by rw [plB_next hz hpl]; (unfold okTw; simp; intros; omega))
                      clear hz hpl
                      go_wp2_with fail
                      go_quiet (fail)
                      have HBQ := hide (below_drewN (unhide HI).2 nq)
                      clear c1 c2 HI
                      generalize wr.drewN nq = wv at *
                      go_wp2
                      go_roundw
                      case rel => exact ⟨i + 1, false, by omega, (by first | rfl | (simp_all; done)), by go_num, hide ⟨(unhide HN).symm, unhide HBQ⟩⟩
                      case measure => simp only [intOf]; omega
                  · have HN : Hid (plB n (l.take (i + 1)) = false) := hide (by rw [plB_next hz hpl]; (unfold okTw; simp; intros; omega))
                    clear hz hpl
                    go_wp2_with fail
                    go_quiet (fail)
                    have HBQ := hide (below_drewN (unhide HI).2 nq)
                    clear c1 c2 HI
                    generalize wr.drewN nq = wv at *
                    go_wp2
                    go_roundw
                    case rel => exact ⟨i + 1, false, by omega, (by first | rfl | (simp_all; done)), by go_num, hide ⟨(unhide HN).symm, unhide HBQ⟩⟩
                    case measure => simp only [intOf]; omega
                · have HN : Hid (plB n (l.take (i + 1)) = false) := hide (by rw [plB_next hz hpl]; (unfold okTw; simp; intros; omega))
                  clear hz hpl
                  go_wp2_with fail
                  go_quiet (fail)
                  have HBQ := hide (below_drewN (unhide HI).2 nq)
                  clear c1 c2 HI
                  generalize wr.drewN nq = wv at *
                  go_wp2
                  go_roundw
                  case rel => exact ⟨i + 1, false, by omega, (by first | rfl | (simp_all; done)), by go_num, hide ⟨(unhide HN).symm, unhide HBQ⟩⟩
                  case measure => simp only [intOf]; omega
          · obtain rfl : i = L := by omega
            have hii : ¬ (i : Int) < (i : Int) := by omega
            have HE : Hid (b = R) := hide (by
              have := (unhide HI).1
              rw [unhide HL, List.take_length] at this
              rw [unhide HR]; exact this)
            go_wp2
            go_ret
            exact ⟨ret_bool (unhide HE), (unhide HI).2⟩
    · have HST := hide (unhide HST0 false (by unfold fldB; simp [g2]))
      clear HST0
      go_enter Try.func15, Try.ntmps15
      go_wp2
      go_loopw [5, 6] (fun ov iv wr => ∃ (i : Nat) (b : Bool), i ≤ L ∧ ov = .bool b ∧ iv = .int .i64 (i : Int) ∧ Hid (b = plB n (l.take i) ∧ Below w.heap.size w wr)) (fun _ iv _ => L - (intOf iv).toNat)
      case atStart => exact ⟨0, _, Nat.zero_le _, rfl, rfl, HST⟩
      case round =>
        obtain ⟨i, b, hi, rfl, rfl, HI⟩ := hrel
        rename World => wr
        clear HST
        by_cases hil : i < L
        · have hii : (i : Int) < (L : Int) := by omega
          have hi0 : (0 : Int) ≤ (i : Int) := by omega
          cases b with
          | false =>
            have HE : Hid (R = false) := hide (by rw [unhide HR]; exact plB_off (unhide HI).1.symm)
            go_wp2
            go_ret
            exact ⟨ret_bool (by rw [unhide HE]), (unhide HI).2⟩
          | true =>
            obtain ⟨⟨za, zb⟩, hz⟩ : ∃ z, l[i]? = some z := ⟨l[i]'(by rw [← unhide HL]; exact hil), List.getElem?_eq_getElem _⟩
            obtain ⟨g, off, rfl, hg, c1, c2⟩ := ((unhide HH).below (unhide HI).2 (Nat.le_refl _)).at_ hz
            have hpl := (unhide HI).1.symm
            by_cases h1 : za = zb
            · have hb1 : (za == zb) = true := by simp [h1]
              have HN : Hid (plB n (l.take (i + 1)) = false) := hide (by rw [plB_next hz hpl]; (unfold okTw; simp; intros; omega))
              clear hz hpl
              go_wp2_with fail
              go_quiet (fail)
              have HBQ := hide (below_drewN (unhide HI).2 nq)
              clear c1 c2 HI
              generalize wr.drewN nq = wv at *
              go_wp2
              go_roundw
              case rel => exact ⟨i + 1, false, by omega, (by first | rfl | (simp_all; done)), by go_num, hide ⟨(unhide HN).symm, unhide HBQ⟩⟩
              case measure => simp only [intOf]; omega
            · have hb1 : (za == zb) = false := by simpa using h1
              by_cases h2 : 0 ≤ za
              · by_cases h3 : 0 ≤ zb
                · by_cases h4 : za < n
                  · by_cases h5 : zb < n
                    · have HN : Hid (plB n (l.take (i + 1)) = true) := hide (by rw [plB_next hz hpl]; (unfold okTw; simp; omega))
                      clear hz hpl
                      go_wp2_with fail
                      go_quiet (fail)
                      have HBQ := hide (below_drewN (unhide HI).2 nq)
                      clear c1 c2 HI
                      generalize wr.drewN nq = wv at *
                      go_wp2
                      go_roundw
                      case rel => exact ⟨i + 1, true, by omega, (by first | rfl | (simp_all; done)), by go_num, hide ⟨(unhide HN).symm, unhide HBQ⟩⟩
                      case measure => simp only [intOf]; omega
                    · have HN : Hid (plB n (l.take (i + 1)) = false) := hide (by rw [plB_next hz hpl]; (unfold okTw; simp; intros; omega))
                      clear hz hpl
                      go_wp2_with fail
                      go_quiet (fail)
                      have HBQ := hide (below_drewN (unhide HI).2 nq)
                      clear c1 c2 HI
                      generalize wr.drewN nq = wv at *
                      go_wp2
                      go_roundw
                      case rel => exact ⟨i + 1, false, by omega, (by first | rfl | (simp_all; done)), by go_num, hide ⟨(unhide HN).symm, unhide HBQ⟩⟩
                      case measure => simp only [intOf]; omega
                  · have HN : Hid (plB n (l.take (i + 1)) = false) := hide (by rw [plB_next hz hpl]; (unfold okTw; simp; intros; omega))
                    clear hz hpl
                    go_wp2_with fail
                    go_quiet (fail)
                    have HBQ := hide (below_drewN (unhide HI).2 nq)
                    clear c1 c2 HI
                    generalize wr.drewN nq = wv at *
                    go_wp2
                    go_roundw
                    case rel => exact ⟨i + 1, false, by omega, (by first | rfl | (simp_all; done)), by go_num, hide ⟨(unhide HN).symm, unhide HBQ⟩⟩
                    case measure => simp only [intOf]; omega
                · have HN : Hid (plB n (l.take (i + 1)) = false) := hide (by rw [plB_next hz hpl]; (unfold okTw; simp; intros; omega))
                  clear hz hpl
                  go_wp2_with fail
                  go_quiet (fail)
                  have HBQ := hide (below_drewN (unhide HI).2 nq)
                  clear c1 c2 HI
                  generalize wr.drewN nq = wv at *
                  go_wp2
                  go_roundw
                  case rel => exact ⟨i + 1, false, by omega, (by first | rfl | (simp_all; done)), by go_num, hide ⟨(unhide HN).symm, unhide HBQ⟩⟩
                  case measure => simp only [intOf]; omega
              · have HN : Hid (plB n (l.take (i + 1)) = false) := hide (by rw [plB_next hz hpl]; (unfold okTw; simp; intros; omega))
                clear hz hpl
                go_wp2_with fail
                go_quiet (fail)
                have HBQ := hide (below_drewN (unhide HI).2 nq)
                clear c1 c2 HI
                generalize wr.drewN nq = wv at *
                go_wp2
                go_roundw
                case rel => exact ⟨i + 1, false, by omega, (by first | rfl | (simp_all; done)), by go_num, hide ⟨(unhide HN).symm, unhide HBQ⟩⟩
                case measure => simp only [intOf]; omega
        · obtain rfl : i = L := by omega
          have hii : ¬ (i : Int) < (i : Int) := by omega
          have HE : Hid (b = R) := hide (by
            have := (unhide HI).1
            rw [unhide HL, List.take_length] at this
            rw [unhide HR]; exact this)
          go_wp2
          go_ret
          exact ⟨ret_bool (unhide HE), (unhide HI).2⟩
  · have HST := hide (unhide HST0 false (by unfold fldB; simp [g1]))
    clear HST0
    go_enter Try.func15, Try.ntmps15
    go_wp2
    go_loopw [5, 6] (fun ov iv wr => ∃ (i : Nat) (b : Bool), i ≤ L ∧ ov = .bool b ∧ iv = .int .i64 (i : Int) ∧ Hid (b = plB n (l.take i) ∧ Below w.heap.size w wr)) (fun _ iv _ => L - (intOf iv).toNat)
    case atStart => exact ⟨0, _, Nat.zero_le _, rfl, rfl, HST⟩
    case round =>
      obtain ⟨i, b, hi, rfl, rfl, HI⟩ := hrel
      rename World => wr
      clear HST
      by_cases hil : i < L
      · have hii : (i : Int) < (L : Int) := by omega
        have hi0 : (0 : Int) ≤ (i : Int) := by omega
        cases b with
        | false =>
          have HE : Hid (R = false) := hide (by rw [unhide HR]; exact plB_off (unhide HI).1.symm)
          go_wp2
          go_ret
          exact ⟨ret_bool (by rw [unhide HE]), (unhide HI).2⟩
        | true =>
          obtain ⟨⟨za, zb⟩, hz⟩ : ∃ z, l[i]? = some z := ⟨l[i]'(by rw [← unhide HL]; exact hil), List.getElem?_eq_getElem _⟩
          obtain ⟨g, off, rfl, hg, c1, c2⟩ := ((unhide HH).below (unhide HI).2 (Nat.le_refl _)).at_ hz
          have hpl := (unhide HI).1.symm
          by_cases h1 : za = zb
          · have hb1 : (za == zb) = true := by simp [h1]
            have HN : Hid (plB n (l.take (i + 1)) = false) := hide (by rw [plB_next hz hpl]; (unfold okTw; simp; intros; omega))
            clear hz hpl
            go_wp2_with fail
            go_quiet (fail)
            have HBQ := hide (below_drewN (unhide HI).2 nq)
            clear c1 c2 HI
            generalize wr.drewN nq = wv at *
            go_wp2
            go_roundw
            case rel => exact ⟨i + 1, false, by omega, (by first | rfl | (simp_all; done)), by go_num, hide ⟨(unhide HN).symm, unhide HBQ⟩⟩
            case measure => simp only [intOf]; omega
          · have hb1 : (za == zb) = false := by simpa using h1
            by_cases h2 : 0 ≤ za
            · by_cases h3 : 0 ≤ zb
              · by_cases h4 : za < n
                · by_cases h5 : zb < n
                  · have HN : Hid (plB n (l.take (i + 1)) = true) := hide (by rw [plB_next hz hpl]; (unfold okTw; simp; omega))
                    clear hz hpl
                    go_wp2_with fail
                    go_quiet (fail)
                    have HBQ := hide (below_drewN (unhide HI).2 nq)
                    clear c1 c2 HI
                    generalize wr.drewN nq = wv at *
                    go_wp2
                    go_roundw
                    case rel => exact ⟨i + 1, true, by omega, (by first | rfl | (simp_all; done)), by go_num, hide ⟨(unhide HN).symm, unhide HBQ⟩⟩
                    case measure => simp only [intOf]; omega
                  · have HN : Hid (plB n (l.take (i + 1)) = false) := hide (by rw [plB_next hz hpl]; (unfold okTw; simp; intros; omega))
                    clear hz hpl
                    go_wp2_with fail
                    go_quiet (fail)
                    have HBQ := hide (below_drewN (unhide HI).2 nq)
                    clear c1 c2 HI
                    generalize wr.drewN nq = wv at *
                    go_wp2
                    go_roundw
                    case rel => exact ⟨i + 1, false, by omega, (by first | rfl | (simp_all; done)), by go_num, hide ⟨(unhide HN).symm, unhide HBQ⟩⟩
                    case measure => simp only [intOf]; omega
                · have HN : Hid (plB n (l.take (i + 1)) = false) := hide (by rw [plB_next hz hpl]; (unfold okTw; simp; intros; omega))
                  clear hz hpl
                  go_wp2_with fail
                  go_quiet (fail)
                  have HBQ := hide (below_drewN (unhide HI).2 nq)
                  clear c1 c2 HI
                  generalize wr.drewN nq = wv at *
                  go_wp2
                  go_roundw
                  case rel => exact ⟨i + 1, false, by omega, (by first | rfl | (simp_all; done)), by go_num, hide ⟨(unhide HN).symm, unhide HBQ⟩⟩
                  case measure => simp only [intOf]; omega
              · have HN : Hid (plB n (l.take (i + 1)) = false) := hide (by rw [plB_next hz hpl]; (unfold okTw; simp; intros; omega))
                clear hz hpl
                go_wp2_with fail
                go_quiet (fail)
                have HBQ := hide (below_drewN (unhide HI).2 nq)
                clear c1 c2 HI
                generalize wr.drewN nq = wv at *
                go_wp2
                go_roundw
                case rel => exact ⟨i + 1, false, by omega, (by first | rfl | (simp_all; done)), by go_num, hide ⟨(unhide HN).symm, unhide HBQ⟩⟩
                case measure => simp only [intOf]; omega
            · have HN : Hid (plB n (l.take (i + 1)) = false) := hide (by rw [plB_next hz hpl]; (unfold okTw; simp; intros; omega))
              clear hz hpl
              go_wp2_with fail
              go_quiet (fail)
              have HBQ := hide (below_drewN (unhide HI).2 nq)
              clear c1 c2 HI
              generalize wr.drewN nq = wv at *
              go_wp2
              go_roundw
              case rel => exact ⟨i + 1, false, by omega, (by first | rfl | (simp_all; done)), by go_num, hide ⟨(unhide HN).symm, unhide HBQ⟩⟩
              case measure => simp only [intOf]; omega
      · obtain rfl : i = L := by omega
        have hii : ¬ (i : Int) < (i : Int) := by omega
        have HE : Hid (b = R) := hide (by
          have := (unhide HI).1
          rw [unhide HL, List.take_length] at this
          rw [unhide HR]; exact this)
        go_wp2
        go_ret
        exact ⟨ret_bool (unhide HE), (unhide HI).2⟩
end Go.Proofs.Ytppkejblhkbkjaa
