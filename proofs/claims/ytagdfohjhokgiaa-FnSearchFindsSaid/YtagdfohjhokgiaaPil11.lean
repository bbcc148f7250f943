/- FirstOffset and SearchTime of both sides. -/
import Derived.Test.YtagdfohjhokgiaaPil7
namespace Go.Proofs.Ytagdfohjhokgiaa
open Go.RowKit
set_option linter.unusedVariables false
set_option maxRecDepth 100000
theorem rd_no {n : Nat} {f : Nat → Int} {c : ByteArray} {g : Int} (h : rdB n f c g = false) : ¬ (sigB n f = true ∧ pilB c g = true) := fun e => by rw [(rdB_iff _ _ _ _).2 e] at h; cases h
theorem lk_no {n : Nat} {f : Nat → Int} {c : ByteArray} {g s t : Int} (h : ¬ (rdB n f c g = true ∧ 1 ≤ s ∧ s ≤ 8)) : lkAns n f c g s t = (-1, -1) := by
  unfold lkAns
  rw [if_neg]
  intro e
  simp only [Bool.and_eq_true, decide_eq_true_eq] at e
  exact h ⟨(rdB_iff _ _ _ _).2 ⟨e.1, e.2.1⟩, e.2.2⟩
theorem lk_eq {n : Nat} {f : Nat → Int} {c : ByteArray} {g t : Int} {s : Nat} (h : rdB n f c g = true) (h1 : 1 ≤ s) (h8 : s ≤ 8) :
    lkAns n f c g s t = if fq (lkQ n f c g.toNat (perL c g) s t) (lkN (perL c g) s) < lkN (perL c g) s then (((fq (lkQ n f c g.toNat (perL c g) s t) (lkN (perL c g) s) * s : Nat) : Int), (fq (lkQ n f c g.toNat (perL c g) s t) (lkN (perL c g) s) : Int) + 1) else (-1, (lkN (perL c g) s : Int)) := by
  obtain ⟨a, b⟩ := (rdB_iff _ _ _ _).1 h
  unfold lkAns
  rw [if_pos (by rw [a, b, decide_eq_true (by omega), decide_eq_true (by omega)]; rfl)]
  rfl
theorem lk_found {n : Nat} {f : Nat → Int} {c : ByteArray} {g t : Int} {s j : Nat} (h : rdB n f c g = true) (h1 : 1 ≤ s) (h8 : s ≤ 8) (hj : j * s < perL c g) (hq : lkQ n f c g.toNat (perL c g) s t j = true) (hb : ∀ i, i < j → lkQ n f c g.toNat (perL c g) s t i = false) :
    lkAns n f c g s t = (((j * s : Nat) : Int), (j : Int) + 1) := by
  rw [lk_eq h h1 h8, fq_found hq hb _ ((lk_iff h1).2 hj), if_pos ((lk_iff h1).2 hj)]
theorem lk_none {n : Nat} {f : Nat → Int} {c : ByteArray} {g t : Int} {s j : Nat} (h : rdB n f c g = true) (h1 : 1 ≤ s) (h8 : s ≤ 8) (hj : ¬ j * s < perL c g) (hM : j ≤ lkN (perL c g) s) (hb : ∀ i, i < j → lkQ n f c g.toNat (perL c g) s t i = false) :
    lkAns n f c g s t = (-1, (j : Int)) := by
  have e : j = lkN (perL c g) s := by
    rcases Nat.lt_or_ge j (lkN (perL c g) s) with a | a
    · exact absurd ((lk_iff h1).1 a) hj
    · omega
  subst e
  rw [lk_eq h h1 h8, fq_all _ hb, if_neg (Nat.lt_irrefl _)]
theorem lk_cases {n : Nat} {f : Nat → Int} {c : ByteArray} {g t : Int} {s : Nat} (h : rdB n f c g = true) (h1 : 1 ≤ s) (h8 : s ≤ 8) :
    (∃ J, J * s < perL c g ∧ lkAns n f c g s t = (((J * s : Nat) : Int), (J : Int) + 1)) ∨ lkAns n f c g s t = (-1, (lkN (perL c g) s : Int)) := by
  rw [lk_eq h h1 h8]
  by_cases e : fq (lkQ n f c g.toNat (perL c g) s t) (lkN (perL c g) s) < lkN (perL c g) s
  · left; rw [if_pos e]; exact ⟨_, (lk_iff h1).1 e, rfl⟩
  · right; rw [if_neg e]
theorem lkQ_yes {n : Nat} {f : Nat → Int} {c : ByteArray} {G P s j : Nat} {t : Int} (h : t ≤ scr n f c G P ((j * s : Nat) : Int)) : lkQ n f c G P s t j = true := decide_eq_true h
theorem lkQ_no {n : Nat} {f : Nat → Int} {c : ByteArray} {G P s j : Nat} {t : Int} (h : ¬ t ≤ scr n f c G P ((j * s : Nat) : Int)) : lkQ n f c G P s t j = false := decide_eq_false h
theorem none_up {q : Nat → Bool} {j : Nat} (h : ∀ i, i < j → q i = false) (hj : q j = false) : ∀ i, i < j + 1 → q i = false := fun i hi => by
  by_cases e : i = j
  · rw [e]; exact hj
  · exact h i (by omega)
theorem ret_ii {a b x y : Int} (h1 : a = x) (h2 : b = y) : Ending.returned (.tuple #[.int .i64 a, .int .i64 b]) = .returned (.tuple #[.int .i64 x, .int .i64 y]) := by rw [h1, h2]
theorem mul_up (j s : Nat) : (j + 1) * s = j * s + s := by rw [Nat.add_mul, Nat.one_mul]
set_option maxHeartbeats 3200000 in
theorem sFirst_any (v : Value) (n : Nat) (f : Nat → Int) (c : ByteArray) (g s t : Int) (w : World) (h : IntsR w v n f) (hn : n ≤ 1048576) (hc : c.size ≤ 1048576) :
    Calls Try.prog 15 #[v, .agg #[.string c, .int .i64 g], .int .i64 s, .int .i64 t] w fun e w' => e = .returned (.int .i64 (lkAns n f c g s t).1) ∧ Below w.heap.size w w' := by
  have HI := Lib.hid h
  have hR := fun w h => ready_any v n f c g w h hn hc
  cases hd : rdB n f c g with
  | false =>
    rw [hd] at hR
    have HR := Lib.hid hR
    rw [lk_no (by rw [hd]; simp)]
    clear hd hR
    obtain ⟨a, cap, rfl, -⟩ := h
    have b0 := (Below.refl w.heap.size w).alloc (Nat.le_refl _) (.cells #[.string c, .int .i64 g] 24)
    have u0 := PilAt.new w 24 c g
    go_enter Try.func15, Try.ntmps15
    go_wp2_with fail
    refine (HR.out _ (HI.out.below b0)).mono ?_
    rintro e w1 ⟨rfl, n1⟩
    have b1 := below_then b0 (Nat.le_refl _) n1
    clear n1 b0 u0
    go_wp2
    go_ret
    exact ⟨rfl, b1⟩
  | true =>
    rw [hd] at hR
    have HR := Lib.hid hR
    have hp := ((rdB_iff _ _ _ _).1 hd).2
    have hs := ((rdB_iff _ _ _ _).1 hd).1
    by_cases hst : 1 ≤ s ∧ s ≤ 8
    rotate_left
    · have HP := Lib.hid (fun w => l1In_no s 1 8 w hst)
      rw [lk_no (fun e => hst e.2)]
      clear hd hR hp hs hst
      obtain ⟨a, cap, rfl, -⟩ := h
      have b0 := (Below.refl w.heap.size w).alloc (Nat.le_refl _) (.cells #[.string c, .int .i64 g] 24)
      have u0 := PilAt.new w 24 c g
      go_enter Try.func15, Try.ntmps15
      go_wp2_with fail
      refine (HR.out _ (HI.out.below b0)).mono ?_
      rintro e w1 ⟨rfl, n1⟩
      have b1 := below_then b0 (Nat.le_refl _) n1
      clear n1 b0 u0
      go_wp2_with fail
      refine (HP.out _).mono ?_
      rintro e w' ⟨rfl, rfl⟩
      go_wp2
      go_ret
      exact ⟨rfl, b1⟩
    · obtain ⟨s1, s8⟩ := hst
      have HP := Lib.hid (fun w => l1In_yes s 1 8 w s1 s8)
      obtain ⟨q, rfl⟩ : ∃ q : Nat, s = q := ⟨s.toNat, by omega⟩
      have hL := fun w => l5Length_yes c g w hp
      have p9 : perL c g ≤ 2040 := by obtain ⟨_, -, -, -, -, -, -, -, -, -, q9⟩ := pil_nat hp; exact q9
      obtain ⟨hA, h3⟩ := (sigB_iff n f).1 hs
      have hS := fun k w h h0 h1 => l5Score_zero v n f c g k w h hA h3 hp h0 h1
      have HFO := Lib.hid (fun j h1 h2 h3 => lk_found (t := t) (j := j) hd (by omega : 1 ≤ q) (by omega) h1 h2 h3)
      have HNO := Lib.hid (fun j h1 h2 h3 => lk_none (t := t) (j := j) hd (by omega : 1 ≤ q) (by omega) h1 h2 h3)
      have HIF := Lib.hid (fun j => lk_iff (P := perL c g) (s := q) (j := j) (by omega))
      have HQY := Lib.hid (fun j h => lkQ_yes (n := n) (f := f) (c := c) (G := g.toNat) (P := perL c g) (s := q) (j := j) (t := t) h)
      have HQN := Lib.hid (fun j h => lkQ_no (n := n) (f := f) (c := c) (G := g.toNat) (P := perL c g) (s := q) (j := j) (t := t) h)
      obtain ⟨X, hX⟩ : ∃ X, lkAns n f c g (q : Int) t = X := ⟨_, rfl⟩
      rw [hX] at HFO HNO ⊢
      obtain ⟨Q, hQ⟩ : ∃ Q, lkQ n f c g.toNat (perL c g) q t = Q := ⟨_, rfl⟩
      rw [hQ] at HFO HNO HQY HQN
      obtain ⟨M, hM⟩ : ∃ M, lkN (perL c g) q = M := ⟨_, rfl⟩
      rw [hM] at HNO HIF
      obtain ⟨P, hP⟩ : ∃ P, perL c g = P := ⟨_, rfl⟩
      rw [hP] at hL hS p9 HFO HNO HIF HQY HQN
      have HL := Lib.hid hL
      have HS := Lib.hid hS
      clear hd hR hp hs hA h3 hL hS hX hQ hM hP
      obtain ⟨a, cap, rfl, -⟩ := h
      have b0 := (Below.refl w.heap.size w).alloc (Nat.le_refl _) (.cells #[.string c, .int .i64 g] 24)
      have u0 := PilAt.new w 24 c g
      go_enter Try.func15, Try.ntmps15
      go_wp2_with fail
      refine (HR.out _ (HI.out.below b0)).mono ?_
      rintro e w1 ⟨rfl, n1⟩
      have b1 := below_then b0 (Nat.le_refl _) n1
      have u1 := u0.below n1 (by simp)
      clear n1 b0 u0
      obtain ⟨x0, x1, x2⟩ := id u1
      go_wp2_with fail
      clear x0 x1 x2
      refine (HP.out _).mono ?_
      rintro e w' ⟨rfl, rfl⟩
      have BB := Lib.hid b1
      clear b1
      go_wp2_with fail
      go_loopw [9] (fun i wr => ∃ j : Nat, j ≤ M ∧ i = .int .i64 ((j * q : Nat) : Int) ∧ Hid (∀ i, i < j → Q i = false) ∧ Below w1.heap.size w1 wr) (fun i _ => P - (intOf i).toNat)
      case atStart => exact ⟨0, by omega, by rw [Nat.zero_mul]; rfl, Lib.hid (fun i hi => absurd hi (Nat.not_lt_zero i)), Below.refl _ _⟩
      case round =>
        obtain ⟨j, hj, rfl, rN, rb⟩ := hrel
        have uj := u1.below rb u1.2.2
        have hif := HIF.out j
        have hup := mul_up j q
        have hS := HS.out ((j * q : Nat) : Int)
        have hqy := HQY.out j
        have hqn := HQN.out j
        have hfo := HFO.out j
        have hno := HNO.out j
        obtain ⟨Y, hY⟩ : ∃ Y, j * q = Y := ⟨_, rfl⟩
        rw [hY] at hif hup hS hqy hqn hfo hno ⊢
        by_cases hlt : Y < P
        · have i1 : (Y : Int) < (P : Int) := by omega
          have i0 : (0 : Int) ≤ (Y : Int) := by omega
          have hj2 : j < M := hif.2 hlt
          have hS2 := fun w h => hS w h (by omega) (by omega)
          obtain ⟨Z, hZ⟩ : ∃ Z, scr n f c g.toNat P (Y : Int) = Z := ⟨_, rfl⟩
          rw [hZ] at hS2 hqy hqn
          have HSS := Lib.hid hS2
          have HUP := Lib.hid hup
          have HFF := Lib.hid (fun h1 => hfo hlt h1 rN.out)
          have HYY := Lib.hid hqy
          have HNN := Lib.hid hqn
          clear hS hS2 hif hup hfo hno hqy hqn hZ hY
          by_cases hx : t ≤ Z
          · obtain ⟨x0, x1, x2⟩ := id uj
            go_wp2_with fail
            clear x0 x1 x2
            refine (HL.out _).mono ?_
            rintro e w91 ⟨rfl, n1⟩
            have r1 := below_then rb (Nat.le_refl _) n1
            have u1 := uj.below n1 uj.2.2
            clear n1 rb uj
            obtain ⟨x0, x1, x2⟩ := id u1
            go_wp2_with fail
            clear x0 x1 x2
            refine (HSS.out _ (HI.out.below (below_then BB.out (Nat.le_refl _) r1))).mono ?_
            rintro e w92 ⟨rfl, n2⟩
            have r2 := below_then r1 (Nat.le_refl _) n2
            clear n2 r1 u1
            go_wp2
            go_ret
            exact ⟨ret_int (by rw [HFF.out (HYY.out (by omega))]), below_then BB.out (Nat.le_refl _) r2⟩
          · have hx2 : Z < t := by omega
            have HN2 := Lib.hid (none_up rN.out (HNN.out (by omega)))
            obtain ⟨x0, x1, x2⟩ := id uj
            go_wp2_with fail
            clear x0 x1 x2
            refine (HL.out _).mono ?_
            rintro e w91 ⟨rfl, n1⟩
            have r1 := below_then rb (Nat.le_refl _) n1
            have u1 := uj.below n1 uj.2.2
            clear n1 rb uj
            obtain ⟨x0, x1, x2⟩ := id u1
            go_wp2_with fail
            clear x0 x1 x2
            refine (HSS.out _ (HI.out.below (below_then BB.out (Nat.le_refl _) r1))).mono ?_
            rintro e w92 ⟨rfl, n2⟩
            have r2 := below_then r1 (Nat.le_refl _) n2
            clear n2 r1 u1 rN
            go_wp2
            go_roundw
            case rel => exact ⟨j + 1, by omega, by rw [HUP.out]; go_num, HN2, r2⟩
            case measure => simp [intOf]; omega
        · have i1 : ¬ ((Y : Int) < (P : Int)) := by omega
          have HNX := Lib.hid (hno hlt hj rN.out)
          clear hS hif hup hfo hno hqy hqn hY rN
          obtain ⟨x0, x1, x2⟩ := id uj
          go_wp2_with fail
          clear x0 x1 x2
          refine (HL.out _).mono ?_
          rintro e w91 ⟨rfl, n1⟩
          have r1 := below_then rb (Nat.le_refl _) n1
          clear n1 rb uj
          go_wp2
          go_ret
          exact ⟨ret_int (by rw [HNX.out]), below_then BB.out (Nat.le_refl _) r1⟩
set_option maxHeartbeats 3200000 in
theorem iLook_any (v : Value) (n : Nat) (f : Nat → Int) (c : ByteArray) (g s t : Int) (w : World) (h : IntsC w v n f) (hn : n ≤ 1048576) (hc : c.size ≤ 1048576) :
    Calls Try.prog 32 #[v, .agg #[.string c, .int .i64 g], .int .i64 s, .int .i64 t] w fun e w' => e = .returned (.tuple #[.int .i64 (lkAns n f c g s t).1, .int .i64 (lkAns n f c g s t).2]) ∧ Below w.heap.size w w' := by
  have HI := Lib.hid h
  cases hd : rdB n f c g with
  | false =>
    have HA := Lib.hid (fun w h => iNew_no v n f c g w h hn hc (rd_no hd))
    rw [lk_no (by rw [hd]; simp)]
    clear hd
    obtain ⟨a, cap, rfl, -⟩ := h
    have b0 := (Below.refl w.heap.size w).alloc (Nat.le_refl _) (.cells #[.string c, .int .i64 g] 24)
    have u0 := PilAt.new w 24 c g
    go_enter Try.func32, Try.ntmps32
    go_wp2_with fail
    refine (HA.out _ (HI.out.below b0)).mono ?_
    rintro e w1 ⟨rfl, n1⟩
    have b1 := below_then b0 (Nat.le_refl _) n1
    clear n1 b0 u0
    go_wp2
    go_ret2
    exact ⟨rfl, b1⟩
  | true =>
    have hp := ((rdB_iff _ _ _ _).1 hd).2
    have hs := ((rdB_iff _ _ _ _).1 hd).1
    have HA := Lib.hid (fun w h => iNew_yes v n f c g w h hs hp)
    by_cases s1 : s < 1
    · rw [lk_no (by omega)]
      clear hd hp hs
      obtain ⟨a, cap, rfl, -⟩ := h
      have b0 := (Below.refl w.heap.size w).alloc (Nat.le_refl _) (.cells #[.string c, .int .i64 g] 24)
      have u0 := PilAt.new w 24 c g
      go_enter Try.func32, Try.ntmps32
      go_wp2_with fail
      refine (HA.out _ (HI.out.below b0)).mono ?_
      rintro e w1 ⟨bs, vt, rfl, HR, hb, n1⟩
      have b1 := below_then b0 (Nat.le_refl _) n1
      clear n1 b0 u0
      clear HR hb
      go_wp2
      go_ret2
      exact ⟨rfl, b1⟩
    by_cases s8 : 8 < s
    · rw [lk_no (by omega)]
      clear hd hp hs
      obtain ⟨a, cap, rfl, -⟩ := h
      have b0 := (Below.refl w.heap.size w).alloc (Nat.le_refl _) (.cells #[.string c, .int .i64 g] 24)
      have u0 := PilAt.new w 24 c g
      go_enter Try.func32, Try.ntmps32
      go_wp2_with fail
      refine (HA.out _ (HI.out.below b0)).mono ?_
      rintro e w1 ⟨bs, vt, rfl, HR, hb, n1⟩
      have b1 := below_then b0 (Nat.le_refl _) n1
      clear n1 b0 u0
      clear HR hb
      go_wp2
      go_ret2
      exact ⟨rfl, b1⟩
    obtain ⟨q, rfl⟩ : ∃ q : Nat, s = q := ⟨s.toNat, by omega⟩
    have p9 : perL c g ≤ 2040 := by obtain ⟨_, -, -, -, -, -, -, -, -, -, q9⟩ := pil_nat hp; exact q9
    have HFO := Lib.hid (fun j h1 h2 h3 => lk_found (t := t) (j := j) hd (by omega : 1 ≤ q) (by omega) h1 h2 h3)
    have HNO := Lib.hid (fun j h1 h2 h3 => lk_none (t := t) (j := j) hd (by omega : 1 ≤ q) (by omega) h1 h2 h3)
    have HIF := Lib.hid (fun j => lk_iff (P := perL c g) (s := q) (j := j) (by omega))
    have HQY := Lib.hid (fun j h => lkQ_yes (n := n) (f := f) (c := c) (G := g.toNat) (P := perL c g) (s := q) (j := j) (t := t) h)
    have HQN := Lib.hid (fun j h => lkQ_no (n := n) (f := f) (c := c) (G := g.toNat) (P := perL c g) (s := q) (j := j) (t := t) h)
    obtain ⟨X, hX⟩ : ∃ X, lkAns n f c g (q : Int) t = X := ⟨_, rfl⟩
    rw [hX] at HFO HNO ⊢
    obtain ⟨Q, hQ⟩ : ∃ Q, lkQ n f c g.toNat (perL c g) q t = Q := ⟨_, rfl⟩
    rw [hQ] at HFO HNO HQY HQN
    obtain ⟨M, hM⟩ : ∃ M, lkN (perL c g) q = M := ⟨_, rfl⟩
    have hMb : M ≤ 2048 := by rw [← hM]; unfold lkN; exact Nat.le_trans (Nat.div_le_self _ _) (by omega)
    rw [hM] at HNO HIF
    obtain ⟨P, hP⟩ : ∃ P, perL c g = P := ⟨_, rfl⟩
    rw [hP] at HA p9 HFO HNO HIF HQY HQN
    obtain ⟨G, hG⟩ : ∃ G, g.toNat = G := ⟨_, rfl⟩
    rw [hG] at HA HQY HQN
    have HS := Lib.hid (fun bs vt k w h h0 h1 => iScore_any bs v n f vt c G P k w h h0 h1)
    clear hd hp hs hX hQ hM hP hG
    obtain ⟨a, cap, rfl, -⟩ := h
    have b0 := (Below.refl w.heap.size w).alloc (Nat.le_refl _) (.cells #[.string c, .int .i64 g] 24)
    have u0 := PilAt.new w 24 c g
    go_enter Try.func32, Try.ntmps32
    go_wp2_with fail
    refine (HA.out _ (HI.out.below b0)).mono ?_
    rintro e w1 ⟨bs, vt, rfl, HR, hb, n1⟩
    have b1 := below_then b0 (Nat.le_refl _) n1
    clear n1 b0 u0
    have HR0 := Lib.hid HR
    have BB := Lib.hid b1
    clear HR b1 hb
    go_wp2_with fail
    go_loopw [9, 12] (fun l i wr => ∃ j : Nat, j ≤ M ∧ i = .int .i64 ((j * q : Nat) : Int) ∧ l = .int .i64 (j : Int) ∧ Hid (∀ i, i < j → Q i = false) ∧ SrchOK wr bs (.slice a n cap) n f vt c G P ∧ Below w.heap.size w wr) (fun _ i _ => P - (intOf i).toNat)
    case atStart => exact ⟨0, by omega, by rw [Nat.zero_mul]; rfl, rfl, Lib.hid (fun i hi => absurd hi (Nat.not_lt_zero i)), HR0.out, BB.out⟩
    case round =>
      obtain ⟨j, hj, rfl, rfl, rN, rS, rb⟩ := hrel
      have hif := HIF.out j
      have hup := mul_up j q
      have hS := fun w h => HS.out bs vt ((j * q : Nat) : Int) w h
      have hqy := HQY.out j
      have hqn := HQN.out j
      have hfo := HFO.out j
      have hno := HNO.out j
      obtain ⟨Y, hY⟩ : ∃ Y, j * q = Y := ⟨_, rfl⟩
      rw [hY] at hif hup hS hqy hqn hfo hno ⊢
      obtain ⟨-, d1, -, -, -⟩ := rS.1
      have HRS := Lib.hid rS
      clear rS
      by_cases hlt : Y < P
      · have i1 : (Y : Int) < (P : Int) := by omega
        have i0 : (0 : Int) ≤ (Y : Int) := by omega
        have hj2 : j < M := hif.2 hlt
        have hS2 := fun w h => hS w h (by omega) (by omega)
        obtain ⟨Z, hZ⟩ : ∃ Z, scr n f c G P (Y : Int) = Z := ⟨_, rfl⟩
        rw [hZ] at hS2 hqy hqn
        have HSS := Lib.hid hS2
        have HUP := Lib.hid hup
        have HFF := Lib.hid (fun h1 => hfo hlt h1 rN.out)
        have HYY := Lib.hid hqy
        have HNN := Lib.hid hqn
        clear hS hS2 hif hup hfo hno hqy hqn hZ hY
        by_cases hx : t ≤ Z
        · go_wp2_with fail
          refine (HSS.out _ HRS.out).mono ?_
          rintro e w' ⟨rfl, m, rfl⟩
          have r1 := below_drewN rb m
          clear rb d1
          go_wp2
          go_ret2
          exact ⟨ret_ii (by rw [HFF.out (HYY.out (by omega))]) (by rw [HFF.out (HYY.out (by omega))]), r1⟩
        · have hx2 : Z < t := by omega
          have HN2 := Lib.hid (none_up rN.out (HNN.out (by omega)))
          go_wp2_with fail
          refine (HSS.out _ HRS.out).mono ?_
          rintro e w' ⟨rfl, m, rfl⟩
          have r1 := below_drewN rb m
          have HR1 := Lib.hid (HRS.out.below (below_drewN (Below.refl _ _) m))
          clear rb d1 rN HRS
          go_wp2
          go_roundw
          case rel => exact ⟨j + 1, by omega, by rw [HUP.out]; go_num, by go_num, HN2, HR1.out, r1⟩
          case measure => simp [intOf]; omega
      · have i1 : ¬ ((Y : Int) < (P : Int)) := by omega
        have HNX := Lib.hid (hno hlt hj rN.out)
        clear hS hif hup hfo hno hqy hqn hY rN
        go_wp2
        go_ret2
        exact ⟨ret_ii (by rw [HNX.out]) (by rw [HNX.out]), rb⟩
theorem iFirst_any (v : Value) (n : Nat) (f : Nat → Int) (c : ByteArray) (g s t : Int) (w : World) (h : IntsC w v n f) (hn : n ≤ 1048576) (hc : c.size ≤ 1048576) :
    Calls Try.prog 14 #[v, .agg #[.string c, .int .i64 g], .int .i64 s, .int .i64 t] w fun e w' => e = .returned (.int .i64 (lkAns n f c g s t).1) ∧ Below w.heap.size w w' := by
  have HI := Lib.hid h
  have hA := fun w h => iLook_any v n f c g s t w h hn hc
  obtain ⟨X, hX⟩ : ∃ X, lkAns n f c g s t = X := ⟨_, rfl⟩
  rw [hX] at hA ⊢
  have HA := Lib.hid hA
  clear hA hX
  obtain ⟨a, cap, rfl, -⟩ := h
  have b0 := (Below.refl w.heap.size w).alloc (Nat.le_refl _) (.cells #[.string c, .int .i64 g] 24)
  have u0 := PilAt.new w 24 c g
  go_enter Try.func14, Try.ntmps14
  go_wp2_with fail
  refine (HA.out _ (HI.out.below b0)).mono ?_
  rintro e w1 ⟨rfl, n1⟩
  have b1 := below_then b0 (Nat.le_refl _) n1
  clear n1 b0 u0
  go_wp2
  go_ret
  exact ⟨rfl, b1⟩
theorem iTime_any (v : Value) (n : Nat) (f : Nat → Int) (c : ByteArray) (g s t : Int) (w : World) (h : IntsC w v n f) (hn : n ≤ 1048576) (hc : c.size ≤ 1048576) :
    Calls Try.prog 16 #[v, .agg #[.string c, .int .i64 g], .int .i64 s, .int .i64 t] w fun e w' => e = .returned (.int .i64 (lkAns n f c g s t).2) ∧ Below w.heap.size w w' := by
  have HI := Lib.hid h
  have hA := fun w h => iLook_any v n f c g s t w h hn hc
  obtain ⟨X, hX⟩ : ∃ X, lkAns n f c g s t = X := ⟨_, rfl⟩
  rw [hX] at hA ⊢
  have HA := Lib.hid hA
  clear hA hX
  obtain ⟨a, cap, rfl, -⟩ := h
  have b0 := (Below.refl w.heap.size w).alloc (Nat.le_refl _) (.cells #[.string c, .int .i64 g] 24)
  have u0 := PilAt.new w 24 c g
  go_enter Try.func16, Try.ntmps16
  go_wp2_with fail
  refine (HA.out _ (HI.out.below b0)).mono ?_
  rintro e w1 ⟨rfl, n1⟩
  have b1 := below_then b0 (Nat.le_refl _) n1
  clear n1 b0 u0
  go_wp2
  go_ret
  exact ⟨rfl, b1⟩
end Go.Proofs.Ytagdfohjhokgiaa
