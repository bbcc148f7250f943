/- VerifyOffset of both sides. -/
import Derived.Test.YtmeooebklohdfaaPil7
namespace Go.Proofs.Ytmeooebklohdfaa
open Go.RowKit
set_option linter.unusedVariables false
set_option maxRecDepth 100000
def vfB (n : Nat) (f : Nat → Int) (c : ByteArray) (g k p : Int) : Bool := roB n f c g k && (decide (0 ≤ p) && decide (p ≤ 200))
theorem vf_no {n : Nat} {f : Nat → Int} {c : ByteArray} {g k t p d : Int} (h : ¬ (roB n f c g k = true ∧ 0 ≤ p ∧ p ≤ 200)) : vfAns n f c g k t p d = false := by
  cases e : vfAns n f c g k t p d with
  | false => rfl
  | true =>
    unfold vfAns at e
    simp only [Bool.and_eq_true, decide_eq_true_eq] at e
    exact absurd ⟨(roB_iff _ _ _ _ _).2 ⟨e.1, e.2.1⟩, e.2.2.1, e.2.2.2.1⟩ h
theorem vf_yes {n : Nat} {f : Nat → Int} {c : ByteArray} {g k t p d : Int} (h1 : roB n f c g k = true) (h2 : 0 ≤ p) (h3 : p ≤ 200) : vfAns n f c g k t p d = decide (d ≤ (vfC n f c g.toNat (perL c g) k t p.toNat : Int)) := by
  obtain ⟨a, b⟩ := (roB_iff _ _ _ _ _).1 h1
  unfold vfAns
  rw [a, b, decide_eq_true h2, decide_eq_true h3]
  rfl
theorem scr_past (n : Nat) (f : Nat → Int) (c : ByteArray) (G P m : Nat) (k : Int) : scr (n - min m n) (cutF (min m n) f) c G P k = scr (n - m) (cutF m f) c G P k := by
  by_cases h : m ≤ n
  · rw [Nat.min_eq_left h]
  · rw [Nat.min_eq_right (by omega), Nat.sub_self, show n - m = 0 by omega]; exact scr_empty
theorem cut_cut (f : Nat → Int) (a b : Nat) : cutF b (cutF a f) = cutF (a + b) f := by funext i; unfold cutF; rw [Nat.add_assoc]
theorem drewRowP (V : World) (row : Option Nat) : V.grownBy V.drew row := ⟨rfl, rfl, rfl, Nat.le_refl _, fun _ _ _ => rfl⟩
theorem cell_row (g : Nat) (W : World) (p : Nat) (u : Value) : W.grownBy (W.setCell ⟨g, p, none⟩ u) (some g) := ⟨rfl, rfl, rfl, by simp, fun k hk hne => Below.heap_setCell _ _ _ _ (fun e => hne (by rw [e]))⟩
theorem min_next (j P n : Nat) : min (j * P) n + min P (n - min (j * P) n) = min ((j + 1) * P) n := by
  rw [Nat.add_mul, Nat.one_mul]; omega
set_option maxHeartbeats 3200000 in
theorem sVerify_any (v : Value) (n : Nat) (f : Nat → Int) (c : ByteArray) (g k t p d : Int) (w : World) (h : IntsR w v n f) (hn : n ≤ 1048576) (hc : c.size ≤ 1048576) :
    Calls Try.prog 40 #[v, .agg #[.string c, .int .i64 g], .int .i64 k, .int .i64 t, .int .i64 p, .int .i64 d] w fun e w' => e = .returned (.bool (vfAns n f c g k t p d)) ∧ Below w.heap.size w w' := by
  have HI := Lib.hid h
  have hR := fun w h => ready_any v n f c g w h hn hc
  cases hd : rdB n f c g with
  | false =>
    have hr := ro_out (k := k) hd
    rw [hd] at hR
    have HR := Lib.hid hR
    rw [vf_no (by rw [hr]; simp)]
    clear hr hd hR
    obtain ⟨a, cap, rfl, -⟩ := h
    have b0 := (Below.refl w.heap.size w).alloc (Nat.le_refl _) (.cells #[.string c, .int .i64 g] 24)
    have u0 := PilAt.new w 24 c g
    go_enter Try.func40, Try.ntmps40
    go_wp2_with fail
    refine (HR.out _ (HI.out.below b0)).mono ?_
    rintro e w1 ⟨rfl, n1⟩
    have b1 := below_then b0 (Nat.le_refl _) n1
    clear n1 b0 u0
    go_wp2
    go_ret
    exact ⟨rfl, b1⟩
  | true =>
    rw [hd] at hR
    have HR := Lib.hid hR
    have hp := ((rdB_iff _ _ _ _).1 hd).2
    have hO := fun w => l5Offset_any c g k w hp
    rw [ro_in hd] at hO
    cases hr : roB n f c g k with
    | false =>
      rw [hr] at hO
      have HO := Lib.hid hO
      rw [vf_no (by rw [hr]; simp)]
      clear hr hd hR hO hp
      obtain ⟨a, cap, rfl, -⟩ := h
      have b0 := (Below.refl w.heap.size w).alloc (Nat.le_refl _) (.cells #[.string c, .int .i64 g] 24)
      have u0 := PilAt.new w 24 c g
      go_enter Try.func40, Try.ntmps40
      go_wp2_with fail
      refine (HR.out _ (HI.out.below b0)).mono ?_
      rintro e w1 ⟨rfl, n1⟩
      have b1 := below_then b0 (Nat.le_refl _) n1
      have u1 := u0.below n1 (by simp)
      clear n1 b0 u0
      obtain ⟨x0, x1, x2⟩ := id u1
      go_wp2_with fail
      clear x0 x1 x2
      refine (HO.out _).mono ?_
      rintro e w2 ⟨rfl, n2⟩
      have b2 := below_then b1 (Nat.le_refl _) n2
      clear n2 b1 u1
      go_wp2
      go_ret
      exact ⟨rfl, b2⟩
    | true =>
      rw [hr] at hO
      have HO := Lib.hid hO
      by_cases hpb : 0 ≤ p ∧ p ≤ 200
      rotate_left
      · have HP := Lib.hid (fun w => l1In_no p 0 200 w hpb)
        rw [vf_no (fun e => hpb e.2)]
        clear hr hd hR hO hp hpb
        obtain ⟨a, cap, rfl, -⟩ := h
        have b0 := (Below.refl w.heap.size w).alloc (Nat.le_refl _) (.cells #[.string c, .int .i64 g] 24)
        have u0 := PilAt.new w 24 c g
        go_enter Try.func40, Try.ntmps40
        go_wp2_with fail
        refine (HR.out _ (HI.out.below b0)).mono ?_
        rintro e w1 ⟨rfl, n1⟩
        have b1 := below_then b0 (Nat.le_refl _) n1
        have u1 := u0.below n1 (by simp)
        clear n1 b0 u0
        obtain ⟨x0, x1, x2⟩ := id u1
        go_wp2_with fail
        clear x0 x1 x2
        refine (HO.out _).mono ?_
        rintro e w2 ⟨rfl, n2⟩
        have b2 := below_then b1 (Nat.le_refl _) n2
        clear n2 b1 u1
        go_wp2_with fail
        refine (HP.out _).mono ?_
        rintro e w' ⟨rfl, rfl⟩
        go_wp2
        go_ret
        exact ⟨rfl, b2⟩
      · obtain ⟨p0, p1⟩ := hpb
        have HP := Lib.hid (fun w => l1In_yes p 0 200 w p0 p1)
        obtain ⟨hs, ho⟩ := (roB_iff _ _ _ _ _).1 hr
        obtain ⟨hA, h3⟩ := (sigB_iff n f).1 hs
        obtain ⟨-, k0, k1⟩ := (offB_iff _ _ _).1 ho
        rw [vf_yes hr p0 p1]
        obtain ⟨N, rfl⟩ : ∃ N : Nat, p = N := ⟨p.toNat, by omega⟩
        rw [Int.toNat_natCast]
        have hL := fun w => l5Length_yes c g w hp
        have hS := fun m w h hm => l5Score_yes v n f m c g k w h hA h3 hm hp (by have := (pil_nat hp); obtain ⟨_, -, -, -, -, -, -, -, -, -, q9⟩ := this; omega) (by have := (pil_nat hp); obtain ⟨_, -, -, -, -, -, -, -, -, -, q9⟩ := this; omega)
        have p9 : perL c g ≤ 2040 := by obtain ⟨_, -, -, -, -, -, -, -, -, -, q9⟩ := pil_nat hp; exact q9
        obtain ⟨P, hP⟩ : ∃ P, perL c g = P := ⟨_, rfl⟩
        rw [hP] at hL hS p9 ⊢
        have HL := Lib.hid hL
        have HS := Lib.hid hS
        have HC := Lib.hid (fun i => (show vfC n f c g.toNat P k t (i + 1) = vfC n f c g.toNat P k t i + (if t ≤ scr (n - i * P) (cutF (i * P) f) c g.toNat P k then 1 else 0) from rfl))
        have HCL := Lib.hid (fun i => vfC_le n f c g.toNat P k t i)
        have HMU := Lib.hid (fun i (hi : i ≤ 200) => (show i * P ≤ 200 * 2040 from Nat.mul_le_mul hi p9))
        clear hr hd hR hO hp hs ho hA h3 hL hS hP k0 k1
        obtain ⟨a, cap, rfl, -⟩ := h
        have b0 := (Below.refl w.heap.size w).alloc (Nat.le_refl _) (.cells #[.string c, .int .i64 g] 24)
        have u0 := PilAt.new w 24 c g
        go_enter Try.func40, Try.ntmps40
        go_wp2_with fail
        refine (HR.out _ (HI.out.below b0)).mono ?_
        rintro e w1 ⟨rfl, n1⟩
        have b1 := below_then b0 (Nat.le_refl _) n1
        have u1 := u0.below n1 (by simp)
        clear n1 b0 u0
        obtain ⟨x0, x1, x2⟩ := id u1
        go_wp2_with fail
        clear x0 x1 x2
        refine (HO.out _).mono ?_
        rintro e w2 ⟨rfl, n2⟩
        have b2 := below_then b1 (Nat.le_refl _) n2
        have u2 := u1.below n2 u1.2.2
        clear n2 b1 u1
        obtain ⟨x0, x1, x2⟩ := id u2
        go_wp2_with fail
        clear x0 x1 x2
        refine (HP.out _).mono ?_
        rintro e w' ⟨rfl, rfl⟩
        obtain ⟨bx, hbx⟩ : ∃ b, w.heap.size = b := ⟨_, rfl⟩
        have BB := Lib.hid b2
        rw [hbx] at u2 ⊢
        clear hbx
        go_wp2_with fail
        go_loopw [13, 14] (fun s i wr => ∃ j : Nat, j ≤ N ∧ i = .int .i64 j ∧ s = .int .i64 (vfC n f c g.toNat P k t j : Nat) ∧ Below w2.heap.size w2 wr) (fun _ i _ => N - (intOf i).toNat)
        case atStart => exact ⟨0, by omega, rfl, rfl, Below.refl _ _⟩
        case round =>
          obtain ⟨j, hj, rfl, rfl, rb⟩ := hrel
          have uj := u2.below rb u2.2.2
          by_cases hlt : j < N
          · have i0 : (0 : Int) ≤ (j : Int) := by omega
            have i1 : (j : Int) < (N : Int) := by omega
            have hcs := HC.out j
            have hcl := HCL.out j
            have hmu := HMU.out j (by omega)
            have hS := fun w h => HS.out (j * P) w h (by omega)
            obtain ⟨Q, hQ⟩ : ∃ Q, j * P = Q := ⟨_, rfl⟩
            have hQI : (j : Int) * (P : Int) = (Q : Int) := by rw [← hQ, Int.natCast_mul]
            rw [hQ] at hcs hS hmu
            obtain ⟨X, hX⟩ : ∃ X, scr (n - Q) (cutF Q f) c g.toNat P k = X := ⟨_, rfl⟩
            rw [hX] at hcs hS
            obtain ⟨C, hC⟩ : ∃ C, vfC n f c g.toNat P k t j = C := ⟨_, rfl⟩
            rw [hC] at hcs hcl ⊢
            have HSS := Lib.hid hS
            have HCS := Lib.hid hcs
            have v0 : IntKind.i64.wrap ((j : Int) * (P : Int)) = (Q : Int) := by rw [hQI]; exact IntWalk.i64_in _ (by omega)
            obtain ⟨x0, x1, x2⟩ := id uj
            clear hcs hS hQ hQI hX hC
            by_cases hx : t ≤ X
            all_goals
              go_wp2_with fail
              have r0 := Below.refl wr.heap.size wr
              go_region_held3 (fun wx => Below wr.heap.size wr wx ∧ wx.cell? ⟨bx, 0, none⟩ = some (.string c) ∧ wx.cell? ⟨bx, 1, none⟩ = some (.int .i64 g)) (first | exact ⟨k2, y2.1, y2.2.1⟩ | exact ⟨k1, y1.1, y1.2.1⟩ | exact ⟨r0.drew, x0, x1⟩) (first
                | (go_at_call 70; refine (HL.out _).mono ?_; rintro e w91 ⟨rfl, hB⟩; have k1 := below_then r0.drew (Nat.le_refl _) hB; have y1 := uj.below k1 x2; clear hB)
                | (go_at_call 76; refine (HSS.out _ (HI.out.below (below_then BB.out (Nat.le_refl _) (below_then rb (Nat.le_refl _) k1)))).mono ?_; rintro e w92 ⟨rfl, hB⟩; have k2 := below_then k1 (Nat.le_refl _) hB; have y2 := uj.below k2 x2; clear hB))
              have r5 := below_then rb (Nat.le_refl _) k2
              clear v0 r0 k1 k2 y1 y2 x0 x1 x2 uj rb
              go_wp2
              go_roundw
              case rel => exact ⟨j + 1, by omega, by go_num, by rw [HCS.out]; first | (rw [if_pos hx]; go_num) | (rw [if_neg (by omega)]; go_num), r5⟩
              case measure => simp [intOf]; omega
          · obtain rfl : j = N := by omega
            clear uj
            obtain ⟨C, hC⟩ : ∃ C, vfC n f c g.toNat P k t j = C := ⟨_, rfl⟩
            rw [hC]
            have HCC := Lib.hid hC
            clear hC
            go_wp2
            go_ret
            exact ⟨ret_bool (by rw [HCC.out]), below_then BB.out (Nat.le_refl _) rb⟩
theorem iSkip_any (b : Nat) (v : Value) (n : Nat) (f : Nat → Int) (vt : Value) (c : ByteArray) (G P : Nat) (w : World) (h : SrchOK w b v n f vt c G P) :
    Calls Try.prog 85 #[.pointer (some ⟨b, 0, none⟩)] w fun e w' => (∃ u, e = .returned u) ∧ (∃ v', SrchOK w' b v' (n - min P n) (cutF (min P n) f) vt c G P) ∧ w.grownBy w' (some b) := by
  have hh := h
  obtain ⟨⟨c0, c1, c2, c3, hb⟩, ⟨wz, hv0, ht0, hz, hbz⟩, hA, hn, q4, q7, q8, q9⟩ := h
  obtain ⟨L, hL⟩ : ∃ L, min P n = L := ⟨_, rfl⟩
  obtain ⟨a', cap', hcut, hcc⟩ := tailC hv0 L (by omega)
  have hcs : (P ≤ n ∧ P = L) ∨ (n < P ∧ n = L) := by omega
  have HR : Hid (∀ wr : World, wr.heap.size = w.heap.size → Below b w wr → wr.cell? ⟨b, 0, none⟩ = some (.slice a' (n - L) cap') → wr.cell? ⟨b, 1, none⟩ = some (.int .i64 (P : Int)) → wr.cell? ⟨b, 2, none⟩ = some vt → wr.frozen? ⟨b, 0, none⟩ = false → SrchOK wr b (.slice a' (n - L) cap') (n - L) (cutF L f) vt c G P) := Lib.hid
    (fun wr hs hbw e0 e1 e2 e3 => ⟨⟨e0, e1, e2, e3, by omega⟩, ⟨wz, hcc, ht0, hz, ⟨hbw.os.trans hbz.os, hbw.tape.trans hbz.tape, hbw.output.trans hbz.output, Nat.le_trans hbz.size hbw.size, fun k hk => (hbw.block k (by omega)).trans (hbz.block k hk)⟩⟩, allM_cut hA L, by omega, q4, q7, q8, q9⟩)
  obtain ⟨a, cap, rfl, -⟩ := hv0
  clear hcc hA q4 q7 ht0 hz hbz hh
  rw [hL]
  clear hL
  rcases hcs with ⟨hcs, rfl⟩ | ⟨hcs, rfl⟩
  · have t1 : decide ((P : Int) ≤ (n : Int)) = true := by simp only [decide_eq_true_eq]; omega
    have t2 : decide ((n : Int) < (P : Int)) = false := by simp only [decide_eq_false_iff_not]; omega
    have t3 : ¬ n < P := by omega
    go_enter Try.func85, Try.ntmps85
    go_wp2_with fail
    go_still_tail 18, (by kernel_rfl)
    clear t1 t2 t3
    go_wp2
    go_end0
    refine ⟨⟨_, rfl⟩, ⟨_, HR.out _ (by simp) ?_ ?_ ?_ ?_ ?_⟩, ?_⟩
    · exact below_drew (bytes_below (Below.refl _ _) (Nat.le_refl _) _ _)
    · first | exact World.cell?_setCell_same _ _ _ c0 | (rw [Nat.sub_self]; exact World.cell?_setCell_same _ _ _ c0)
    · exact (World.cell?_setCell_other w ⟨b, 0, none⟩ ⟨b, 1, none⟩ _ (by simp)).trans c1
    · exact (World.cell?_setCell_other w ⟨b, 0, none⟩ ⟨b, 2, none⟩ _ (by simp)).trans c2
    · exact (show (w.setCell ⟨b, 0, none⟩ _).frozen? ⟨b, 0, none⟩ = false by rw [World.frozen?_setCell]; exact c3)
    · exact (cell_row _ _ _ _).trans (drewRowP _ _)
  · have t1 : decide ((P : Int) ≤ (n : Int)) = false := by simp only [decide_eq_false_iff_not]; omega
    have t2 : decide ((n : Int) < (P : Int)) = true := by simp only [decide_eq_true_eq]; omega
    have t3 : n < P := by omega
    go_enter Try.func85, Try.ntmps85
    go_wp2_with fail
    go_still_tail 18, (by kernel_rfl)
    clear t1 t2 t3
    go_wp2
    go_end0
    refine ⟨⟨_, rfl⟩, ⟨_, HR.out _ (by simp) ?_ ?_ ?_ ?_ ?_⟩, ?_⟩
    · exact below_drew (bytes_below (Below.refl _ _) (Nat.le_refl _) _ _)
    · first | exact World.cell?_setCell_same _ _ _ c0 | (rw [Nat.sub_self]; exact World.cell?_setCell_same _ _ _ c0)
    · exact (World.cell?_setCell_other w ⟨b, 0, none⟩ ⟨b, 1, none⟩ _ (by simp)).trans c1
    · exact (World.cell?_setCell_other w ⟨b, 0, none⟩ ⟨b, 2, none⟩ _ (by simp)).trans c2
    · exact (show (w.setCell ⟨b, 0, none⟩ _).frozen? ⟨b, 0, none⟩ = false by rw [World.frozen?_setCell]; exact c3)
    · exact (cell_row _ _ _ _).trans (drewRowP _ _)
set_option maxHeartbeats 3200000 in
theorem iVerify_any (v : Value) (n : Nat) (f : Nat → Int) (c : ByteArray) (g k t p d : Int) (w : World) (h : IntsC w v n f) (hn : n ≤ 1048576) (hc : c.size ≤ 1048576) :
    Calls Try.prog 39 #[v, .agg #[.string c, .int .i64 g], .int .i64 k, .int .i64 t, .int .i64 p, .int .i64 d] w fun e w' => e = .returned (.bool (vfAns n f c g k t p d)) ∧ Below w.heap.size w w' := by
  have HI := Lib.hid h
  cases hr : roB n f c g k with
  | false =>
    have HA := Lib.hid (fun w h => iAt_no v n f c g k w h hn hc (ro_no hr))
    rw [vf_no (by rw [hr]; simp)]
    clear hr
    obtain ⟨a, cap, rfl, -⟩ := h
    have b0 := (Below.refl w.heap.size w).alloc (Nat.le_refl _) (.cells #[.string c, .int .i64 g] 24)
    have u0 := PilAt.new w 24 c g
    go_enter Try.func39, Try.ntmps39
    go_wp2_with fail
    refine (HA.out _ (HI.out.below b0)).mono ?_
    rintro e w1 ⟨rfl, n1⟩
    have b1 := below_then b0 (Nat.le_refl _) n1
    clear n1 b0 u0
    go_wp2
    go_ret
    exact ⟨rfl, b1⟩
  | true =>
    obtain ⟨hs, ho⟩ := (roB_iff _ _ _ _ _).1 hr
    obtain ⟨hp, k0, k1⟩ := (offB_iff _ _ _).1 ho
    have p9 : perL c g ≤ 2040 := by obtain ⟨_, -, -, -, -, -, -, -, -, -, q9⟩ := pil_nat hp; exact q9
    have HA := Lib.hid (fun w h => iAt_yes v n f c g k w h hs ho)
    by_cases hpb : p < 0
    · rw [vf_no (by omega)]
      clear hr hs ho hp k0 k1 p9
      obtain ⟨a, cap, rfl, -⟩ := h
      have b0 := (Below.refl w.heap.size w).alloc (Nat.le_refl _) (.cells #[.string c, .int .i64 g] 24)
      have u0 := PilAt.new w 24 c g
      go_enter Try.func39, Try.ntmps39
      go_wp2_with fail
      refine (HA.out _ (HI.out.below b0)).mono ?_
      rintro e w1 ⟨bs, vt, rfl, HR, hb, n1⟩
      have b1 := below_then b0 (Nat.le_refl _) n1
      clear n1 b0 u0
      clear HR hb
      go_wp2
      go_ret
      exact ⟨rfl, b1⟩
    by_cases hpc : 200 < p
    · rw [vf_no (by omega)]
      clear hr hs ho hp k0 k1 p9
      obtain ⟨a, cap, rfl, -⟩ := h
      have b0 := (Below.refl w.heap.size w).alloc (Nat.le_refl _) (.cells #[.string c, .int .i64 g] 24)
      have u0 := PilAt.new w 24 c g
      go_enter Try.func39, Try.ntmps39
      go_wp2_with fail
      refine (HA.out _ (HI.out.below b0)).mono ?_
      rintro e w1 ⟨bs, vt, rfl, HR, hb, n1⟩
      have b1 := below_then b0 (Nat.le_refl _) n1
      clear n1 b0 u0
      clear HR hb
      go_wp2
      go_ret
      exact ⟨rfl, b1⟩
    rw [vf_yes hr (by omega) (by omega)]
    obtain ⟨N, rfl⟩ : ∃ N : Nat, p = N := ⟨p.toNat, by omega⟩
    rw [Int.toNat_natCast]
    obtain ⟨G, hG⟩ : ∃ G, g.toNat = G := ⟨_, rfl⟩
    obtain ⟨P, hP⟩ : ∃ P, perL c g = P := ⟨_, rfl⟩
    rw [hG, hP] at HA ⊢
    have HS := Lib.hid (fun b v n f vt w h => iScore_any b v n f vt c G P k w h (by omega) (by omega))
    have HK := Lib.hid (fun b v n f vt w h => iSkip_any b v n f vt c G P w h)
    have HC := Lib.hid (fun i => (show vfC n f c G P k t (i + 1) = vfC n f c G P k t i + (if t ≤ scr (n - i * P) (cutF (i * P) f) c G P k then 1 else 0) from rfl))
    have HCL := Lib.hid (fun i => vfC_le n f c G P k t i)
    have HN := Lib.hid (fun j => min_next j P n)
    have HPA := Lib.hid (fun m => scr_past n f c G P m k)
    clear hr hs ho hp k0 k1 p9 hG hP
    obtain ⟨a, cap, rfl, -⟩ := h
    have b0 := (Below.refl w.heap.size w).alloc (Nat.le_refl _) (.cells #[.string c, .int .i64 g] 24)
    have u0 := PilAt.new w 24 c g
    go_enter Try.func39, Try.ntmps39
    go_wp2_with fail
    refine (HA.out _ (HI.out.below b0)).mono ?_
    rintro e w1 ⟨bs, vt, rfl, HR, hb, n1⟩
    have b1 := below_then b0 (Nat.le_refl _) n1
    clear n1 b0 u0
    have hR0 : ∃ v', SrchOK w1 bs v' (n - min (0 * P) n) (cutF (min (0 * P) n) f) vt c G P := ⟨_, by rw [Nat.zero_mul, Nat.zero_min, Nat.sub_zero, cutF_zero]; exact HR⟩
    have HR0 := Lib.hid hR0
    have BB := Lib.hid b1
    have hbs : w.heap.size ≤ bs := Nat.le_trans (by simp) hb
    clear HR hR0 b1 hb
    go_wp2_with fail
    go_loopw [15, 34] (fun s i wr => ∃ j : Nat, j ≤ N ∧ i = .int .i64 j ∧ s = .int .i64 (vfC n f c G P k t j : Nat) ∧ (∃ v', SrchOK wr bs v' (n - min (j * P) n) (cutF (min (j * P) n) f) vt c G P) ∧ Below w.heap.size w wr) (fun _ i _ => N - (intOf i).toNat)
    case atStart => exact ⟨0, by omega, rfl, rfl, HR0.out, BB.out⟩
    case round =>
      obtain ⟨j, hj, rfl, rfl, ⟨v1, rS⟩, rb⟩ := hrel
      by_cases hlt : j < N
      · have i0 : (0 : Int) ≤ (j : Int) := by omega
        have i1 : (j : Int) < (N : Int) := by omega
        have hcs := HC.out j
        have hcl := HCL.out j
        have hpa := HPA.out (j * P)
        have hnx := HN.out j
        have hS := fun w h => HS.out bs v1 (n - min (j * P) n) (cutF (min (j * P) n) f) vt w h
        rw [hpa] at hS
        have hK := fun w h => HK.out bs v1 (n - min (j * P) n) (cutF (min (j * P) n) f) vt w h
        rw [cut_cut, hnx, show n - min (j * P) n - min P (n - min (j * P) n) = n - min ((j + 1) * P) n by omega] at hK
        obtain ⟨X, hX⟩ : ∃ X, scr (n - j * P) (cutF (j * P) f) c G P k = X := ⟨_, rfl⟩
        rw [hX] at hcs hS
        obtain ⟨C, hC⟩ : ∃ C, vfC n f c G P k t j = C := ⟨_, rfl⟩
        rw [hC] at hcs hcl ⊢
        have HSS := Lib.hid hS
        have HCS := Lib.hid hcs
        have HKK := Lib.hid hK
        have HRS := Lib.hid rS
        clear hcs hS hX hC hpa hnx hK rS
        by_cases hx : t ≤ X
        all_goals
          go_wp2_with fail
          refine (HSS.out _ HRS.out).mono ?_
          rintro e w' ⟨rfl, m, rfl⟩
          have r1 := below_drewN rb m
          have HR1 := Lib.hid (HRS.out.below (below_drewN (Below.refl _ _) m))
          clear rb HRS
          go_wp2_with fail
          refine (HKK.out _ HR1.out).mono ?_
          rintro e w7 ⟨⟨u, rfl⟩, HS7, g7⟩
          have r7 : Below w.heap.size w w7 := r1.grown g7 r1.size (fun q hq => by cases hq; omega)
          clear r1 HR1 g7
          go_wp2
          go_roundw
          case rel => exact ⟨j + 1, by omega, by go_num, by rw [HCS.out]; first | (rw [if_pos hx]; go_num) | (rw [if_neg (by omega)]; go_num), HS7, r7⟩
          case measure => simp [intOf]; omega
      · obtain rfl : j = N := by omega
        obtain ⟨C, hC⟩ : ∃ C, vfC n f c G P k t j = C := ⟨_, rfl⟩
        rw [hC]
        have HCC := Lib.hid hC
        clear hC rS
        go_wp2
        go_ret
        exact ⟨ret_bool (by rw [HCC.out]), rb⟩
end Go.Proofs.Ytmeooebklohdfaa
