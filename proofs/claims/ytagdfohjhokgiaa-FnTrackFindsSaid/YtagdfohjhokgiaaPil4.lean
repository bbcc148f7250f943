/- The program's samples of a pilot, its search and its scores. -/
import Derived.Test.YtagdfohjhokgiaaPil2
import Derived.StillTailTactics
namespace Go.Proofs.Ytagdfohjhokgiaa
open Go.RowKit
set_option linter.unusedVariables false
set_option maxRecDepth 100000
set_option maxHeartbeats 1600000 in
theorem iSamples_yes (c : ByteArray) (g k : Int) (q : Nat) (w : World) (h : pilB c g = true) (h0 : -5000 ≤ k) (h1 : k ≤ 5000) (hq : q ≤ 10000) :
    Calls Try.prog 44 #[.agg #[.string c, .int .i64 g], .int .i64 k, .int .i64 (q : Int)] w fun e w' => ∃ v, e = .returned v ∧ OF w' w.heap.size v q (plF c g.toNat (perL c g) k) ∧ Below w.heap.size w w' := by
  obtain ⟨G, rfl, q1, q2, q3, q4, q5, q6, q7, q8, q9⟩ := pil_nat h
  rw [Int.toNat_natCast]
  obtain ⟨P, hP⟩ : ∃ P, perL c G = P := ⟨_, rfl⟩
  rw [hP] at q7 q8 q9 ⊢
  have hPI : (c.size : Int) * (G : Int) = (P : Int) := by rw [← q7, Int.natCast_mul]
  have HM := Lib.hid (fun x w => modulo_big x P w (by omega) (by omega))
  have HCH := Lib.hid (fun w => iChips_yes c w q4 (by omega))
  have HIX := Lib.hid (fun x => pl_idx q7 q8 x)
  have HML := Lib.hid (fun x => modN_lt x P (by omega))
  have HPL : Hid (∀ i, plF c G P k i = chF c (modN ((i : Int) - k) P / G)) := Lib.hid (fun i => rfl)
  have hmk := make_ints q (by omega)
  have b0 := (Below.refl w.heap.size w).alloc (Nat.le_refl _) (.cells #[.string c, .int .i64 (G : Int)] 24)
  have u0 := PilAt.new w 24 c G
  clear q3 q4 q7 hP h
  go_enter Try.func44, Try.ntmps44
  go_wp2_with fail
  refine (HCH.out _).mono ?_
  rintro e w1 ⟨vc, rfl, OC, n1⟩
  have b1 := below_then b0 (Nat.le_refl _) n1
  have u1 := u0.below n1 (by simp)
  have hsz := b1.size
  obtain ⟨ac, capc, rfl, hoc⟩ := OC.form
  obtain ⟨gc, rfl, -, hg, hcells⟩ := hoc (by omega)
  have HG := Lib.hid hg
  have HCC := Lib.hid hcells
  obtain ⟨B, hB⟩ : ∃ B, w.heap.size = B := ⟨_, rfl⟩
  rw [hB] at u1 ⊢
  have HBB := Lib.hid b1
  clear n1 b0 u0 OC hoc hcells hg hB b1
  obtain ⟨x0, x1, x2⟩ := id u1
  have HO0 := Lib.hid ((OF.made w1 q (by omega)).congr (g := fun j => if j < 0 then plF c G P k j else 0) (fun j _ => by simp))
  have HB0 := Lib.hid ((Below.refl w1.heap.size w1).alloc (Nat.le_refl _) (.cells (madeCells #[.int .i64 0] q) 3))
  go_wp2
  clear hPI
  go_loopw [23] (fun t wr => ∃ i : Nat, i ≤ q ∧ t = .int .i64 i ∧ OF wr w1.heap.size (.slice (some ⟨w1.heap.size, 0, none⟩) q q) q (fun j => if j < i then plF c G P k j else 0) ∧ Below w1.heap.size w1 wr) (fun t _ => q - (intOf t).toNat)
  case atStart => exact ⟨0, by omega, rfl, HO0.out, HB0.out⟩
  case round =>
    obtain ⟨i, hi, rfl, rO, rb⟩ := hrel
    clear hmk x0 x1 x2
    by_cases hlt : i < q
    · obtain ⟨x0, x1, x2⟩ := u1.below rb u1.2.2
      have hix := HIX.out ((i : Int) - k)
      have hml := HML.out ((i : Int) - k)
      have hpl := HPL.out i
      have hm := fun w => HM.out ((i : Int) - k) w
      obtain ⟨M, hM⟩ : ∃ M, modN ((i : Int) - k) P = M := ⟨_, rfl⟩
      rw [hM] at hix hml hpl hm
      have hd : (M : Int) / (G : Int) = ((M / G : Nat) : Int) := by rw [Int.natCast_ediv]
      obtain ⟨D, hD⟩ : ∃ D, M / G = D := ⟨_, rfl⟩
      rw [hD] at hix hpl hd
      have c1 := (rb.cell (p := ⟨gc, D, none⟩) HG.out).trans (HCC.out D hix).1
      obtain ⟨C, hC⟩ : ∃ C, chF c D = C := ⟨_, rfl⟩
      rw [hC] at c1 hpl
      obtain ⟨s1, s2⟩ := rO.at i hlt
      have i0 : (0 : Int) ≤ (i : Int) := by omega
      have i1 : (i : Int) < (q : Int) := by omega
      have d0 : (0 : Int) ≤ (D : Int) := by omega
      have d1 : (D : Int) < (c.size : Int) := by omega
      have n0 : ¬ (G : Int) = 0 := by omega
      have n1 : ((G : Int) == 0) = false := by rw [beq_eq_false_iff_ne]; omega
      have n2 : ¬ G = 0 := by omega
      have v0 : IntKind.i64.wrap ((i : Int) - k) = (i : Int) - k := IntWalk.i64_in _ (by omega)
      have v2 : (M : Int).tdiv (G : Int) = (D : Int) := by rw [Int.tdiv_eq_ediv_of_nonneg (by omega)]; exact hd
      have v3 : IntKind.i64.wrap (D : Int) = (D : Int) := IntWalk.i64_in _ (by omega)
      have HMM := Lib.hid hm
      have nO : Hid (OF (wr.setCell ⟨w1.heap.size, i, none⟩ (.int .i64 C)).drew w1.heap.size (.slice (some ⟨w1.heap.size, 0, none⟩) q q) q (fun j => if j < i + 1 then plF c G P k j else 0)) :=
        Lib.hid (OF.below (rO.set i C hlt (fun j hj => by
          by_cases e : j = i
          · subst e; rw [if_pos (by omega), if_pos rfl]; exact hpl
          · rw [if_neg e]
            by_cases e' : j < i
            · rw [if_pos (by omega), if_pos e']
            · rw [if_neg (by omega), if_neg e'])) (below_drew (Below.refl _ _)))
      have nb : Hid (Below w1.heap.size w1 (wr.setCell ⟨w1.heap.size, i, none⟩ (.int .i64 C)).drew) := Lib.hid (below_drew (bytes_below rb (Nat.le_refl _) _ _))
      clear rO rb hpl hM hm hd hD hC hix hml
      go_wp2_with fail
      go_still_tail 14, (by kernel_rfl)
      still_call (same_of (HMM.out _))
      repeat still_step
      try refine wpStill_nil ?_
      clear v0 v2 v3 n0 n1 n2 c1 x0 x1 x2 d0 d1
      go_wp2
      go_roundw
      case rel => exact ⟨i + 1, by omega, by go_num, nO.out, nb.out⟩
      case measure => simp [intOf]; omega
    · obtain rfl : i = q := by omega
      have nO := rO.congr (g := plF c G P k) (fun j hj => by rw [if_pos hj])
      have b3 := below_then HBB.out (Nat.le_refl _) rb
      have HO := Lib.hid (nO.mono HBB.out.size)
      clear rO nO
      go_wp2
      go_ret
      exact ⟨_, rfl, HO.out, b3⟩
theorem frozen_box (w : World) (c : Array Value) (t : TypeId) (o : Nat) : (w.alloc (.cells c t)).frozen? ⟨w.heap.size, o, none⟩ = false :=
  frozen_of_row _ _ _ c t (by show (w.heap.push _)[w.heap.size]? = _; simp)
/-- A box with a search. -/
def SrchAt (w : World) (b : Nat) (v : Value) (P : Nat) (vt : Value) : Prop :=
  w.cell? ⟨b, 0, none⟩ = some v ∧ w.cell? ⟨b, 1, none⟩ = some (.int .i64 (P : Int)) ∧ w.cell? ⟨b, 2, none⟩ = some vt ∧ w.frozen? ⟨b, 0, none⟩ = false ∧ b < w.heap.size
theorem SrchAt.below {w w' : World} {b B P : Nat} {v vt : Value} (h : SrchAt w b v P vt) (hb : Below B w w') (hB : b < B) : SrchAt w' b v P vt :=
  ⟨(hb.cell (p := ⟨b, 0, none⟩) hB).trans h.1, (hb.cell (p := ⟨b, 1, none⟩) hB).trans h.2.1, (hb.cell (p := ⟨b, 2, none⟩) hB).trans h.2.2.1, (hb.frozen (p := ⟨b, 0, none⟩) hB).trans h.2.2.2.1, Nat.lt_of_lt_of_le h.2.2.2.2 hb.size⟩
/-- The first m numbers of a slice, by x[:m]. -/
theorem headP {w : World} {a : Option Addr} {n cap : Nat} {f : Nat → Int} (h : IntsC w (.slice a n cap) n f) (m : Nat) (hm : m ≤ n) : (∀ w1, (Instr.sliceAt 28 (.slice a n cap) none (some (.int .i64 (m : Int))) none).run Try.prog w1 = .ok (.slice a m cap) w1) ∧
    IntsC w (.slice a m cap) m f := by
  obtain ⟨a', cap', e, hcap, hc⟩ := h
  injection e with e1 e2 e3
  subst e1 e3
  refine ⟨fun w1 => ?_, ⟨a, cap, rfl, by omega, fun i hi => hc i (by omega)⟩⟩
  rw [run_sliceAt_slice w1 28 _ _ _ _ (by kernel_rfl), run_slice_h w1 28 a n cap (by kernel_rfl) .i64 _ (by omega) (by omega), ints_elem]
  simp [Result.andThen, sliced]
  intro _
  cases a with
  | none => rfl
  | some x =>
    show some (x.add 0) = some x
    congr 1
/-- What a search needs: a signal, a period of a code, two periods of the pilot; the numbers lie in older blocks than the box. -/
def SrchOK (w : World) (b : Nat) (v : Value) (n : Nat) (f : Nat → Int) (vt : Value) (c : ByteArray) (G P : Nat) : Prop :=
  SrchAt w b v P vt ∧ (∃ w0 : World, IntsC w0 v n f ∧ IntsC w0 vt (2 * P) (plF c G P 0) ∧ w0.heap.size ≤ b ∧ Below w0.heap.size w0 w) ∧ allM n f = true ∧ n ≤ 3000 ∧ okB c c.size = true ∧ c.size * G = P ∧ 1 ≤ P ∧ P ≤ 2040
theorem SrchOK.below {w w' : World} {b n : Nat} {v vt : Value} {f : Nat → Int} {c : ByteArray} {G P : Nat} (h : SrchOK w b v n f vt c G P) (hb : Below w.heap.size w w') : SrchOK w' b v n f vt c G P := by
  obtain ⟨h1, ⟨w0, h2, h3, h4, h5⟩, h6⟩ := h
  exact ⟨h1.below hb h1.2.2.2.2, ⟨w0, h2, h3, h4, below_then h5 (Nat.le_refl _) hb⟩, h6⟩
set_option maxHeartbeats 1600000 in
theorem iScore_any (b : Nat) (v : Value) (n : Nat) (f : Nat → Int) (vt : Value) (c : ByteArray) (G P : Nat) (k : Int) (w : World) (h : SrchOK w b v n f vt c G P) (h0 : -10000 ≤ k) (h1 : k ≤ 10000) :
    Calls Try.prog 47 #[.pointer (some ⟨b, 0, none⟩), .int .i64 k] w fun e w' => e = .returned (.int .i64 (scr n f c G P k)) ∧ ∃ m, w.drewN m = w' := by
  obtain ⟨⟨c0, c1, c2, -, hb⟩, ⟨wz, hv0, ht0, -, hbz⟩, hA, hn, q4, q7, q8, q9⟩ := h
  have hv := hv0.below hbz
  have ht := ht0.below hbz
  clear hv0 ht0 hbz
  have hm := fun w => modulo_big k P w (by omega) (by omega)
  have hml := modN_lt k P (by omega)
  have HBK := Lib.hid (fun i => pl_back c G P k i q8)
  have HZ := Lib.hid (fun i (hi : i < n) => allM_at hA hi)
  have HBD := Lib.hid (fun j (hj : j ≤ n) => scT_bd (f := f) q4 q7 q8 k j (fun i hi => allM_at hA (by omega)))
  have HPL := Lib.hid (fun j => pl_bd q4 q7 q8 k j)
  have HST := Lib.hid (fun j => scT_succ f c G P k j)
  have HSR : Hid (scr n f c G P k = scT f c G P k (min P n)) := Lib.hid rfl
  obtain ⟨SR, hSR⟩ : ∃ S, scr n f c G P k = S := ⟨_, rfl⟩
  rw [hSR] at HSR ⊢
  obtain ⟨L, hL⟩ : ∃ L, min P n = L := ⟨_, rfl⟩
  rw [hL] at HSR
  obtain ⟨M, hM⟩ : ∃ M, modN k P = M := ⟨_, rfl⟩
  rw [hM] at hm hml HBK
  obtain ⟨a', cap', hcut, hcc⟩ := tailC ht (P - M) (by omega)
  obtain ⟨Q, hQ⟩ : ∃ Q, P - M = Q := ⟨_, rfl⟩
  rw [hQ] at hcut hcc HBK
  have hv' := hv
  obtain ⟨a, cap, rfl, -⟩ := hv
  obtain ⟨hhd, hhc⟩ := headP hv' L (by omega)
  obtain ⟨ta, tc, rfl, -⟩ := ht
  obtain ⟨R, hR⟩ : ∃ R, 2 * P - Q = R := ⟨_, rfl⟩
  rw [hR] at hcut hcc
  have HCC := Lib.hid (show IntsC w (.slice a' R cap') R (fun i => plF c G P 0 (Q + i)) from hcc)
  have HHC := Lib.hid hhc
  have HRL := Lib.hid (show P ≤ R by omega)
  have v0 : IntKind.i64.wrap ((P : Int) - (M : Int)) = (Q : Int) := by rw [show (P : Int) - (M : Int) = (Q : Int) by omega]; exact IntWalk.i64_in _ (by omega)
  have d0 : (0 : Int) ≤ (Q : Int) := by omega
  have d1 : (Q : Int) ≤ ((2 * P : Nat) : Int) := by omega
  have HM := Lib.hid hm
  have hL1 : L ≤ P := by omega
  have hL2 : L ≤ n := by omega
  have hcs : (P ≤ n ∧ P = L) ∨ (n < P ∧ n = L) := by omega
  clear hm hcc hhc hA q4 q7 hSR hL hM hQ hR hv'
  go_enter Try.func47, Try.ntmps47
  go_wp2_with fail
  go_quiet ((go_at_call 26; exact quiet_same (HM.out _)))
  obtain ⟨m1, hm1⟩ : ∃ m, m = nq := ⟨_, rfl⟩
  obtain ⟨W, hW⟩ : ∃ W, w.drewN nq = W := ⟨_, rfl⟩
  have e0 : W.cell? ⟨b, 0, none⟩ = some (.slice a n cap) := by rw [← hW]; exact c0
  have e1 : W.cell? ⟨b, 1, none⟩ = some (.int .i64 (P : Int)) := by rw [← hW]; exact c1
  rw [← hm1] at hW
  have HW := Lib.hid hW
  rw [← hm1, hW]
  clear hW hm1 c0 c1 c2 hcut v0 d0 d1
  rcases hcs with ⟨hcs, rfl⟩ | ⟨hcs, rfl⟩
  · have t1 : decide ((P : Int) ≤ (n : Int)) = true := by simp only [decide_eq_true_eq]; omega
    have t2 : decide ((n : Int) < (P : Int)) = false := by simp only [decide_eq_false_iff_not]; omega
    go_wp2_with fail
    go_quiet (fail)
    clear t1 t2 e0 e1 hhd hcs
    obtain ⟨m2, hm2⟩ : ∃ m, m = nq := ⟨_, rfl⟩
    obtain ⟨V, hV⟩ : ∃ V, W.drewN nq = V := ⟨_, rfl⟩
    have HV : Hid (∃ m, w.drewN m = V) := Lib.hid ⟨m1 + nq, by rw [← hV, ← HW.out, World.drewN_drewN]⟩
    have HVC : Hid (∀ x : Addr, V.cell? x = w.cell? x) := Lib.hid (fun x => by rw [← hV, ← HW.out]; rfl)
    rw [hV]
    clear hV hm2 HW
    go_wp2
    go_loop [6, 41] (fun s t => ∃ j : Nat, j ≤ P ∧ t = .int .i64 j ∧ s = .int .i64 (scT f c G P k j)) (fun _ t => P - (intOf t).toNat)
    case atStart => exact ⟨0, by omega, rfl, rfl⟩
    case round =>
      obtain ⟨j, hj, rfl, rfl⟩ := hrel
      by_cases hlt : j < P
      · obtain ⟨_, _, z1, -, z2⟩ := HHC.out
        injection z1 with z1 _ _
        obtain ⟨x, z3, -, z4⟩ := z2 j hlt
        have z5 := z1.trans z3
        subst z5
        obtain ⟨_, _, y1, -, y2⟩ := HCC.out
        injection y1 with y1 _ _
        obtain ⟨y, y3, -, y4⟩ := y2 j (by have := HRL.out; omega)
        have y5 := y1.trans y3
        subst y5
        clear z1 z2 z3 y1 y2 y3
        have y4 : w.cell? (y.add j) = some (.int .i64 (plF c G P 0 (Q + j))) := y4
        rw [HBK.out j] at y4
        rw [← HVC.out] at z4 y4
        obtain ⟨t1, t2⟩ := HZ.out j (by omega)
        obtain ⟨p1, p2⟩ := chip_bd t1 t2 (HPL.out j)
        obtain ⟨e1, e2⟩ := HBD.out j (by omega)
        have hst := HST.out j
        obtain ⟨S, hS⟩ : ∃ S, scT f c G P k j = S := ⟨_, rfl⟩
        rw [hS] at e1 e2 hst ⊢
        obtain ⟨u, hu⟩ : ∃ y, f j = y := ⟨_, rfl⟩
        rw [hu] at z4 t1 t2 p1 p2 hst
        obtain ⟨C, hC⟩ : ∃ C, plF c G P k j = C := ⟨_, rfl⟩
        rw [hC] at y4 p1 p2 hst
        obtain ⟨Y, hY⟩ : ∃ Y, u * C = Y := ⟨_, rfl⟩
        rw [hY] at p1 p2 hst
        have HS := Lib.hid hst
        have i0 : (0 : Int) ≤ (j : Int) := by omega
        have i1 : (j : Int) < (P : Int) := by omega
        have i2 : (j : Int) < (R : Int) := by have := HRL.out; omega
        clear hst hS hu hC
        go_wp2
        go_round
        case rel => exact ⟨j + 1, by omega, by go_num, by rw [HS.out]⟩
        case measure => simp [intOf]; omega
      · obtain rfl : P = j := by omega
        go_wp2
        go_ret
        exact ⟨ret_int HSR.out.symm, HV.out⟩
  · have t1 : decide ((P : Int) ≤ (n : Int)) = false := by simp only [decide_eq_false_iff_not]; omega
    have t2 : decide ((n : Int) < (P : Int)) = true := by simp only [decide_eq_true_eq]; omega
    go_wp2_with fail
    go_quiet (fail)
    clear t1 t2 e0 e1 hhd hcs
    obtain ⟨m2, hm2⟩ : ∃ m, m = nq := ⟨_, rfl⟩
    obtain ⟨V, hV⟩ : ∃ V, W.drewN nq = V := ⟨_, rfl⟩
    have HV : Hid (∃ m, w.drewN m = V) := Lib.hid ⟨m1 + nq, by rw [← hV, ← HW.out, World.drewN_drewN]⟩
    have HVC : Hid (∀ x : Addr, V.cell? x = w.cell? x) := Lib.hid (fun x => by rw [← hV, ← HW.out]; rfl)
    rw [hV]
    clear hV hm2 HW
    go_wp2
    go_loop [6, 41] (fun s t => ∃ j : Nat, j ≤ n ∧ t = .int .i64 j ∧ s = .int .i64 (scT f c G P k j)) (fun _ t => n - (intOf t).toNat)
    case atStart => exact ⟨0, by omega, rfl, rfl⟩
    case round =>
      obtain ⟨j, hj, rfl, rfl⟩ := hrel
      by_cases hlt : j < n
      · obtain ⟨_, _, z1, -, z2⟩ := HHC.out
        injection z1 with z1 _ _
        obtain ⟨x, z3, -, z4⟩ := z2 j hlt
        have z5 := z1.trans z3
        subst z5
        obtain ⟨_, _, y1, -, y2⟩ := HCC.out
        injection y1 with y1 _ _
        obtain ⟨y, y3, -, y4⟩ := y2 j (by have := HRL.out; omega)
        have y5 := y1.trans y3
        subst y5
        clear z1 z2 z3 y1 y2 y3
        have y4 : w.cell? (y.add j) = some (.int .i64 (plF c G P 0 (Q + j))) := y4
        rw [HBK.out j] at y4
        rw [← HVC.out] at z4 y4
        obtain ⟨t1, t2⟩ := HZ.out j (by omega)
        obtain ⟨p1, p2⟩ := chip_bd t1 t2 (HPL.out j)
        obtain ⟨e1, e2⟩ := HBD.out j (by omega)
        have hst := HST.out j
        obtain ⟨S, hS⟩ : ∃ S, scT f c G P k j = S := ⟨_, rfl⟩
        rw [hS] at e1 e2 hst ⊢
        obtain ⟨u, hu⟩ : ∃ y, f j = y := ⟨_, rfl⟩
        rw [hu] at z4 t1 t2 p1 p2 hst
        obtain ⟨C, hC⟩ : ∃ C, plF c G P k j = C := ⟨_, rfl⟩
        rw [hC] at y4 p1 p2 hst
        obtain ⟨Y, hY⟩ : ∃ Y, u * C = Y := ⟨_, rfl⟩
        rw [hY] at p1 p2 hst
        have HS := Lib.hid hst
        have i0 : (0 : Int) ≤ (j : Int) := by omega
        have i1 : (j : Int) < (n : Int) := by omega
        have i2 : (j : Int) < (R : Int) := by have := HRL.out; omega
        clear hst hS hu hC
        go_wp2
        go_round
        case rel => exact ⟨j + 1, by omega, by go_num, by rw [HS.out]⟩
        case measure => simp [intOf]; omega
      · obtain rfl : n = j := by omega
        go_wp2
        go_ret
        exact ⟨ret_int HSR.out.symm, HV.out⟩
set_option maxHeartbeats 1600000 in
theorem iNew_yes (v : Value) (n : Nat) (f : Nat → Int) (c : ByteArray) (g : Int) (w : World) (h : IntsC w v n f) (hs : sigB n f = true) (hp : pilB c g = true) :
    Calls Try.prog 48 #[v, .agg #[.string c, .int .i64 g]] w fun e w' => ∃ b vt, e = .returned (.tuple #[.pointer (some ⟨b, 0, none⟩), .bool true]) ∧ SrchOK w' b v n f vt c g.toNat (perL c g) ∧ w.heap.size ≤ b ∧ Below w.heap.size w w' := by
  obtain ⟨hA, h3⟩ := (sigB_iff n f).1 hs
  obtain ⟨G, rfl, q1, q2, q3, q4, q5, q6, q7, q8, q9⟩ := pil_nat hp
  have HI := Lib.hid h
  have HB := Lib.hid (fun w h => iSig_any v n f w h (by omega))
  rw [hs] at HB
  have HV := Lib.hid (fun w => iPilot_any c G w (by omega))
  rw [hp] at HV
  have HL := Lib.hid (fun w => iPLen_any c G w (by omega))
  rw [show lenAns c (G : Int) = (perL c G : Int) by unfold lenAns; rw [hp]; rfl] at HL
  have HS := Lib.hid (fun w => iSamples_yes c G 0 (2 * perL c G) w hp (by omega) (by omega) (by omega))
  rw [Int.toNat_natCast] at HS ⊢
  obtain ⟨P, hP⟩ : ∃ P, perL c G = P := ⟨_, rfl⟩
  rw [hP] at HL HS q7 q8 q9 ⊢
  have h2P : ((2 * P : Nat) : Int) = 2 * (P : Int) := by omega
  rw [h2P] at HS
  have HK := Lib.hid (show allM n f = true ∧ n ≤ 3000 ∧ okB c c.size = true ∧ c.size * G = P ∧ 1 ≤ P ∧ P ≤ 2040 from ⟨hA, h3, q4, q7, q8, q9⟩)
  obtain ⟨a, cap, rfl, -⟩ := h
  have b0 := (Below.refl w.heap.size w).alloc (Nat.le_refl _) (.cells #[.string c, .int .i64 (G : Int)] 24)
  have u0 := PilAt.new w 24 c G
  clear hs hp hA h3 q3 q4 q7 hP h2P
  go_enter Try.func48, Try.ntmps48
  go_wp2_with fail
  refine (HB.out _ (HI.out.below b0).ints).mono ?_
  rintro e w' ⟨rfl, rfl⟩
  obtain ⟨x0, x1, x2⟩ := id u0
  go_wp2_with fail
  clear x0 x1 x2
  refine (HV.out _).mono ?_
  rintro e w1 ⟨rfl, n1⟩
  have b1 := below_then b0 (Nat.le_refl _) n1
  have u1 := u0.below n1 (by simp)
  clear n1 b0 u0
  obtain ⟨x0, x1, x2⟩ := id u1
  go_wp2_with fail
  clear x0 x1 x2
  refine (HL.out _).mono ?_
  rintro e w2 ⟨rfl, n2⟩
  have b2 := below_then b1 (Nat.le_refl _) n2
  have u2 := u1.below n2 u1.2.2
  clear n2 b1 u1
  obtain ⟨x0, x1, x2⟩ := id u2
  go_wp2_with fail
  clear x0 x1 x2
  refine (HS.out _).mono ?_
  rintro e w3 ⟨vt, rfl, OT, n3⟩
  have b3 := below_then b2 (Nat.le_refl _) n3
  clear n3 b2 u2
  have HV3 := Lib.hid (HI.out.below b3)
  have HT3 := Lib.hid OT.intsC
  obtain ⟨ta, tc, rfl, -⟩ := OT.form
  have b4 := b3.alloc b3.size (.cells #[.slice a n cap, .int .i64 (P : Int), .slice ta (2 * P) tc] 72)
  have b5 : Below w3.heap.size w3 (w3.alloc (.cells #[.slice a n cap, .int .i64 (P : Int), .slice ta (2 * P) tc] 72)) := (Below.refl _ _).alloc (Nat.le_refl _) _
  have HR : Hid (SrchOK (w3.alloc (.cells #[.slice a n cap, .int .i64 (P : Int), .slice ta (2 * P) tc] 72)) w3.heap.size (.slice a n cap) n f (.slice ta (2 * P) tc) c G P) := Lib.hid
    ⟨⟨by simp, by simp, by simp, frozen_box _ _ _ _, by simp⟩, ⟨w3, HV3.out, HT3.out, Nat.le_refl _, b5⟩, HK.out⟩
  have HS3 := Lib.hid b3.size
  clear OT b3 b5
  go_wp2
  go_ret2
  exact ⟨_, _, rfl, HR.out, HS3.out, b4⟩
set_option maxHeartbeats 800000 in
theorem iNew_no (v : Value) (n : Nat) (f : Nat → Int) (c : ByteArray) (g : Int) (w : World) (h : IntsC w v n f) (hn : n ≤ 1048576) (hc : c.size ≤ 1048576) (hb : ¬ (sigB n f = true ∧ pilB c g = true)) :
    Calls Try.prog 48 #[v, .agg #[.string c, .int .i64 g]] w fun e w' => e = .returned (.tuple #[.pointer none, .bool false]) ∧ Below w.heap.size w w' := by
  have HI := Lib.hid h
  have HB := Lib.hid (fun w h => iSig_any v n f w h hn)
  obtain ⟨a, cap, rfl, -⟩ := h
  have b0 := (Below.refl w.heap.size w).alloc (Nat.le_refl _) (.cells #[.string c, .int .i64 g] 24)
  have u0 := PilAt.new w 24 c g
  cases hs : sigB n f with
  | false =>
    rw [hs] at HB
    clear hb hs u0
    go_enter Try.func48, Try.ntmps48
    go_wp2_with fail
    refine (HB.out _ (HI.out.below b0).ints).mono ?_
    rintro e w' ⟨rfl, rfl⟩
    go_wp2
    go_ret2
    exact ⟨rfl, b0⟩
  | true =>
    rw [hs] at HB
    have hp : pilB c g = false := by
      cases e : pilB c g with
      | false => rfl
      | true => exact absurd ⟨hs, e⟩ hb
    have HV := Lib.hid (fun w => iPilot_any c g w hc)
    rw [hp] at HV
    clear hb hs hp
    go_enter Try.func48, Try.ntmps48
    go_wp2_with fail
    refine (HB.out _ (HI.out.below b0).ints).mono ?_
    rintro e w' ⟨rfl, rfl⟩
    obtain ⟨x0, x1, x2⟩ := id u0
    go_wp2_with fail
    clear x0 x1 x2
    refine (HV.out _).mono ?_
    rintro e w1 ⟨rfl, n1⟩
    have b1 := below_then b0 (Nat.le_refl _) n1
    clear n1 b0 u0
    go_wp2
    go_ret2
    exact ⟨rfl, b1⟩
theorem iAt_yes (v : Value) (n : Nat) (f : Nat → Int) (c : ByteArray) (g k : Int) (w : World) (h : IntsC w v n f) (hs : sigB n f = true) (ho : offB c g k = true) :
    Calls Try.prog 46 #[v, .agg #[.string c, .int .i64 g], .int .i64 k] w fun e w' => ∃ b vt, e = .returned (.tuple #[.pointer (some ⟨b, 0, none⟩), .bool true]) ∧ SrchOK w' b v n f vt c g.toNat (perL c g) ∧ w.heap.size ≤ b ∧ Below w.heap.size w w' := by
  obtain ⟨hp, -, -⟩ := (offB_iff _ _ _).1 ho
  obtain ⟨G, -, -, -, -, -, -, q6, -, -, -⟩ := pil_nat hp
  have HI := Lib.hid h
  have HO := Lib.hid (fun w => iOff_any c g k w (by omega))
  rw [ho] at HO
  have HN := Lib.hid (fun w h => iNew_yes v n f c g w h hs hp)
  obtain ⟨a, cap, rfl, -⟩ := h
  have b0 := (Below.refl w.heap.size w).alloc (Nat.le_refl _) (.cells #[.string c, .int .i64 g] 24)
  have u0 := PilAt.new w 24 c g
  clear ho hp hs
  go_enter Try.func46, Try.ntmps46
  go_wp2_with fail
  refine (HO.out _).mono ?_
  rintro e w1 ⟨rfl, n1⟩
  have b1 := below_then b0 (Nat.le_refl _) n1
  have u1 := u0.below n1 (by simp)
  clear n1 b0 u0
  obtain ⟨x0, x1, x2⟩ := id u1
  go_wp2_with fail
  clear x0 x1 x2
  refine (HN.out _ (HI.out.below b1)).mono ?_
  rintro e w2 ⟨b, vt, rfl, HR, hb, n2⟩
  have b2 := below_then b1 (Nat.le_refl _) n2
  have HRR := Lib.hid HR
  have HLE := Lib.hid (Nat.le_trans b1.size hb)
  clear n2 b1 u1 HR hb
  go_wp2
  go_ret2
  exact ⟨_, _, rfl, HRR.out, HLE.out, b2⟩
theorem iAt_no (v : Value) (n : Nat) (f : Nat → Int) (c : ByteArray) (g k : Int) (w : World) (h : IntsC w v n f) (hn : n ≤ 1048576) (hc : c.size ≤ 1048576) (hb : ¬ (sigB n f = true ∧ offB c g k = true)) :
    Calls Try.prog 46 #[v, .agg #[.string c, .int .i64 g], .int .i64 k] w fun e w' => e = .returned (.tuple #[.pointer none, .bool false]) ∧ Below w.heap.size w w' := by
  have HI := Lib.hid h
  have HO := Lib.hid (fun w => iOff_any c g k w hc)
  have b0 := (Below.refl w.heap.size w).alloc (Nat.le_refl _) (.cells #[.string c, .int .i64 g] 24)
  have u0 := PilAt.new w 24 c g
  cases ho : offB c g k with
  | false =>
    rw [ho] at HO
    obtain ⟨a, cap, rfl, -⟩ := h
    clear hb ho u0
    go_enter Try.func46, Try.ntmps46
    go_wp2_with fail
    refine (HO.out _).mono ?_
    rintro e w1 ⟨rfl, n1⟩
    have b1 := below_then b0 (Nat.le_refl _) n1
    clear n1 b0
    go_wp2
    go_ret2
    exact ⟨rfl, b1⟩
  | true =>
    rw [ho] at HO
    have hs : ¬ (sigB n f = true ∧ pilB c g = true) := fun e => hb ⟨e.1, ho⟩
    have HN := Lib.hid (fun w h => iNew_no v n f c g w h hn hc hs)
    obtain ⟨a, cap, rfl, -⟩ := h
    clear hb ho hs
    go_enter Try.func46, Try.ntmps46
    go_wp2_with fail
    refine (HO.out _).mono ?_
    rintro e w1 ⟨rfl, n1⟩
    have b1 := below_then b0 (Nat.le_refl _) n1
    have u1 := u0.below n1 (by simp)
    clear n1 b0 u0
    obtain ⟨x0, x1, x2⟩ := id u1
    go_wp2_with fail
    clear x0 x1 x2
    refine (HN.out _ (HI.out.below b1)).mono ?_
    rintro e w2 ⟨rfl, n2⟩
    have b2 := below_then b1 (Nat.le_refl _) n2
    clear n2 b1 u1
    go_wp2
    go_ret2
    exact ⟨rfl, b2⟩
end Go.Proofs.Ytagdfohjhokgiaa
