/- CellValid of both sides: the walks. -/
import Derived.Test.YtjnipbopimpggabCel3
import Derived.BigQuiet
namespace Go.Proofs.Ytjnipbopimpggab
open Go.RowKit
set_option linter.unusedVariables false
set_option maxRecDepth 100000
set_option maxHeartbeats 3200000 in
theorem iCell_any (v : Value) (n : Nat) (f : Nat → Usr) (w : World) (h : UsrsC w v n f) (hn : n ≤ 1048576) (hf : UsrSz n f) :
    Calls Try.prog 18 #[v] w fun e w' => e = .returned (.bool (cellB n f)) ∧ Below w.heap.size w w' := by
  obtain ⟨a, cap, rfl, hm, hc⟩ := id h
  have HC := Lib.hid hc
  have HF := Lib.hid hf
  have HH := Lib.hid (fun m hm => headT h m hm)
  clear hc hf hm h
  by_cases h8 : n ≤ 8
  · have HE := Lib.hid (fun h => cell_all (n := n) (f := f) h)
    have HB := Lib.hid (fun k (hk : k < n) h => cell_stn (f := f) hk h)
    have HX := Lib.hid (fun k m (hk : k < n) (hm : m < k) h => cell_clash (f := f) hk hm h)
    have l8 : ¬ ((8 : Int) < (n : Int)) := by omega
    have d8 := Lib.hid (decide_eq_true h8)
    go_enter Try.func18, Try.ntmps18
    go_wp2
    go_loopw [12] (fun i wr => ∃ k : Nat, k ≤ n ∧ i = .int .i64 k ∧ Hid (celN f k = true) ∧ Below w.heap.size w wr) (fun i _ => n - (intOf i).toNat)
    case atStart => exact ⟨0, by omega, rfl, Lib.hid rfl, Below.refl _ _⟩
    case round =>
      obtain ⟨k, hk, rfl, rH, rb⟩ := hrel
      by_cases hlt : k < n
      · obtain ⟨b, o, rfl, hx, hcc⟩ := HC.out k hlt
        obtain ⟨f1, f2⟩ := HF.out k hlt
        obtain ⟨c0, c1, c2, c3⟩ := hcc.below rb hx
        have i0 : (0 : Int) ≤ (k : Int) := by omega
        have i1 : (k : Int) < (n : Int) := by omega
        have hv := fun w => iStn_any (f k).code (f k).data (f k).gain (f k).delay w (by omega) (by omega)
        have hbad := HB.out k hlt
        have hhd := Lib.hid (HH.out k (by omega))
        have u0 := UsrAt.new wr 30 (f k).code (f k).data (f k).gain (f k).delay
        have r1 := rb.alloc rb.size (.cells #[.string (f k).code, .string (f k).data, .int .i64 (f k).gain, .int .i64 (f k).delay] 30)
        unfold Usr.stn at hbad
        obtain ⟨T, hT⟩ : ∃ T, stnB (f k).code (f k).data (f k).gain (f k).delay = T := ⟨_, rfl⟩
        rw [hT] at hv hbad
        have HV := Lib.hid hv
        have HT := Lib.hid hT
        clear hv hT hcc
        cases T with
        | false =>
          have HX := Lib.hid (hbad rfl)
          clear hbad u0 rH f1 f2 hhd HT
          go_wp2_with fail
          refine (HV.out _).mono ?_
          rintro e w5 ⟨rfl, hb⟩
          have r5 := below_then r1 (Nat.le_refl _) hb
          clear c0 c1 c2 c3 hb rb r1
          go_wp2
          go_ret
          exact ⟨ret_bool HX.out, r5⟩
        | true =>
          clear hbad
          go_wp2_with fail
          refine (HV.out _).mono ?_
          rintro e w5 ⟨rfl, hb⟩
          have r5 := below_then r1 (Nat.le_refl _) hb
          have u5 := u0.below hb u0.2.2.2.2
          have hG : Hid (w.heap.size ≤ wr.heap.size) := Lib.hid rb.size
          clear c0 c1 c2 c3 hb rb r1 u0
          obtain ⟨G, hg⟩ : ∃ G, wr.heap.size = G := ⟨_, rfl⟩
          rw [hg] at u5 hG ⊢
          clear hg
          have hhd' := hhd.out
          clear hhd
          go_wp2
          clear hhd'
          go_loopw [24] (fun j wx => ∃ m : Nat, m ≤ k ∧ j = .int .i64 m ∧ Hid (freeN f k m = true) ∧ Below w5.heap.size w5 wx) (fun j _ => k - (intOf j).toNat)
          case atStart => exact ⟨0, by omega, rfl, Lib.hid rfl, Below.refl _ _⟩
          case round =>
            obtain ⟨m, hmk, rfl, rF, rx⟩ := hrel
            by_cases hlm : m < k
            · obtain ⟨b', o', e', _, hcm⟩ := HC.out m (by omega)
              injection e' with e'
              injection e' with e1 e2
              subst e1 e2
              have r6 := below_then r5 (Nat.le_refl _) rx
              obtain ⟨d0, d1, d2, d3⟩ := hcm.below r6 hx
              obtain ⟨g1, g2⟩ := HF.out m (by omega)
              obtain ⟨x0, x1, x2, x3, x4⟩ := u5.below rx u5.2.2.2.2
              have j0 : (0 : Int) ≤ (m : Int) := by omega
              have j1 : (m : Int) < (k : Int) := by omega
              have rm := rx.alloc rx.size (.cells #[.string (f m).code, .string (f m).data, .int .i64 (f m).gain, .int .i64 (f m).delay] 30)
              have hq := fun w => iConfB (f k).data (f m).data w (by omega) (by omega)
              have hcl := fun h => HX.out k m hlt hlm h
              have hst : (f k).stn = true := by unfold Usr.stn; exact HT.out
              have hsm : (f m).stn = true := celN_at k rH.out hlm
              have hcf : confB (f k).data (f m).data = begB (f k).data (f m).data := by
                have p1 := ((stnB_iff _ _ _ _).1 hst).2.1
                have p2 := ((stnB_iff _ _ _ _).1 hsm).2.1
                unfold confB; rw [p1, p2]; rfl
              rw [hcf] at hq
              have hco := clash_comm (f m) (f k)
              have hF2 : freeN f k (m + 1) = !(clashB (f m) (f k)) := by simp only [freeN]; rw [rF.out]; rfl
              rw [hco] at hcl hF2
              have hcn := clash_name (u := f k) (v := f m)
              have hcp := clash_path (u := f k) (v := f m)
              clear hst hsm hcf hco hcm g1 g2 rF
              obtain ⟨X, hX⟩ : ∃ X, clashB (f k) (f m) = X := ⟨_, rfl⟩
              rw [hX] at hcl hF2 hcn hcp
              clear hX
              obtain ⟨Y, hY⟩ : ∃ Y, begB (f k).data (f m).data = Y := ⟨_, rfl⟩
              rw [hY] at hq hcp
              clear hY
              obtain ⟨C, hC⟩ : ∃ C, (f k).code = C := ⟨_, rfl⟩
              obtain ⟨D, hD⟩ : ∃ C, (f m).code = C := ⟨_, rfl⟩
              rw [hC] at x0 hcn hcp
              rw [hD] at d0 hcn hcp rm
              clear hC hD
              have HQ := Lib.hid hq
              clear hq
              cases hN : (C.toList == D.toList) with
              | true =>
                have HX2 := Lib.hid (hcl (hcn hN))
                clear hcl hF2 hcn hcp
                go_wp2
                go_ret
                exact ⟨ret_bool HX2.out, below_then r5 (Nat.le_refl _) rm⟩
              | false =>
                have hXY := hcp hN
                clear hcp hcn
                subst hXY
                cases X with
                | true =>
                  have HX2 := Lib.hid (hcl rfl)
                  clear hcl hF2
                  go_wp2_with fail
                  refine (HQ.out _).mono ?_
                  rintro e w7 ⟨rfl, hb7⟩
                  have r7 := below_then rm (Nat.le_refl _) hb7
                  clear hb7
                  go_wp2
                  go_ret
                  exact ⟨ret_bool HX2.out, below_then r5 (Nat.le_refl _) r7⟩
                | false =>
                  have HF2 : Hid (freeN f k (m + 1) = true) := Lib.hid hF2
                  clear hcl hF2
                  go_wp2_with fail
                  refine (HQ.out _).mono ?_
                  rintro e w7 ⟨rfl, hb7⟩
                  have r7 := below_then rm (Nat.le_refl _) hb7
                  clear hb7 x0 x1 x2 x3 x4 d0 d1 d2 d3 rm rx r6
                  go_wp2
                  go_roundw
                  case rel => exact ⟨m + 1, by omega, by go_num, HF2, r7⟩
                  case measure => simp [intOf]; omega
            · obtain rfl : m = k := by omega
              have HN : Hid (celN f (m + 1) = true) := Lib.hid (by simp only [celN]; rw [rH.out, rF.out]; unfold Usr.stn; rw [HT.out]; rfl)
              have r6 := below_then r5 (Nat.le_refl _) rx
              go_wp2
              go_roundw
              case rel => exact ⟨m + 1, by omega, by go_num, HN, r6⟩
              case measure => simp [intOf]; omega
      · obtain rfl : n = k := by omega
        have HX := Lib.hid ((HE.out rH.out).symm.trans d8.out)
        go_wp2
        go_ret
        exact ⟨ret_bool HX.out.symm, rb⟩
  · have HE := Lib.hid (cell_long (f := f) h8)
    have l8 : ((8 : Int) < (n : Int)) := by omega
    go_enter Try.func18, Try.ntmps18
    go_wp2
    go_ret
    exact ⟨ret_bool HE.out, Below.refl _ _⟩
set_option maxHeartbeats 3200000 in
theorem sCell_any (v : Value) (n : Nat) (f : Nat → Usr) (w : World) (h : UsrsC w v n f) (hn : n ≤ 1048576) (hf : UsrSz n f) :
    Calls Try.prog 26 #[v] w fun e w' => e = .returned (.bool (cellB n f)) ∧ Below w.heap.size w w' := by
  obtain ⟨a, cap, rfl, hm, hc⟩ := h
  have HC := Lib.hid hc
  have HF := Lib.hid hf
  clear hc hf hm
  have HE := Lib.hid (fun h => cell_all (n := n) (f := f) h)
  have HB := Lib.hid (fun k (hk : k < n) h => cell_stn (f := f) hk h)
  have HX := Lib.hid (fun k m (hk : k < n) (hm : m < k) h => cell_clash (f := f) hk hm h)
  go_enter Try.func26, Try.ntmps26
  go_wp2
  go_loopw [3] (fun i wr => ∃ k : Nat, k ≤ n ∧ i = .int .i64 k ∧ Hid (celN f k = true) ∧ Below w.heap.size w wr) (fun i _ => n - (intOf i).toNat)
  case atStart => exact ⟨0, by omega, rfl, Lib.hid rfl, Below.refl _ _⟩
  case round =>
    obtain ⟨k, hk, rfl, rH, rb⟩ := hrel
    by_cases hlt : k < n
    · obtain ⟨b, o, rfl, hx, hcc⟩ := HC.out k hlt
      obtain ⟨f1, f2⟩ := HF.out k hlt
      obtain ⟨c0, c1, c2, c3⟩ := hcc.below rb hx
      have i0 : (0 : Int) ≤ (k : Int) := by omega
      have i1 : (k : Int) < (n : Int) := by omega
      have hv := fun w => sStn_any (f k).code (f k).data (f k).gain (f k).delay w (by omega) (by omega)
      have hbad := HB.out k hlt
      unfold Usr.stn at hbad
      obtain ⟨T, hT⟩ : ∃ T, stnB (f k).code (f k).data (f k).gain (f k).delay = T := ⟨_, rfl⟩
      rw [hT] at hv hbad
      have HV := Lib.hid hv
      have HT := Lib.hid hT
      have HK := Lib.hid hcc
      clear hv hT hcc
      cases T with
      | false =>
        have HX := Lib.hid (hbad rfl)
        clear hbad rH f1 f2 HT
        go_wp2_with fail
        refine (HV.out _).mono ?_
        rintro e w5 ⟨rfl, hb⟩
        have r5 := below_then rb (Nat.le_refl _) hb
        clear c0 c1 c2 c3 hb rb
        go_wp2
        go_ret
        exact ⟨ret_bool HX.out, r5⟩
      | true =>
        clear hbad
        go_wp2_with fail
        refine (HV.out _).mono ?_
        rintro e w5 ⟨rfl, hb⟩
        have r5 := below_then rb (Nat.le_refl _) hb
        clear c0 c1 c2 c3 hb rb
        go_wp2
        go_loopw [4] (fun j wx => ∃ m : Nat, m ≤ k ∧ j = .int .i64 m ∧ Hid (freeN f k m = true) ∧ Below w.heap.size w wx) (fun j _ => k - (intOf j).toNat)
        case atStart => exact ⟨0, by omega, rfl, Lib.hid rfl, r5⟩
        case round =>
          clear r5
          obtain ⟨m, hmk, rfl, rF, rx⟩ := hrel
          by_cases hlm : m < k
          · obtain ⟨b', o', e', _, hcm⟩ := HC.out m (by omega)
            injection e' with e'
            injection e' with e1 e2
            subst e1 e2
            obtain ⟨d0, d1, d2, d3⟩ := hcm.below rx hx
            obtain ⟨c0, c1, c2, c3⟩ := HK.out.below rx hx
            obtain ⟨g1, g2⟩ := HF.out m (by omega)
            have j0 : (0 : Int) ≤ (m : Int) := by omega
            have j1 : (m : Int) < (k : Int) := by omega
            have j2 : (m : Int) < (n : Int) := by omega
            have hq := fun w => l3Conflict_any (f m).data (f k).data w (by omega) (by omega)
            have hcl := fun h => HX.out k m hlt hlm h
            have hF2 : freeN f k (m + 1) = !(clashB (f m) (f k)) := by simp only [freeN]; rw [rF.out]; rfl
            have hcn := clash_name (u := f m) (v := f k)
            have hcp := clash_path (u := f m) (v := f k)
            clear hcm g1 g2 rF c2 c3 d2 d3
            obtain ⟨X, hX⟩ : ∃ X, clashB (f m) (f k) = X := ⟨_, rfl⟩
            rw [hX] at hcl hF2 hcn hcp
            clear hX
            obtain ⟨Y, hY⟩ : ∃ Y, begB (f m).data (f k).data = Y := ⟨_, rfl⟩
            rw [hY] at hq hcp
            clear hY
            obtain ⟨C, hC⟩ : ∃ C, (f k).code = C := ⟨_, rfl⟩
            obtain ⟨D, hD⟩ : ∃ C, (f m).code = C := ⟨_, rfl⟩
            rw [hC] at c0 hcn hcp
            rw [hD] at d0 hcn hcp
            clear hC hD
            obtain ⟨P, hP⟩ : ∃ C, (f k).data = C := ⟨_, rfl⟩
            obtain ⟨Q, hQ⟩ : ∃ C, (f m).data = C := ⟨_, rfl⟩
            rw [hP] at c1 hq
            rw [hQ] at d1 hq
            clear hP hQ
            have HQ := Lib.hid hq
            clear hq
            cases hN : (D.toList == C.toList) with
            | true =>
              have HX2 := Lib.hid (hcl (hcn hN))
              clear hcl hF2 hcn hcp
              go_wp2_with fail
              go_quiet (fail)
              go_wp2
              go_ret
              exact ⟨ret_bool HX2.out, below_drewN rx _⟩
            | false =>
              have hXY := hcp hN
              clear hcp hcn
              subst hXY
              cases X with
              | true =>
                have HX2 := Lib.hid (hcl rfl)
                clear hcl hF2
                go_wp2_with fail
                go_quiet ((go_at_call 53; exact Calls.quiet_of (HQ.out _)))
                go_wp2
                go_ret
                exact ⟨ret_bool HX2.out, below_drewN rx _⟩
              | false =>
                have HF2 : Hid (freeN f k (m + 1) = true) := Lib.hid hF2
                clear hcl hF2
                go_wp2_with fail
                go_quiet ((go_at_call 53; exact Calls.quiet_of (HQ.out _)))
                have r7 := below_drewN rx nq
                obtain ⟨W, hW⟩ : ∃ W, wr.drewN nq = W := ⟨_, rfl⟩
                rw [hW] at r7 ⊢
                clear hW c0 c1 d0 d1 rx
                go_wp2
                go_roundw
                case rel => exact ⟨m + 1, by omega, by go_num, HF2, r7⟩
                case measure => simp [intOf]; omega
          · obtain rfl : m = k := by omega
            have HN : Hid (celN f (m + 1) = true) := Lib.hid (by simp only [celN]; rw [rH.out, rF.out]; unfold Usr.stn; rw [HT.out]; rfl)
            go_wp2
            go_roundw
            case rel => exact ⟨m + 1, by omega, by go_num, HN, rx⟩
            case measure => simp [intOf]; omega
    · obtain rfl : n = k := by omega
      have HX := Lib.hid (HE.out rH.out)
      have hd : decide ((n : Int) ≤ 8) = decide (n ≤ 8) := decide_eq_decide.2 (by omega)
      have HD := Lib.hid hd
      clear hd
      go_wp2
      go_ret
      exact ⟨ret_bool (HD.out.trans HX.out), rb⟩
end Go.Proofs.Ytjnipbopimpggab
