/- RunLengths of the model, of both sides for every string, and the joined names of the answer. -/
import Derived.Test.YtmmonhagceacjaaSeqRuns2
import Derived.BigQuiet
namespace Go.Proofs.Ytmmonhagceacjaa
open Go.RowKit
set_option linter.unusedVariables false
theorem OF.one (w : World) (y : Int) : OF (w.alloc (.cells #[.int .i64 y] 3)) w.heap.size (.slice (some ⟨w.heap.size, 0, none⟩) 1 1) 1 (fun _ => y) := by
  refine ⟨by simp, .inr ⟨w.heap.size, 1, #[.int .i64 y], rfl, Nat.le_refl _, ?_, Nat.le_refl _, by unfold maxLen; omega, rfl, rfl⟩⟩
  show (w.heap.push _)[w.heap.size]? = _
  simp
theorem OF.none1 (w : World) (f : Nat → Int) : OF (w.alloc (.cells #[] 3)) w.heap.size (.slice (some ⟨w.heap.size, 0, none⟩) 0 0) 0 f := by
  refine ⟨by simp, .inr ⟨w.heap.size, 0, #[], rfl, Nat.le_refl _, ?_, Nat.le_refl _, by unfold maxLen; omega, rfl, rfl⟩⟩
  show (w.heap.push _)[w.heap.size]? = _
  simp
/-- The runs of a sequence. -/
def rlL (z : ByteArray) : List Int := srt (runsA (shB z (modN (startN z : Nat) z.size)) z.size)
def rlN (z : ByteArray) : Nat := if seqB z then (rlL z).length else 0
def rlF (z : ByteArray) : Nat → Int := LF (rlL z)
theorem runsA_len (t : Nat → Nat) (n : Nat) : (runsA t n).length ≤ n + 1 := by
  unfold runsA
  split
  · simp
  · have := (runsC_bd t n).1
    simp; omega
theorem rlN_le6 (z : ByteArray) : rlN z ≤ 1000000 := by
  unfold rlN
  split
  · rename_i h
    have := size_le h
    have := runsA_len (shB z (modN (startN z : Nat) z.size)) z.size
    unfold rlL
    rw [srt_len]
    omega
  · omega
/-- Where no run begins there is one. -/
theorem rl_one {z : ByteArray} (h : 1 ≤ z.size) (h0 : firstN (startP z) z.size = z.size) : rlL z = [(z.size : Int)] := by
  have hs : startN z = 0 := by unfold startN; rw [if_neg (by omega)]
  unfold rlL
  have e0 : modN ((0 : Nat) : Int) z.size = 0 := by rw [modN_of_nat]; exact Nat.zero_mod _
  rw [hs, e0, runsA_same h fun i hi hin => ?_]
  · simp [srt]
  · have hp := firstN_none h0 i hin
    unfold startP at hp
    have hp' : zb z i = zb z (modN ((i : Int) - 1) z.size) := by simpa using hp
    rw [show (i : Int) - 1 = ((i - 1 : Nat) : Int) by omega, modN_of_nat, Nat.mod_eq_of_lt (by omega)] at hp'
    unfold shB
    rw [Nat.zero_add, Nat.zero_add, Nat.mod_eq_of_lt hin, Nat.mod_eq_of_lt (by omega)]
    exact hp'
/-- What holds before a place: the runs that are over, and how long the open one is. -/
def St (t : Nat → Nat) (n i : Nat) (X : List Int) (P : Nat) : Prop := (i < n → (X, P + 1) = runsC t (i + 1)) ∧ (i = n → X = runsA t n)
theorem St.zero {t : Nat → Nat} {n : Nat} (h : 1 ≤ n) : St t n 0 [] 0 := ⟨fun _ => rfl, fun e => by omega⟩
theorem St.last {t : Nat → Nat} {n i : Nat} {X : List Int} {P : Nat} (h : St t n i X P) (hi : i < n) (e : i + 1 = n) : St t n (i + 1) (X ++ [((P + 1 : Nat) : Int)]) 0 :=
  ⟨fun h' => by omega, fun _ => by
    have hc := h.1 hi
    rw [← e]
    unfold runsA
    rw [if_neg (by omega), ← hc]⟩
theorem St.turn {t : Nat → Nat} {n i : Nat} {X : List Int} {P : Nat} (h : St t n i X P) (hi : i + 1 < n) (e : t (i + 1) ≠ t i) : St t n (i + 1) (X ++ [((P + 1 : Nat) : Int)]) 0 :=
  ⟨fun _ => by
    have hc := h.1 (by omega)
    rw [runsC_new (by omega) (by rw [Nat.add_sub_cancel]; exact e)]
    unfold runsA
    rw [if_neg (by omega), ← hc], fun e => by omega⟩
theorem St.same {t : Nat → Nat} {n i : Nat} {X : List Int} {P : Nat} (h : St t n i X P) (hi : i + 1 < n) (e : t (i + 1) = t i) : St t n (i + 1) X (P + 1) :=
  ⟨fun _ => by
    have hc := h.1 (by omega)
    rw [runsC_old (.inr (by rw [Nat.add_sub_cancel]; exact e)), ← hc], fun e => by omega⟩
theorem St.bd {t : Nat → Nat} {n i : Nat} {X : List Int} {P : Nat} (h : St t n i X P) (hi : i < n) : X.length ≤ i + 1 ∧ P ≤ i := by
  have hc := h.1 hi
  have := runsC_bd t (i + 1)
  rw [← hc] at this
  have h2 : P + 1 ≤ i + 1 := this.2
  exact ⟨this.1, by omega⟩
theorem insAll_len (l : List Int) : (insAll l).length = l.length := by rw [insAll_srt, srt_len]
theorem iRuns_any (z : ByteArray) (w : World) (hz : z.size ≤ 9223372036854775807) :
    Calls Try.prog 43 #[.string z] w fun e w' => ∃ v, e = .returned v ∧ OF w' w.heap.size v (rlN z) (rlF z) ∧ Below w.heap.size w w' := by
  unfold rlN rlF
  cases h : seqB z with
  | true => exact iRuns_yes z w h
  | false =>
    have HV := Lib.hid (fun w => iSequenceValid_no z w hz h)
    clear h
    go_enter Try.func43, Try.ntmps43
    go_wp2_with fail
    refine (HV.out _).mono ?_
    rintro e w' ⟨rfl, rfl⟩
    go_wp2
    go_ret
    exact ⟨_, rfl, OF.nil _ _ _, Below.refl _ _⟩
set_option maxHeartbeats 1600000 in
set_option maxRecDepth 100000 in
theorem sRuns_any (z : ByteArray) (w : World) (hz : z.size ≤ 9223372036854775807) :
    Calls Try.prog 45 #[.string z] w fun e w' => ∃ v, e = .returned v ∧ OF w' w.heap.size v (rlN z) (rlF z) ∧ Below w.heap.size w w' := by
  have O0 := OF.none1 w (rlF z)
  have b0 := (Below.refl w.heap.size w).alloc (Nat.le_refl _) (.cells #[] 3)
  unfold rlN
  cases h : seqB z with
  | false =>
    have HV := Lib.hid (fun w => sSequenceValid_no z w hz h)
    clear h
    go_enter Try.func45, Try.ntmps45
    go_wp2_with fail
    refine (HV.out _).mono ?_
    rintro e w' ⟨rfl, rfl⟩
    go_wp2
    go_ret
    exact ⟨_, rfl, O0, b0⟩
  | true =>
    obtain ⟨h1, h2⟩ := size_le h
    have HV := Lib.hid (fun w => sSequenceValid_yes z w h)
    have HM := Lib.hid (fun (k : Int) w => l2Mod_any k z.size w h1 h2)
    have HSH := Lib.hid (fun (k : Int) w => l2Shift_any z k w h1 h2)
    have O1 : OF (w.alloc (.cells #[] 3)) w.heap.size (.slice (some ⟨w.heap.size, 0, none⟩) 0 0) (insAll []).length (LF (insAll [])) := OF.none1 w _
    simp only [if_true]
    clear h O0
    go_enter Try.func45, Try.ntmps45
    go_wp2_with fail
    refine (HV.out _).mono ?_
    rintro e w' ⟨rfl, rfl⟩
    obtain ⟨W, hW⟩ : ∃ W, w.alloc (.cells #[] 3) = W := ⟨_, rfl⟩
    rw [hW] at O1 b0 ⊢
    clear hW HV
    go_wp2
    go_loopw [4, 5] (fun c i wr => ∃ k m : Nat, k ≤ z.size ∧ i = .int .i64 k ∧ wr = W.drewN m ∧ (c = .int .i64 (-1) ∧ Hid (firstN (startP z) k = k) ∨ ∃ j : Nat, j < z.size ∧ c = .int .i64 j ∧ Hid (firstN (startP z) z.size = j))) (fun _ i _ => z.size - (intOf i).toNat)
    case atStart => exact ⟨0, 0, by omega, rfl, rfl, .inl ⟨rfl, Lib.hid rfl⟩⟩
    case round =>
      obtain ⟨k, m, hk, rfl, rfl, ⟨rfl, rF⟩ | ⟨j, hj, rfl, rF⟩⟩ := hrel
      · by_cases hlt : k < z.size
        · obtain ⟨M, hM⟩ : ∃ M, modN ((k : Int) - 1) z.size = M := ⟨_, rfl⟩
          have hM1 : M < z.size := by rw [← hM]; exact modN_lt _ _ (by omega)
          have hC := HM.out ((k : Int) - 1)
          rw [hM] at hC
          have HC := Lib.hid hC
          have hp : startP z k = (zb z k != zb z M) := by unfold startP; rw [hM]
          rw [← zb_at z k hlt, ← zb_at z M hM1] at hp
          have i0 : (0 : Int) ≤ (k : Int) := by omega
          have i1 : (k : Int) < (z.size : Int) := by omega
          have j0 : (0 : Int) ≤ (M : Int) := by omega
          have j1 : (M : Int) < (z.size : Int) := by omega
          have hw : IntKind.i64.wrap ((k : Int) - 1) = (k : Int) - 1 := IntWalk.i64_in _ (by omega)
          obtain ⟨V, hV⟩ : ∃ V, W.drewN m = V := ⟨_, rfl⟩
          rw [hV]
          have HV := Lib.hid hV
          clear hM hC hV
          cases hb : startP z k with
          | true =>
            have hne : z[k].toNat ≠ z[M].toNat := by rw [hb] at hp; simpa using hp.symm
            have ht : (((z[k].toNat : Nat) : Int) != ((z[M].toNat : Nat) : Int)) = true := by simp; omega
            have I3 : Hid (firstN (startP z) z.size = k) := Lib.hid (firstN_hit rF.out hb z.size hlt)
            clear hp hb hne rF
            go_wp2_with fail
            go_quiet ((go_at_call 88; exact quiet_same (HC.out _)))
            go_wp2
            go_roundw
            case rel => exact ⟨k + 1, m + nq, by omega, by go_num, by rw [← HV.out, World.drewN_drewN], .inr ⟨k, hlt, rfl, I3⟩⟩
            case measure => simp [intOf]; omega
          | false =>
            have he : z[k].toNat = z[M].toNat := by rw [hb] at hp; simpa using hp.symm
            have ht : (((z[k].toNat : Nat) : Int) != ((z[M].toNat : Nat) : Int)) = false := by rw [he]; simp
            have I3 := Lib.hid (firstN_step rF.out hb)
            clear hp hb he rF
            go_wp2_with fail
            go_quiet ((go_at_call 88; exact quiet_same (HC.out _)))
            go_wp2
            go_roundw
            case rel => exact ⟨k + 1, m + nq, by omega, by go_num, by rw [← HV.out, World.drewN_drewN], .inl ⟨rfl, I3⟩⟩
            case measure => simp [intOf]; omega
        · obtain rfl : k = z.size := by omega
          have hr := rl_one h1 rF.out
          have b1 := below_drewN b0 m
          obtain ⟨V, hV⟩ : ∃ V, W.drewN m = V := ⟨_, rfl⟩
          rw [hV] at b1 ⊢
          have O2 := OF.one V (z.size : Int)
          have b2 := b1.alloc b1.size (.cells #[.int .i64 (z.size : Int)] 3)
          have HR : Hid (OF (V.alloc (.cells #[.int .i64 (z.size : Int)] 3)) w.heap.size (.slice (some ⟨V.heap.size, 0, none⟩) 1 1) (rlL z).length (rlF z)) := Lib.hid (by
            unfold rlF
            rw [hr]
            exact (O2.congr (g := LF [(z.size : Int)]) fun j hj => (by have e : j = 0 := (by omega); subst e; rfl)).mono b1.size)
          clear hr O2 hV rF
          go_wp2
          go_ret
          exact ⟨_, rfl, HR.out, b2⟩
      · have hst : startN z = j := by unfold startN; rw [rF.out, if_pos hj]
        have hR := HSH.out (j : Int)
        have hl : rlL z = insAll (runsA (shB z (modN (j : Int) z.size)) z.size) := by unfold rlL; rw [hst, insAll_srt]
        have HZB : Hid (∀ i, i < z.size → zb (shift z (j : Int)) i = shB z (modN (j : Int) z.size) i) := Lib.hid (fun i hi => zb_shift z _ i hi)
        have hsz := shift_size z (j : Int)
        obtain ⟨t, ht⟩ : ∃ t, shB z (modN (j : Int) z.size) = t := ⟨_, rfl⟩
        obtain ⟨R, hRR⟩ : ∃ R, shift z (j : Int) = R := ⟨_, rfl⟩
        rw [ht] at hl HZB
        rw [hRR] at hR HZB hsz
        rw [← hsz] at hl
        have HZR : Hid (∀ i, i < R.size → zb R i = t i) := Lib.hid (fun i hi => HZB.out i (by omega))
        have r1 : 1 ≤ R.size := by omega
        have r2 : R.size ≤ 255 := by omega
        have HL := Lib.hid hl
        have HRC := Lib.hid hR
        have j00 : ¬ ((j : Int) < 0) := by omega
        have O2 := O1.drewN m
        have b1 := below_drewN b0 m
        obtain ⟨V, hV⟩ : ∃ V, W.drewN m = V := ⟨_, rfl⟩
        rw [hV] at O2 b1 ⊢
        clear hst hR hl ht hRR rF hV hsz HZB
        by_cases hlt : k < z.size
        all_goals
          go_wp2_with fail
          refine (HRC.out _).mono ?_
          rintro e w' ⟨rfl, m2, rfl⟩
          have O3 := O2.drewN m2
          have b3 := below_drewN b1 m2
          obtain ⟨U, hU⟩ : ∃ U, V.drewN m2 = U := ⟨_, rfl⟩
          rw [hU] at O3 b3 ⊢
          clear hU
          go_wp2
          go_loopw [3, 7, 8] (fun o p i wr => ∃ (q P : Nat) (X : List Int), q ≤ R.size ∧ i = .int .i64 q ∧ p = .int .i64 P ∧ Hid (St t R.size q X P) ∧ OF wr w.heap.size o (insAll X).length (LF (insAll X)) ∧ Below w.heap.size w wr) (fun _ _ i _ => R.size - (intOf i).toNat)
          case atStart => exact ⟨0, 0, [], by omega, rfl, rfl, Lib.hid (St.zero (by omega)), O3, b3⟩
          case round =>
            obtain ⟨q, P, X, hq, rfl, rfl, rS, rO, rb⟩ := hrel
            by_cases hql : q < R.size
            · obtain ⟨xl, pl⟩ := rS.out.bd hql
              have hil := insAll_len X
              have HI2 := Lib.hid (fun v B w hv => l1Insert_any v B (insAll X) ((P : Int) + 1) w hv (by omega))
              have HA := Lib.hid (insAll_app X ((P : Int) + 1))
              have i0 : (0 : Int) ≤ (q : Int) := by omega
              have i1 : (q : Int) < (R.size : Int) := by omega
              have hsize : R.size ≤ 255 := by omega
              have hw : IntKind.i64.wrap ((R.size : Int) - 1) = (R.size : Int) - 1 := IntWalk.i64_in _ (by omega)
              by_cases he : q + 1 = R.size
              · have ht : ((q : Int) == (R.size : Int) - 1) = true := by rw [beq_iff_eq]; omega
                have hS := rS.out.last hql he
                rw [show ((P + 1 : Nat) : Int) = (P : Int) + 1 by omega] at hS
                have HS := Lib.hid hS
                clear hS rS he hil
                go_wp2_with fail
                go_quiet (fail)
                have O4 := rO.drewN nq
                have b4 := below_drewN rb nq
                obtain ⟨Y, hY⟩ : ∃ Y, wr.drewN nq = Y := ⟨_, rfl⟩
                rw [hY] at O4 b4 ⊢
                clear hY rO rb
                go_wp2_with fail
                refine (HI2.out _ _ _ O4).mono ?_
                rintro e w5 ⟨v5, rfl, O5, hb5⟩
                have b5 := below_then b4 (Nat.le_refl _) hb5
                have O6 := O5.mono b4.size
                rw [← HA.out] at O6
                clear O4 O5 b4 hb5
                go_wp2
                go_roundw
                case rel => exact ⟨q + 1, 0, _, by omega, by go_num, rfl, HS, O6, b5⟩
                case measure => simp [intOf]; omega
              · have ht : ((q : Int) == (R.size : Int) - 1) = false := by rw [beq_eq_false_iff_ne]; omega
                obtain ⟨q2, hq2⟩ : ∃ q2, q + 1 = q2 := ⟨_, rfl⟩
                have hq3 : q2 < R.size := by omega
                have e2 : (q : Int) + 1 = (q2 : Int) := by omega
                have hw2 : IntKind.i64.wrap ((q : Int) + 1) = (q2 : Int) := by rw [e2]; exact IntWalk.i64_in _ (by omega)
                have i2 : (0 : Int) ≤ (q2 : Int) := by omega
                have i3 : (q2 : Int) < (R.size : Int) := by omega
                have z1 := zb_at R q hql
                have z2 := zb_at R q2 hq3
                rw [HZR.out q (by omega)] at z1
                rw [HZR.out q2 (by omega)] at z2
                by_cases hd : t q2 = t q
                · have hx : (((R[q2].toNat : Nat) : Int) != ((R[q].toNat : Nat) : Int)) = false := by rw [z1, z2, hd]; simp
                  have hS := rS.out.same (show q + 1 < R.size by omega) (by rw [hq2]; exact hd)
                  rw [hq2] at hS
                  have HS := Lib.hid hS
                  clear hS rS he hil z1 z2 hd HI2 HA
                  go_wp2_with fail
                  go_quiet (fail)
                  have O4 := rO.drewN nq
                  have b4 := below_drewN rb nq
                  obtain ⟨Y, hY⟩ : ∃ Y, wr.drewN nq = Y := ⟨_, rfl⟩
                  rw [hY] at O4 b4 ⊢
                  clear hY rO rb
                  go_wp2
                  go_roundw
                  case rel => exact ⟨q2, P + 1, X, by omega, by go_num, by go_num, HS, O4, b4⟩
                  case measure => simp [intOf]; omega
                · have hx : (((R[q2].toNat : Nat) : Int) != ((R[q].toNat : Nat) : Int)) = true := by rw [z1, z2]; simp; omega
                  have hS := rS.out.turn (show q + 1 < R.size by omega) (by rw [hq2]; exact hd)
                  rw [show ((P + 1 : Nat) : Int) = (P : Int) + 1 by omega, hq2] at hS
                  have HS := Lib.hid hS
                  clear hS rS he hil z1 z2 hd
                  go_wp2_with fail
                  go_quiet (fail)
                  have O4 := rO.drewN nq
                  have b4 := below_drewN rb nq
                  obtain ⟨Y, hY⟩ : ∃ Y, wr.drewN nq = Y := ⟨_, rfl⟩
                  rw [hY] at O4 b4 ⊢
                  clear hY rO rb
                  go_wp2_with fail
                  refine (HI2.out _ _ _ O4).mono ?_
                  rintro e w5 ⟨v5, rfl, O5, hb5⟩
                  have b5 := below_then b4 (Nat.le_refl _) hb5
                  have O6 := O5.mono b4.size
                  rw [← HA.out] at O6
                  clear O4 O5 b4 hb5
                  go_wp2
                  go_roundw
                  case rel => exact ⟨q2, 0, _, by omega, by go_num, rfl, HS, O6, b5⟩
                  case measure => simp [intOf]; omega
            · obtain rfl : q = R.size := by omega
              have hx := rS.out.2 rfl
              have hll := HL.out
              rw [← hx] at hll
              have HLL := Lib.hid hll
              clear hx hll rS
              go_wp2
              go_ret
              exact ⟨_, rfl, by unfold rlF; rw [HLL.out]; exact rO, rb⟩
end Go.Proofs.Ytmmonhagceacjaa
