/- PreferredPairs of both sides: one list of pairs. -/
import Derived.Test.YtmlmpekhcnjehaaPrsL
import Derived.Test.YtmlmpekhcnjehaaMaxUse
import Derived.Deep.RegionHeld3
namespace Go.Proofs.Ytmlmpekhcnjehaa
open Go.RowKit
set_option linter.unusedVariables false
set_option maxRecDepth 100000
theorem addrI_add (g o i : Nat) : (⟨g, o, none⟩ : Addr).add i = ⟨g, o + i, none⟩ := by unfold Addr.add; split <;> simp_all
theorem intI_elem (w : World) : (sizeOf (Try.prog.elem 31)).run Try.prog w = .ok 1 w := by kernel_rfl
theorem tailI_ints {w : World} {B : Nat} {v : Value} {n : Nat} {f : Nat → Int} (h : OF w B v n f) (l : Nat) (hl : l ≤ n) : ∃ a' cap', (∀ w1, (Instr.sliceAt 31 v (some (.int .i64 (l : Int))) none none).run Try.prog w1 = .ok (.slice a' (n - l) cap') w1) ∧
    ∀ i, i < n - l → ∃ x : Addr, a' = some x ∧ x.block < w.heap.size ∧ w.cell? (x.add i) = some (.int .i64 (f (l + i))) := by
  have hc := h.form
  obtain ⟨h1, ⟨rfl, rfl⟩ | ⟨g, cap, cur, rfl, hB, hg, hn, hm, hs, ht⟩⟩ := h
  · obtain rfl : l = 0 := by omega
    exact ⟨_, _, fun w1 => by rw [run_sliceAt_slice w1 31 _ _ _ _ (by kernel_rfl), run_slice_l w1 31 none 0 0 (by kernel_rfl) .i64 _ (by omega) (by omega), intI_elem]; rfl, fun i hi => absurd hi (Nat.not_lt_zero i)⟩
  · refine ⟨if cap = l then some ⟨g, 0, none⟩ else some ⟨g, l, none⟩, cap - l, fun w1 => ?_, fun i hi => ?_⟩
    · rw [run_sliceAt_slice w1 31 _ _ _ _ (by kernel_rfl), run_slice_l w1 31 _ n cap (by kernel_rfl) .i64 _ (by omega) (by omega), intI_elem]
      simp [Result.andThen, sliced, addrI_add]
    · obtain ⟨a', cap', hf1, hf2⟩ := hc
      obtain ⟨g', rfl, _, hgl, hcc⟩ := hf2 (by omega)
      injection hf1 with e1
      injection e1 with e1
      injection e1 with e1
      subst e1
      refine ⟨⟨g, l, none⟩, by rw [if_neg (by omega)], hgl, ?_⟩
      have := (hcc (l + i) (by omega)).1
      rw [addrI_add]; exact this
theorem addI_block (x : Addr) (i : Nat) : (x.add i).block = x.block := by unfold Addr.add; split <;> rfl
/-- What IsMaximal tells, and that it is what MaxP says. -/
theorem maxIsP : ∃ M, MaxIs M ∧ ∀ s t : Nat, tapsB s t = true → (M s t = true ↔ MaxP s t) := by
  have h : ∀ p : Int × Int, ∃ B : Bool, ((B = true → tapsB p.1 p.2 = true) ∧
      (∀ w, Calls Try.prog 34 #[.int .i64 p.1, .int .i64 p.2] w fun e w' => e = .returned (.bool B) ∧ Below w.heap.size w w') ∧
      (∀ w, Calls Try.prog 17 #[.int .i64 p.1, .int .i64 p.2] w fun e w' => e = .returned (.bool B) ∧ Below w.heap.size w w')) ∧
      ∀ s t : Nat, p.1 = s → p.2 = t → tapsB p.1 p.2 = true → (B = true ↔ MaxP s t) := by
    rintro ⟨S, T⟩
    cases hb : tapsB S T with
    | false =>
      obtain ⟨B, h1, h2, h3⟩ := bothIsMaximal S T
      exact ⟨B, ⟨fun h => hb ▸ h1 h, h2, h3⟩, fun s t _ _ h => (by cases h)⟩
    | true =>
      obtain ⟨h1, h2, h3, h4⟩ := (tapsB_iff S T).1 hb
      obtain ⟨s, rfl⟩ : ∃ s : Nat, S = s := ⟨S.toNat, by omega⟩
      obtain ⟨t, rfl⟩ : ∃ t : Nat, T = t := ⟨T.toNat, by omega⟩
      rw [Int.toNat_natCast] at h4
      have hr : RegN s t 1 := ⟨by omega, by omega, by omega, by omega, by have := tw_four s (by omega); omega⟩
      obtain ⟨L, P, o, h256, ip, sp⟩ := per_all hr
      refine ⟨decide ((P : Int) = (tw s : Int) - 1), ⟨fun _ => rfl, fun w => ?_, fun w => iMaximal_of s t _ (by omega) hb ip w⟩, fun s' t' e1 e2 _ => ?_⟩
      · have HM := Lib.hid (fun w => l1Maximal_of s t _ (by omega) sp w)
        generalize decide ((P : Int) = (tw s : Int) - 1) = B at HM ⊢
        clear ip sp h1 h2 h3 h4 o h256 hr
        go_enter Try.func34, Try.ntmps34
        go_wp2_with (first | (go_at_call 45; refine (l1Taps_yes _ _ _ hb).mono ?_; rintro e w' ⟨rfl, rfl⟩) | (go_at_call 46; refine (HM.out _).mono ?_; rintro e w5 ⟨rfl, hb5⟩))
        go_ret
        exact ⟨rfl, hb5⟩
      · obtain rfl : s = s' := by omega
        obtain rfl : t = t' := by omega
        refine ⟨fun h => ?_, fun h => ?_⟩
        · have e := of_decide_eq_true h
          obtain rfl : P = tw s - 1 := by omega
          exact ⟨hr, L, o⟩
        · obtain ⟨-, L', o'⟩ := h
          have e := (o.same o').2
          have := tw_four s (by omega)
          exact decide_eq_true (by omega)
  obtain ⟨f, hf⟩ := Classical.axiomOfChoice h
  exact ⟨fun S T => f (S, T), fun S T => (hf (S, T)).1, fun s t ht => (hf (s, t)).2 s t rfl rfl ht⟩
set_option maxHeartbeats 3200000 in
theorem sPairs_of (S : Int) (n : Nat) (F : Nat → Int) (T : Nat → Nat → Bool) (w : World) (h6 : S ≤ 6) (hn : n ≤ 300)
    (hT : ∀ w, Calls Try.prog 23 #[.int .i64 S] w fun e w' => ∃ v, e = .returned v ∧ OF w' w.heap.size v n F ∧ Below w.heap.size w w')
    (hP : ∀ i j, i < n → j < n → ∀ w, Calls Try.prog 24 #[.int .i64 S, .int .i64 (F i), .int .i64 (F j)] w fun e w' => e = .returned (.bool (T i j)) ∧ Below w.heap.size w w') :
    Calls Try.prog 6 #[.int .i64 S] w fun e w' => ∃ v, e = .returned v ∧ PF w' w.heap.size v (allL F T n n).length (LP (allL F T n n)) ∧ Below w.heap.size w w' := by
  have P0 := PF.empty w (LP [])
  have HL := Lib.hid (fun k => allL_len F T n hn k)
  have HR := Lib.hid (fun k j => rowL_len F T k j)
  have b0 := (Below.refl w.heap.size w).alloc (Nat.le_refl _) (.cells #[] 30)
  have s6 : ¬ ((6 : Int) < S) := by omega
  have HT := Lib.hid hT
  have HP := Lib.hid hP
  clear hT hP h6
  go_enter Try.func6, Try.ntmps6
  go_wp2_with fail
  refine (HT.out _).mono ?_
  rintro e w1 ⟨lv, rfl, O1, hb⟩
  have P1 := P0.below hb
  have b1 := below_then b0 (Nat.le_refl _) hb
  obtain ⟨la, cap, rfl, hla⟩ := O1.form
  obtain ⟨B, hB, hwB⟩ : ∃ B, (w.alloc (.cells #[] 30)).heap.size = B ∧ w.heap.size < B := ⟨_, rfl, by simp⟩
  rw [hB] at O1
  have OB := O1
  have HNE : Hid (∀ g, la = some ⟨g, 0, none⟩ → (Value.slice (some ⟨w.heap.size, 0, none⟩) 0 0).ownBlock ≠ some g ∧ g < w1.heap.size) := Lib.hid (fun g hg => by
    subst hg
    have := O1.lt g rfl
    refine ⟨by simp [Value.ownBlock]; omega, this.2⟩)
  clear HT P0 b0 hb hla O1 hB
  go_wp2
  go_loopw [3, 5] (fun o i wr => ∃ (k : Nat) (l : List (Int × Int)), k ≤ n ∧ i = .int .i64 k ∧ Hid (l = allL F T n k) ∧ PF wr w.heap.size o l.length (LP l) ∧ Hid (∀ g, la = some ⟨g, 0, none⟩ → o.ownBlock ≠ some g ∧ g < wr.heap.size) ∧ OF wr B (.slice la n cap) n F ∧ Below w.heap.size w wr) (fun _ i _ => n - (intOf i).toNat)
  case atStart => exact ⟨0, [], Nat.zero_le _, rfl, Lib.hid rfl, P1, HNE, OB, b1⟩
  case round =>
    clear P1 b1 OB HNE
    obtain ⟨k, l, hk, rfl, hl, rP, rN, rO, rb⟩ := hrel
    by_cases hlt : k < n
    · skip
      have i0 : (0 : Int) ≤ (k : Int) := by omega
      have i1 : (k : Int) < (n : Int) := by omega
      go_wp2
      go_loopw [3, 6] (fun o i wr => ∃ (j : Nat) (l : List (Int × Int)), k + 1 ≤ j ∧ j ≤ n ∧ i = .int .i64 j ∧ Hid (l = allL F T n k ++ rowL F T k j) ∧ PF wr w.heap.size o l.length (LP l) ∧ Hid (∀ g, la = some ⟨g, 0, none⟩ → o.ownBlock ≠ some g ∧ g < wr.heap.size) ∧ OF wr B (.slice la n cap) n F ∧ Below w.heap.size w wr) (fun _ i _ => n - (intOf i).toNat)
      case atStart => exact ⟨k + 1, l, by omega, by omega, by go_num, Lib.hid (by rw [rowL_skip (k + 1) (Nat.le_refl _), List.append_nil]; exact hl.out), rP, rN, rO, rb⟩
      case round =>
        clear rP rN rO rb hl
        obtain ⟨j, l, hkj, hj, rfl, hl, rP, rN, rO, rb⟩ := hrel
        by_cases hlj : j < n
        · obtain ⟨la', cap', hle, hla⟩ := rO.form
          obtain ⟨g, hg, -, -, -⟩ := hla (by omega)
          injection hle with hle1 _ hle2
          rw [hg] at hle1
          subst hle1 hle2
          obtain ⟨rN1, rg⟩ := rN.out g rfl
          have hca := (rO.at k hlt).1
          have hcd := (rO.at j hlj).1
          have j0 : (0 : Int) ≤ (j : Int) := by omega
          have j1 : (j : Int) < (n : Int) := by omega
          have hpf := fun w => HP.out k j hlt hlj w
          have hln : l.length ≤ 1048576 := by have h1 := HL.out k; have h2 := HR.out k j; have h3 := congrArg List.length hl.out; rw [List.length_append] at h3; omega
          obtain ⟨A, hFa⟩ : ∃ a, F k = a := ⟨_, rfl⟩
          obtain ⟨D, hFd⟩ : ∃ a, F j = a := ⟨_, rfl⟩
          rw [hFa] at hca
          rw [hFd] at hcd
          simp only [hFa, hFd] at hpf
          have HFA := Lib.hid hFa
          have HFD := Lib.hid hFd
          have hy1 := fun h => rowL_yes (F := F) (T := T) (k := k) (j := j) (by omega) h
          have hy0 := fun h => rowL_no (F := F) (T := T) (k := k) (j := j) h
          obtain ⟨y, hy⟩ : ∃ y, T k j = y := ⟨_, rfl⟩
          rw [hy] at hy1 hy0
          simp only [hy] at hpf
          rw [hFa, hFd] at hy1
          have HY1 := Lib.hid hy1
          have HY0 := Lib.hid hy0
          have HPF := Lib.hid hpf
          clear hpf hy hFa hFd hla hg hy1 hy0
          have hrg := Below.refl wr.heap.size wr
          go_wp2_with fail
          go_still_tail 9, (by kernel_rfl)
          repeat still_step
          repeat still_step
          try refine wpStill_nil ?_
          change wpList _ _ _ _ _ wr.drew
          have g1 := below_drew hrg
          obtain ⟨W, hW⟩ : ∃ W, wr.drew = W := ⟨_, rfl⟩
          rw [hW] at g1 ⊢
          have HW := Lib.hid hW
          clear hrg hca hcd hW
          go_wp2_with fail
          refine (HPF.out _).mono ?_
          rintro e w5 ⟨rfl, hb⟩
          have g5 := below_then g1 (Nat.le_refl _) hb
          have r5 := below_then rb (Nat.le_refl _) g5
          have P5 := rP.below g5
          have O5 := rO.below g5
          have rg5 : g < w5.heap.size := Nat.lt_of_lt_of_le rg g5.size
          clear g1 hb g5 rb rP rO rg HW HPF
          cases y with
          | false =>
            have HX := Lib.hid (show l = allL F T n k ++ rowL F T k (j + 1) by rw [HY0.out rfl]; exact hl.out)
            have NX : Hid (∀ g', (some ⟨g, 0, none⟩ : Option Addr) = some ⟨g', 0, none⟩ → _ ≠ some g' ∧ g' < w5.heap.size) := Lib.hid (fun g' e => by injection e with e; injection e with e; subst e; exact ⟨rN1, rg5⟩)
            clear rN hl HY1 HY0
            go_wp2
            go_roundw
            case rel => exact ⟨j + 1, l, by omega, by omega, by go_num, HX, P5, NX, O5, r5⟩
            case measure => simp [intOf]; omega
          | true =>
            have HX := Lib.hid (show l ++ [(A, D)] = allL F T n k ++ rowL F T k (j + 1) by rw [HY1.out rfl, ← List.append_assoc, ← hl.out])
            have hca := (O5.at k hlt).1
            have hcd := (O5.at j hlj).1
            have hA := HFA.out
            have hD := HFD.out
            rw [hA] at hca
            rw [hD] at hcd
            have KC : Hid (∀ wx, OF wx B (.slice (some ⟨g, 0, none⟩) n cap) n F → wx.cell? ⟨g, k, none⟩ = some (.int .i64 A) ∧ wx.cell? ⟨g, j, none⟩ = some (.int .i64 D)) := Lib.hid (fun wx h => ⟨hA ▸ (h.at k hlt).1, hD ▸ (h.at j hlj).1⟩)
            go_wp2_with fail
            have g1 := below_drew (Below.refl w5.heap.size w5)
            have r6 := below_then r5 (Nat.le_refl _) g1
            have P6 := P5.below g1
            have O6 := O5.below g1
            have rg6 : g < w5.drew.heap.size := Nat.lt_of_lt_of_le rg5 g1.size
            clear r5 P5 O5 rg5 g1 hA hD hca hcd
            refine wp_region_held_drew (S := (fun wx => wx.cell? ⟨g, k, none⟩ = some (.int .i64 A) ∧ wx.cell? ⟨g, j, none⟩ = some (.int .i64 D))) (by kernel_rfl) (KC.out _ O6) (fun hHeld => ?_)
            obtain ⟨W, hW⟩ : ∃ W, w5.drew = W := ⟨_, rfl⟩
            rw [hW] at r6 P6 O6 rg6 hHeld ⊢
            clear hW
            refine wpAnyH_take (i := 0) (oi := { dst := some 37, op := Go.Op.move (Go.Operand.tmp 3), type := 22, pos := "l3_families.go:58", after := #[], guard := none }) (v := ?v0) rfl (by kernel_rfl) (by kernel_rfl) (by kernel_rfl) (fun _ _ _ h => h) (Or.inl ⟨by rfl, ?hy0⟩) (by assumption) ?rest0
            case hy0 => (intro w hSw; (try dsimp only at hSw); obtain ⟨q0, q1⟩ := hSw; go_simp; try with_reducible rfl)
            try simp only [Act.put, List.setIfInBounds_toArray, List.set_cons_zero, List.set_cons_succ]
            refine wpAnyH_take (i := 1) (oi := { dst := some 38, op := Go.Op.move (Go.Operand.tmp 4), type := 31, pos := "l3_families.go:58", after := #[], guard := none }) (v := ?v1) rfl (by kernel_rfl) (by kernel_rfl) (by kernel_rfl) (fun _ _ _ h => h) (Or.inl ⟨by rfl, ?hy1⟩) (by assumption) ?rest1
            case hy1 => (intro w hSw; (try dsimp only at hSw); obtain ⟨q0, q1⟩ := hSw; go_simp; try with_reducible rfl)
            try simp only [Act.put, List.setIfInBounds_toArray, List.set_cons_zero, List.set_cons_succ]
            refine wpAnyH_take (i := 2) (oi := { dst := some 39, op := Go.Op.move (Go.Operand.tmp 5), type := 3, pos := "l3_families.go:58", after := #[], guard := none }) (v := ?v2) rfl (by kernel_rfl) (by kernel_rfl) (by kernel_rfl) (fun _ _ _ h => h) (Or.inl ⟨by rfl, ?hy2⟩) (by assumption) ?rest2
            case hy2 => (intro w hSw; (try dsimp only at hSw); obtain ⟨q0, q1⟩ := hSw; go_simp; try with_reducible rfl)
            try simp only [Act.put, List.setIfInBounds_toArray, List.set_cons_zero, List.set_cons_succ]
            refine wpAnyH_take (i := 3) (oi := { dst := some 40, op := Go.Op.indexAddr 31 (Go.Operand.tmp 38) (Go.Operand.tmp 39), type := 0, pos := "l3_families.go:58", after := #[{ on := 1, ground := Go.Ground.data }, { on := 2, ground := Go.Ground.data }], guard := none }) (v := ?v3) rfl (by kernel_rfl) (by kernel_rfl) (by kernel_rfl) (fun _ _ _ h => h) (Or.inl ⟨by rfl, ?hy3⟩) (by assumption) ?rest3
            case hy3 => (intro w hSw; (try dsimp only at hSw); obtain ⟨q0, q1⟩ := hSw; go_simp; try with_reducible rfl)
            try simp only [Act.put, List.setIfInBounds_toArray, List.set_cons_zero, List.set_cons_succ]
            refine wpAnyH_take (i := 4) (oi := { dst := some 41, op := Go.Op.load 3 (Go.Operand.tmp 40), type := 3, pos := "l3_families.go:58", after := #[{ on := 3, ground := Go.Ground.data }], guard := none }) (v := ?v4) rfl (by kernel_rfl) (by kernel_rfl) (by kernel_rfl) (fun _ _ _ h => h) (Or.inl ⟨by rfl, ?hy4⟩) (by assumption) ?rest4
            case hy4 => (intro w hSw; (try dsimp only at hSw); obtain ⟨q0, q1⟩ := hSw; go_simp; try with_reducible rfl)
            try simp only [Act.put, List.setIfInBounds_toArray, List.set_cons_zero, List.set_cons_succ]
            refine wpAnyH_take (i := 5) (oi := { dst := some 42, op := Go.Op.move (Go.Operand.tmp 4), type := 31, pos := "l3_families.go:58", after := #[], guard := none }) (v := ?v5) rfl (by kernel_rfl) (by kernel_rfl) (by kernel_rfl) (fun _ _ _ h => h) (Or.inl ⟨by rfl, ?hy5⟩) (by assumption) ?rest5
            case hy5 => (intro w hSw; (try dsimp only at hSw); obtain ⟨q0, q1⟩ := hSw; go_simp; try with_reducible rfl)
            try simp only [Act.put, List.setIfInBounds_toArray, List.set_cons_zero, List.set_cons_succ]
            refine wpAnyH_take (i := 6) (oi := { dst := some 43, op := Go.Op.move (Go.Operand.tmp 6), type := 3, pos := "l3_families.go:58", after := #[], guard := none }) (v := ?v6) rfl (by kernel_rfl) (by kernel_rfl) (by kernel_rfl) (fun _ _ _ h => h) (Or.inl ⟨by rfl, ?hy6⟩) (by assumption) ?rest6
            case hy6 => (intro w hSw; (try dsimp only at hSw); obtain ⟨q0, q1⟩ := hSw; go_simp; try with_reducible rfl)
            try simp only [Act.put, List.setIfInBounds_toArray, List.set_cons_zero, List.set_cons_succ]
            refine wpAnyH_take (i := 7) (oi := { dst := some 44, op := Go.Op.indexAddr 31 (Go.Operand.tmp 42) (Go.Operand.tmp 43), type := 0, pos := "l3_families.go:58", after := #[{ on := 5, ground := Go.Ground.data }, { on := 6, ground := Go.Ground.data }], guard := none }) (v := ?v7) rfl (by kernel_rfl) (by kernel_rfl) (by kernel_rfl) (fun _ _ _ h => h) (Or.inl ⟨by rfl, ?hy7⟩) (by assumption) ?rest7
            case hy7 => (intro w hSw; (try dsimp only at hSw); obtain ⟨q0, q1⟩ := hSw; go_simp; try with_reducible rfl)
            try simp only [Act.put, List.setIfInBounds_toArray, List.set_cons_zero, List.set_cons_succ]
            refine wpAnyH_take (i := 8) (oi := { dst := some 45, op := Go.Op.load 3 (Go.Operand.tmp 44), type := 3, pos := "l3_families.go:58", after := #[{ on := 7, ground := Go.Ground.data }], guard := none }) (v := ?v8) rfl (by kernel_rfl) (by kernel_rfl) (by kernel_rfl) (fun _ _ _ h => h) (Or.inl ⟨by rfl, ?hy8⟩) (by assumption) ?rest8
            case hy8 => (intro w hSw; (try dsimp only at hSw); obtain ⟨q0, q1⟩ := hSw; go_simp; try with_reducible rfl)
            try simp only [Act.put, List.setIfInBounds_toArray, List.set_cons_zero, List.set_cons_succ]
            refine wpAnyH_take (i := 9) (oi := { dst := some 46, op := Go.Op.build 30 #[(0, Go.Operand.tmp 41), (1, Go.Operand.tmp 45)], type := 30, pos := "l3_families.go:58", after := #[{ on := 4, ground := Go.Ground.data }, { on := 8, ground := Go.Ground.data }], guard := none }) (v := ?v9) rfl (by kernel_rfl) (by kernel_rfl) (by kernel_rfl) (fun _ _ _ h => h) (Or.inl ⟨by rfl, ?hy9⟩) (by assumption) ?rest9
            case hy9 => (intro w hSw; (try dsimp only at hSw); obtain ⟨q0, q1⟩ := hSw; go_simp; try with_reducible rfl)
            try simp only [Act.put, List.setIfInBounds_toArray, List.set_cons_zero, List.set_cons_succ]
            refine wpAnyH_ready (rs := [10]) (by kernel_rfl) (by simp) ?_
            refine AllReadyH.cons (o := { dst := some 47, op := Go.Op.buildSlice 22 1 #[(0, Go.Operand.tmp 46)], type := 22, pos := "l3_families.go:58", after := #[{ on := 9, ground := Go.Ground.data }], guard := none }) rfl (fun K hK => ?_) AllReadyH.nil
            go_simp
            have OL := O6.alloc (.cells #[.int .i64 A, .int .i64 D] 30)
            refine hK.out _ _ (KC.out _ OL) (fun hHeld => ?_)
            clear hK K
            try simp only [Act.put, List.setIfInBounds_toArray, List.set_cons_zero, List.set_cons_succ]
            refine wpAnyH_ready (rs := [11]) (by kernel_rfl) (by simp) ?_
            refine AllReadyH.cons (o := { dst := some 48, op := Go.Op.call { callee := Go.Callee.builtin Go.Builtin.append, args := #[Go.Operand.tmp 37, Go.Operand.tmp 47], argTypes := #[22, 22] }, type := 22, pos := "l3_families.go:58", after := #[{ on := 0, ground := Go.Ground.data }, { on := 10, ground := Go.Ground.data }], guard := none }) rfl (fun K hK => ?_) AllReadyH.nil
            refine step_append_pair rfl (.tmp 37) (.tmp 47) rfl w.heap.size _ l.length (LP l) rfl (P6.alloc _) W.heap.size 1 A D rfl (by simp) (by simp) hln (by have := r6.size; simp; omega) ?_
            intro v' w7 P7 g7 h7
            have r7 : Below w.heap.size w w7 := (r6.alloc r6.size _).grown g7 (by have := r6.size; simp; omega) (fun c hc => (P6.lt c hc).1)
            have O7 : OF w7 B (.slice (some ⟨g, 0, none⟩) n cap) n F := (O6.alloc _).kept g7 (.inr (by intro e; exact rN1 e.symm))
            have rg7 : g < w7.heap.size := by have := g7.size; simp at this; omega
            have rN7 : v'.ownBlock ≠ some g := by
              rcases h7 with h | h
              · rw [h]; exact rN1
              · rw [h]; simp; omega
            refine hK.out _ _ (KC.out _ O7) (fun hHeld => ?_)
            clear hK K OL
            try simp only [Act.put, List.setIfInBounds_toArray, List.set_cons_zero, List.set_cons_succ]
            refine wpAnyH_take (i := 12) (oi := { dst := some 3, op := Go.Op.assign (Go.Operand.tmp 48), type := 22, pos := "l3_families.go:58", after := #[{ on := 11, ground := Go.Ground.data }, { on := 11, ground := Go.Ground.chain }, { on := 0, ground := Go.Ground.phase }, { on := 1, ground := Go.Ground.phase }, { on := 2, ground := Go.Ground.phase }, { on := 3, ground := Go.Ground.phase }, { on := 4, ground := Go.Ground.phase }, { on := 5, ground := Go.Ground.phase }, { on := 6, ground := Go.Ground.phase }, { on := 7, ground := Go.Ground.phase }, { on := 8, ground := Go.Ground.phase }, { on := 9, ground := Go.Ground.phase }, { on := 10, ground := Go.Ground.phase }, { on := 11, ground := Go.Ground.phase }], guard := none }) (v := ?v12) rfl (by kernel_rfl) (by kernel_rfl) (by kernel_rfl) (fun _ _ _ h => h) (Or.inl ⟨by rfl, ?hy12⟩) (by assumption) ?rest12
            case hy12 => (intro w hSw; (try dsimp only at hSw); obtain ⟨q0, q1⟩ := hSw; go_simp; try with_reducible rfl)
            try simp only [Act.put, List.setIfInBounds_toArray, List.set_cons_zero, List.set_cons_succ]
            refine wpAnyH_done (by kernel_rfl) ?_ _
            have NX : Hid (∀ g', (some ⟨g, 0, none⟩ : Option Addr) = some ⟨g', 0, none⟩ → v'.ownBlock ≠ some g' ∧ g' < w7.heap.size) := Lib.hid (fun g' e => by injection e with e; injection e with e; subst e; exact ⟨rN7, rg7⟩)
            clear r6 P6 O6 g7 h7 rN rg6 hl HY1 HY0
            go_wp2
            go_roundw
            case rel => exact ⟨j + 1, l ++ [(A, D)], by omega, by omega, by go_num, HX, P7.snocL, NX, O7, r7⟩
            case measure => simp [intOf]; omega
        · obtain rfl : j = n := by omega
          go_wp2
          go_roundw
          case rel => exact ⟨k + 1, l, by omega, by go_num, hl, rP, rN, rO, rb⟩
          case measure => simp [intOf]; omega
    · obtain rfl : k = n := by omega
      go_wp2
      go_ret
      exact ⟨_, rfl, by rw [← hl.out]; exact rP, rb⟩
theorem sPairs_none (S : Int) (l : List (Int × Int)) (hl : l = []) (w : World) (h6 : 6 < S) :
    Calls Try.prog 6 #[.int .i64 S] w fun e w' => ∃ v, e = .returned v ∧ PF w' w.heap.size v l.length (LP l) ∧ Below w.heap.size w w' := by
  subst hl
  go_enter Try.func6, Try.ntmps6
  go_wp2
  go_ret
  exact ⟨_, rfl, PF.empty w _, (Below.refl _ _).alloc (Nat.le_refl _) _⟩
set_option maxHeartbeats 3200000 in
theorem iPairs_of (S : Int) (n : Nat) (F : Nat → Int) (T : Nat → Nat → Bool) (w : World) (hn : n ≤ 300)
    (hT : ∀ w, Calls Try.prog 12 #[.int .i64 S] w fun e w' => ∃ v, e = .returned v ∧ OF w' w.heap.size v n F ∧ Below w.heap.size w w')
    (hP : ∀ i j, i < j → j < n → ∀ w, Calls Try.prog 13 #[.int .i64 S, .int .i64 (F i), .int .i64 (F j)] w fun e w' => e = .returned (.bool (T i j)) ∧ Below w.heap.size w w') :
    Calls Try.prog 7 #[.int .i64 S] w fun e w' => ∃ v, e = .returned v ∧ PF w' w.heap.size v (allL F T n n).length (LP (allL F T n n)) ∧ Below w.heap.size w w' := by
  have HL := Lib.hid (fun k => allL_len F T n hn k)
  have HR := Lib.hid (fun k j => rowL_len F T k j)
  have HT := Lib.hid hT
  have HP := Lib.hid hP
  clear hT hP
  go_enter Try.func7, Try.ntmps7
  go_wp2_with fail
  refine (HT.out _).mono ?_
  rintro e w1 ⟨lv, rfl, O1, b1⟩
  have hTL := fun l hl => tailI_ints O1 l hl
  obtain ⟨la, cap, rfl, hla⟩ := O1.form
  have HLA : Hid (∀ k, k < n → ∃ g, la = some ⟨g, 0, none⟩ ∧ g < w1.heap.size ∧ w1.cell? ⟨g, k, none⟩ = some (.int .i64 (F k))) := Lib.hid (fun k hk => by
    obtain ⟨g, e, -, h2, h3⟩ := hla (by omega)
    exact ⟨g, e, h2, (h3 k hk).1⟩)
  have HTL := Lib.hid hTL
  clear HT hla O1 hTL
  go_wp2
  go_loopw [3, 13] (fun o i wr => ∃ (k : Nat) (l : List (Int × Int)), k ≤ n ∧ i = .int .i64 k ∧ Hid (l = allL F T n k) ∧ PF wr w1.heap.size o l.length (LP l) ∧ Below w1.heap.size w1 wr) (fun _ i _ => n - (intOf i).toNat)
  case atStart => exact ⟨0, [], Nat.zero_le _, rfl, Lib.hid rfl, PF.nil _ _ _, Below.refl _ _⟩
  case round =>
    obtain ⟨k, l, hk, rfl, hl, rP, rc⟩ := hrel
    by_cases hlt : k < n
    · obtain ⟨g, rfl, hgl, hcl⟩ := HLA.out k hlt
      have hca := (rc.cell (p := ⟨g, k, none⟩) hgl).trans hcl
      obtain ⟨A, hA⟩ : ∃ A, F k = A := ⟨_, rfl⟩
      rw [hA] at hca
      have HFA := Lib.hid hA
      have i0 : (0 : Int) ≤ (k : Int) := by omega
      have i1 : (k : Int) < (n : Int) := by omega
      obtain ⟨a2, cap2, hsl, hct⟩ := HTL.out (k + 1) (by omega)
      rw [show ((k + 1 : Nat) : Int) = (k : Int) + 1 by omega] at hsl
      obtain ⟨N2, hN2⟩ : ∃ N2, n - (k + 1) = N2 := ⟨_, rfl⟩
      rw [hN2] at hsl hct
      have HC2 := Lib.hid hct
      have HN2 := Lib.hid hN2
      have hN3 : N2 ≤ 300 := by omega
      clear hct hN2 hcl hA
      go_wp2
      clear hca hsl
      go_loopw [3, 23] (fun o i wr => ∃ (d : Nat) (l : List (Int × Int)), d ≤ N2 ∧ i = .int .i64 d ∧ Hid (l = allL F T n k ++ rowL F T k (k + 1 + d)) ∧ PF wr w1.heap.size o l.length (LP l) ∧ Below w1.heap.size w1 wr) (fun _ i _ => N2 - (intOf i).toNat)
      case atStart => exact ⟨0, l, Nat.zero_le _, rfl, Lib.hid (by rw [rowL_skip (k + 1 + 0) (Nat.le_refl _), List.append_nil]; exact hl.out), rP, rc⟩
      case round =>
        clear rP rc hl
        obtain ⟨d, l, hd, rfl, hl, rP, rc⟩ := hrel
        by_cases hdl : d < N2
        · obtain ⟨x2, rfl, hx2, hc2⟩ := HC2.out d hdl
          have hcd : _ = some (Value.int .i64 (F (k + 1 + d))) := (rc.cell (p := x2.add d) (by rw [addI_block]; exact hx2)).trans hc2
          obtain ⟨j, hj⟩ : ∃ j, k + 1 + d = j := ⟨_, rfl⟩
          have hkj : k < j := by omega
          have hjn : j < n := by have := HN2.out; omega
          have hpf := fun w => HP.out k j hkj hjn w
          have hln : l.length ≤ 1048576 := by have h1 := HL.out k; have h2 := HR.out k (k + 1 + d); have h3 := congrArg List.length hl.out; rw [List.length_append] at h3; omega
          rw [hj] at hcd hl
          obtain ⟨D, hD⟩ : ∃ a, F j = a := ⟨_, rfl⟩
          rw [hD] at hcd
          simp only [HFA.out, hD] at hpf
          have hy1 := fun h => rowL_yes (F := F) (T := T) (k := k) (j := j) hkj h
          have hy0 := fun h => rowL_no (F := F) (T := T) (k := k) (j := j) h
          obtain ⟨y, hy⟩ : ∃ y, T k j = y := ⟨_, rfl⟩
          rw [hy] at hy1 hy0
          simp only [hy] at hpf
          rw [HFA.out, hD] at hy1
          have HY1 := Lib.hid hy1
          have HY0 := Lib.hid hy0
          have HPF := Lib.hid hpf
          have HJ : Hid (k + 1 + (d + 1) = j + 1) := Lib.hid (by omega)
          have j0 : (0 : Int) ≤ (d : Int) := by omega
          have j1 : (d : Int) < (N2 : Int) := by omega
          clear hpf hy hD hy1 hy0 hj hc2 hkj hjn
          go_wp2_with fail
          refine (HPF.out _).mono ?_
          rintro e w5 ⟨rfl, hb⟩
          have c5 := below_then rc (Nat.le_refl _) hb
          have P5 := rP.below hb
          clear hb rc rP hcd HPF
          cases y with
          | false =>
            have HX := Lib.hid (show l = allL F T n k ++ rowL F T k (k + 1 + (d + 1)) by rw [HJ.out, HY0.out rfl]; exact hl.out)
            clear hl HY1 HY0 HJ
            go_wp2
            go_roundw
            case rel => exact ⟨d + 1, l, by omega, by go_num, HX, P5, c5⟩
            case measure => simp [intOf]; omega
          | true =>
            have HX := Lib.hid (show l ++ [(A, D)] = allL F T n k ++ rowL F T k (k + 1 + (d + 1)) by rw [HJ.out, HY1.out rfl, ← List.append_assoc, ← hl.out])
            clear hl HY1 HY0 HJ
            go_wp2_with (at_builtin; refine wpList_append_pair rfl (.tmp 31) (.tmp 35) rfl w1.heap.size _ l.length (LP l) rfl (P5.alloc _) w5.heap.size 1 A D rfl (by simp) (by simp) hln (by have := c5.size; simp; omega) ?_; intro v' w7 P7 g7 h7)
            have c7 : Below w1.heap.size w1 w7 := (c5.alloc c5.size _).grown g7 (by have := c5.size; simp; omega) (fun c hc => (P5.lt c hc).1)
            clear c5 P5 g7 h7
            go_wp2
            go_roundw
            case rel => exact ⟨d + 1, l ++ [(A, D)], by omega, by go_num, HX, P7.snocL, c7⟩
            case measure => simp [intOf]; omega
        · obtain rfl : d = N2 := by omega
          have HX := Lib.hid (show l = allL F T n (k + 1) by rw [hl.out, show k + 1 + d = n by have := HN2.out; omega]; rfl)
          clear hl
          go_wp2
          go_roundw
          case rel => exact ⟨k + 1, l, by omega, by go_num, HX, rP, rc⟩
          case measure => simp [intOf]; omega
    · obtain rfl : k = n := by omega
      go_wp2
      go_ret
      exact ⟨_, rfl, by rw [← hl.out]; exact rP.mono b1.size, below_then b1 (Nat.le_refl _) rc⟩
theorem bothPairs (S : Int) : ∃ l : List (Int × Int), l.length ≤ 90000 ∧
    (∀ w, Calls Try.prog 6 #[.int .i64 S] w fun e w' => ∃ v, e = .returned v ∧ PF w' w.heap.size v l.length (LP l) ∧ Below w.heap.size w w') ∧
    (∀ w, Calls Try.prog 7 #[.int .i64 S] w fun e w' => ∃ v, e = .returned v ∧ PF w' w.heap.size v l.length (LP l) ∧ Below w.heap.size w w') := by
  by_cases h28 : 2 ≤ S ∧ S ≤ 8
  · obtain ⟨s, rfl⟩ : ∃ s : Nat, S = s := ⟨S.toNat, by omega⟩
    obtain ⟨n, F, ⟨hn, hin, -, hup⟩, hs, hi⟩ := tapsL s (by omega) (by omega)
    obtain ⟨M, hM, hMP⟩ := maxIsP
    have htb : ∀ j, j < n → tapsB s (F j) = true ∧ M s (F j) = true := fun j hj => by
      obtain ⟨t, e, hp⟩ := hin j hj
      have h1 := hp.1
      have ht : tapsB s t = true := (tapsB_iff _ _).2 ⟨by have := h1.lo; omega, by have := h1.hi; omega, by have := h1.tap; omega, by rw [Int.toNat_natCast]; have := h1.tapLt; omega⟩
      rw [e]
      exact ⟨ht, (hMP s t ht).2 hp⟩
    by_cases h6 : s ≤ 6
    · refine ⟨allL F (fun i j => prefT s (F i) (F j)) n n, ?_, fun w => sPairs_of s n F _ w (by omega) (by omega) hs (fun i j hi hj w => l3Pref_any s (F i) (F j) w (htb i hi).1 (htb j hj).1), fun w => iPairs_of s n F _ w (by omega) hi (fun i j hij hj w => ?_)⟩
      · have := allL_len F (fun i j => prefT s (F i) (F j)) n (by omega) n; omega
      · have h := iPref_any M hM s (F i) (F j) w
        have hne : (F i != F j) = true := by have := hup i j hij hj; simp; omega
        rw [show prefB M s (F i) (F j) = prefT s (F i) (F j) by unfold prefB; rw [(bothB_iff M s (F i) (F j)).2 ⟨by omega, (htb i (by omega)).2, (htb j hj).2⟩, hne]; rfl] at h
        exact h
    · have hnone := allL_none (F := F) (T := fun _ _ => false) (n := n) (fun _ _ _ _ => rfl) n
      refine ⟨allL F (fun _ _ => false) n n, ?_, fun w => sPairs_none s _ hnone w (by omega), fun w => iPairs_of s n F _ w (by omega) hi (fun i j hij hj w => ?_)⟩
      · rw [hnone]; simp
      · have h := iPref_any M hM s (F i) (F j) w
        rw [show prefB M s (F i) (F j) = false by unfold prefB; cases hb : bothB M s (F i) (F j) with | false => rfl | true => exact absurd ((bothB_iff _ _ _ _).1 hb).1 (by omega)] at h
        exact h
  · obtain ⟨hs, hi⟩ := tapsNone S h28
    refine ⟨allL (fun _ => 0) (fun _ _ => false) 0 0, Nat.zero_le _, fun w => ?_, fun w => iPairs_of S 0 _ _ w (by omega) hi (fun i j _ hj => absurd hj (Nat.not_lt_zero j))⟩
    by_cases h6 : S ≤ 6
    · exact sPairs_of S 0 _ _ w h6 (by omega) hs (fun i j hi => absurd hi (Nat.not_lt_zero i))
    · exact sPairs_none S _ rfl w (by omega)
end Go.Proofs.Ytmlmpekhcnjehaa
