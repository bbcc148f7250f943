/- Slices of pairs of taps of the call's own; PreferredPairs of the model, as far as a draw asks. -/
import Derived.Test.YtmlmpekhcnjehaaFamPref
import Derived.Test.YtmlmpekhcnjehaaDraw5
import Derived.Maps.AppendAt
import Derived.StillTailTactics
import Derived.Deep.RegionHeld3
namespace Go.Proofs.Ytmlmpekhcnjehaa
open Go.RowKit
set_option linter.unusedVariables false
set_option maxRecDepth 100000
def prL (n : Nat) (f : Nat → Int × Int) : List Value := (List.range (n * 2)).map fun t => Value.int .i64 (if t % 2 = 0 then (f (t / 2)).1 else (f (t / 2)).2)
theorem prL_len (n : Nat) (f : Nat → Int × Int) : (prL n f).length = n * 2 := by simp [prL]
theorem prL_at {n t : Nat} {f : Nat → Int × Int} (h : t < n * 2) : (prL n f)[t]? = some (.int .i64 (if t % 2 = 0 then (f (t / 2)).1 else (f (t / 2)).2)) := by
  unfold prL
  rw [List.getElem?_map, List.getElem?_range h]; rfl
theorem prL_snoc (n : Nat) (f : Nat → Int × Int) (A B : Int) : prL n f ++ [.int .i64 A, .int .i64 B] = prL (n + 1) (fun i => if i < n then f i else (A, B)) := by
  apply List.ext_getElem?
  intro t
  by_cases ht : t < n * 2
  · rw [List.getElem?_append_left (by rw [prL_len]; exact ht), prL_at ht, prL_at (by omega)]
    simp only [if_pos (show t / 2 < n by omega)]
  · rw [List.getElem?_append_right (by rw [prL_len]; omega), prL_len]
    by_cases h4 : t < (n + 1) * 2
    · rw [prL_at h4]
      simp only [if_neg (show ¬ t / 2 < n by omega)]
      have : t = n * 2 ∨ t = n * 2 + 1 := by omega
      rcases this with rfl | rfl
      · rw [if_pos (by omega), Nat.sub_self]; rfl
      · rw [if_neg (by omega), show n * 2 + 1 - n * 2 = 1 by omega]; rfl
    · rw [List.getElem?_eq_none (by simp; omega), List.getElem?_eq_none (by rw [prL_len]; omega)]
/-- A slice of n pairs of the call's own. -/
def PF (w : World) (B : Nat) (v : Value) (n : Nat) (f : Nat → Int × Int) : Prop := w.ownsRow B 30 2 v n (prL n f)
theorem PF.kept {w w' : World} {B : Nat} {v : Value} {n : Nat} {f : Nat → Int × Int} {row : Option Nat} (h : PF w B v n f) (hg : w.grownBy w' row) (hne : v.ownBlock = none ∨ v.ownBlock ≠ row) : PF w' B v n f := World.ownsRow.kept h hg hne
theorem PF.lt {w : World} {B : Nat} {v : Value} {n : Nat} {f : Nat → Int × Int} (h : PF w B v n f) : ∀ k, v.ownBlock = some k → B ≤ k ∧ k < w.heap.size := World.ownsRow.lt h
theorem PF.below {w w' : World} {B : Nat} {v : Value} {n : Nat} {f : Nat → Int × Int} (h : PF w B v n f) (hb : Below w.heap.size w w') : PF w' B v n f :=
  h.kept (grown_of_below hb) (by cases v.ownBlock <;> simp)
theorem PF.alloc {w : World} {B : Nat} {v : Value} {n : Nat} {f : Nat → Int × Int} (h : PF w B v n f) (o : Obj) : PF (w.alloc o) B v n f := World.ownsRow.alloc h o
theorem PF.empty (w : World) (f : Nat → Int × Int) : PF (w.alloc (.cells #[] 30)) w.heap.size (.slice (some ⟨w.heap.size, 0, none⟩) 0 0) 0 f := by
  refine ⟨by simp [prL], .inr ⟨w.heap.size, 0, #[], rfl, Nat.le_refl _, ?_, Nat.le_refl _, by unfold maxLen; omega, rfl, rfl⟩⟩
  show (w.heap.push _)[w.heap.size]? = _
  simp
theorem PF.form {w : World} {B : Nat} {v : Value} {n : Nat} {f : Nat → Int × Int} (h : PF w B v n f) : ∃ a cap, v = .slice a n cap ∧ (0 < n → ∃ g, a = some ⟨g, 0, none⟩ ∧ B ≤ g ∧ g < w.heap.size) := by
  obtain ⟨h1, ⟨rfl, rfl⟩ | ⟨g, cap, cur, rfl, hB, hg, hn, hm, hs, ht⟩⟩ := h
  · exact ⟨none, 0, rfl, fun h => absurd h (Nat.lt_irrefl 0)⟩
  · exact ⟨_, cap, rfl, fun _ => ⟨g, rfl, hB, (Array.getElem?_eq_some_iff.1 hg).1⟩⟩
theorem PF.cells {w : World} {B g n cap : Nat} {f : Nat → Int × Int} (h : PF w B (.slice (some ⟨g, 0, none⟩) n cap) n f) (i : Nat) (hi : i < n) :
    w.cell? ⟨g, i * 2, none⟩ = some (.int .i64 (f i).1) ∧ w.cell? ⟨g, i * 2 + 1, none⟩ = some (.int .i64 (f i).2) := by
  have c := fun (j : Nat) (hj : j < 2) => (World.ownsRow.cellAt h (i * 2 + j) (by omega)).trans (prL_at (by omega))
  have c0 := c 0 (by omega)
  have c1 := c 1 (by omega)
  rw [if_pos (by omega), Nat.add_zero, show i * 2 / 2 = i by omega] at c0
  rw [if_neg (by omega), show (i * 2 + 1) / 2 = i by omega] at c1
  exact ⟨c0, c1⟩
theorem pair_info : (Try.prog.info? 30).map (fun i => (i.zero, i.size, i.bytes)) = some (some (.agg #[.int .i64 0, .int .i64 0]), 2, 16) := by kernel_rfl
theorem wpList_append_pair {w : World} {ops : Array Oper} {rest : List Oper} {o : Oper} {a : Act} {Q : Exit → Act → World → Prop} (hgd : o.guard = none) (s x : Operand)
    (ho : o.op = .call { callee := .builtin .append, args := #[s, x], argTypes := #[22, 22] }) (B : Nat) (v : Value) (n : Nat) (f : Nat → Int × Int) (hs : a.eval s = v) (hown : PF w B v n f)
    (ad c : Nat) (A D : Int) (hx : a.eval x = .slice (some ⟨ad, 0, none⟩) 1 c) (hc : w.cell? ⟨ad, 0, none⟩ = some (.int .i64 A)) (hd : w.cell? ⟨ad, 1, none⟩ = some (.int .i64 D)) (hn : n ≤ 1048576) (hB : B ≤ w.heap.size)
    (h : ∀ v' w', PF w' B v' (n + 1) (fun i => if i < n then f i else (A, D)) → w.grownBy w' v.ownBlock → (v'.ownBlock = v.ownBlock ∨ v'.ownBlock = some w.heap.size) → wpList Try.prog ops Q rest (a.put o.dst v') w') : wpList Try.prog ops Q (o :: rest) a w := by
  obtain ⟨i0, hi, hzz⟩ := Option.map_eq_some_iff.1 pair_info
  simp only [Prod.mk.injEq] at hzz
  obtain ⟨hz, hsz, hby⟩ := hzz
  refine wpList_append_own_at w hgd s x 22 ho B 30 i0 (.agg #[.int .i64 0, .int .i64 0]) 2 16 (by kernel_rfl) hi hz hsz hby rfl (by decide) v n _ hs hown ⟨ad, 0, none⟩ 1 c [.int .i64 A, .int .i64 D] hx rfl ?_ ?_ ?_ ?_ hB ?_
  · intro j u hj
    match j with
    | 0 => simp at hj; subst hj; exact hc
    | 1 => simp at hj; subst hj; exact hd
    | j + 2 => simp at hj
  · intro u hu
    simp at hu
    rcases hu with rfl | rfl <;> rfl
  · unfold maxLen; omega
  · omega
  · intro v' w' h1 h2 _ h3
    refine h v' w' ?_ h2 h3
    unfold PF
    rw [← prL_snoc]; exact h1
theorem step_append_pair {w : World} {ops : Array Oper} {o : Oper} {a : Act} {K : Act → World → Prop} {Q : Exit → Act → World → Prop} {E : Prop} (hgd : o.guard = none) (s x : Operand)
    (ho : o.op = .call { callee := .builtin .append, args := #[s, x], argTypes := #[22, 22] }) (B : Nat) (v : Value) (n : Nat) (f : Nat → Int × Int) (hs : a.eval s = v) (hown : PF w B v n f)
    (ad c : Nat) (A D : Int) (hx : a.eval x = .slice (some ⟨ad, 0, none⟩) 1 c) (hc : w.cell? ⟨ad, 0, none⟩ = some (.int .i64 A)) (hd : w.cell? ⟨ad, 1, none⟩ = some (.int .i64 D)) (hn : n ≤ 1048576) (hB : B ≤ w.heap.size)
    (h : ∀ v' w', PF w' B v' (n + 1) (fun i => if i < n then f i else (A, D)) → w.grownBy w' v.ownBlock → (v'.ownBlock = v.ownBlock ∨ v'.ownBlock = some w.heap.size) → K (a.put o.dst v') w') :
    if Region.wanted o (yielded ops a.tmps) = true then Oper.wp Try.prog o a w K Q else E := by
  have hw : Region.wanted o (yielded ops a.tmps) = true := by simp [Region.wanted, hgd]
  rw [if_pos hw]
  obtain ⟨i0, hi, hzz⟩ := Option.map_eq_some_iff.1 pair_info
  simp only [Prod.mk.injEq] at hzz
  obtain ⟨hz, hsz, hby⟩ := hzz
  obtain ⟨v', w', hr, h1, h2, -, h3⟩ := run_append_own_at (P := Try.prog) w B 22 o.type 30 i0 (.agg #[.int .i64 0, .int .i64 0]) 2 16 (by kernel_rfl) hi hz hsz hby rfl (by decide) v n _ hown ⟨ad, 0, none⟩ 1 c [.int .i64 A, .int .i64 D] rfl (by
    intro j u hj
    match j with
    | 0 => simp at hj; subst hj; exact hc
    | 1 => simp at hj; subst hj; exact hd
    | j + 2 => simp at hj) (by
    intro u hu
    simp at hu
    rcases hu with rfl | rfl <;> rfl) (by unfold maxLen; omega) (by omega) hB
  unfold Oper.wp execOp
  simp only [ho, resolve, invoke, builtin, Sem.run_bind, Sem.run_pure, Result.andThen_ok, List.map_toArray, List.map_cons, List.map_nil, hs, hx, hr]
  refine h v' w' ?_ h2 h3
  unfold PF
  rw [← prL_snoc]; exact h1
set_option maxHeartbeats 3200000 in
theorem somePairs (s : Nat) (w : World) (h2 : 2 ≤ s) (h5 : s ≤ 5) :
    Calls Try.prog 6 #[.int .i64 s] w fun e w' => ∃ v n f, e = .returned v ∧ PF w' w.heap.size v n f ∧ n ≤ 90000 ∧ Below w.heap.size w w' := by
  have P0 := PF.empty w (fun _ => (0, 0))
  have b0 := (Below.refl w.heap.size w).alloc (Nat.le_refl _) (.cells #[] 30)
  have s6 : ¬ ((6 : Int) < (s : Int)) := by omega
  have HT := Lib.hid (fun w => mTaps_any s w h2 h5)
  have h2' := Lib.hid h2
  have h5' := Lib.hid h5
  clear h2 h5
  go_enter Try.func6, Try.ntmps6
  go_wp2_with fail
  refine (HT.out _).mono ?_
  rintro e w1 ⟨lv, n, F, rfl, O1, n1, n3, hF, hb⟩
  have P1 := P0.below hb
  have b1 := below_then b0 (Nat.le_refl _) hb
  obtain ⟨la, cap, rfl, hla⟩ := O1.form
  obtain ⟨g, rfl, hgB, hgl, -⟩ := hla (by omega)
  have hgw : w.heap.size < g := by simp at hgB; omega
  have OO : ∃ B, OF w1 B (.slice (some ⟨g, 0, none⟩) n cap) n F := ⟨_, O1⟩
  obtain ⟨B, OB⟩ := OO
  have HF := Lib.hid hF
  clear HT P0 b0 hb hla O1 hgB hF
  go_wp2
  go_loopw [3, 5] (fun o i wr => ∃ (k p : Nat) (f : Nat → Int × Int), k ≤ n ∧ i = .int .i64 k ∧ p ≤ k * 300 ∧ PF wr w.heap.size o p f ∧ o.ownBlock ≠ some g ∧ g < wr.heap.size ∧ OF wr B (.slice (some ⟨g, 0, none⟩) n cap) n F ∧ Below w.heap.size w wr) (fun _ i _ => n - (intOf i).toNat)
  case atStart => exact ⟨0, 0, _, Nat.zero_le _, rfl, Nat.zero_le _, P1, by simp [Value.ownBlock]; omega, hgl, OB, b1⟩
  case round =>
    clear P1 b1 OB hgl
    obtain ⟨k, p, f, hk, rfl, hp, rP, rN, rg, rO, rb⟩ := hrel
    by_cases hlt : k < n
    · obtain ⟨a, hFa, hRa⟩ := HF.out k hlt
      have i0 : (0 : Int) ≤ (k : Int) := by omega
      have i1 : (k : Int) < (n : Int) := by omega
      go_wp2
      go_loopw [3, 6] (fun o i wr => ∃ (j q : Nat) (f : Nat → Int × Int), k + 1 ≤ j ∧ j ≤ n ∧ i = .int .i64 j ∧ q ≤ k * 300 + j ∧ PF wr w.heap.size o q f ∧ o.ownBlock ≠ some g ∧ g < wr.heap.size ∧ OF wr B (.slice (some ⟨g, 0, none⟩) n cap) n F ∧ Below w.heap.size w wr) (fun _ i _ => n - (intOf i).toNat)
      case atStart => exact ⟨k + 1, p, f, by omega, by omega, by go_num, by omega, rP, rN, rg, rO, rb⟩
      case round =>
        clear rP rN rg rO rb
        obtain ⟨j, q, f, hkj, hj, rfl, hq, rP, rN, rg, rO, rb⟩ := hrel

        by_cases hlj : j < n
        · obtain ⟨d, hFd, hRd⟩ := HF.out j hlj
          have hca := (rO.at k hlt).1
          have hcd := (rO.at j hlj).1
          rw [hFa] at hca
          rw [hFd] at hcd
          have j0 : (0 : Int) ≤ (j : Int) := by omega
          have j1 : (j : Int) < (n : Int) := by omega
          have hpf := fun w => l3Pref_any s a d w ((tapsB_iff _ _).2 ⟨by have := hRa.lo; omega, by have := hRa.hi; omega, by have := hRa.tap; omega, by rw [Int.toNat_natCast]; have := hRa.tapLt; omega⟩) ((tapsB_iff _ _).2 ⟨by have := hRa.lo; omega, by have := hRa.hi; omega, by have := hRd.tap; omega, by rw [Int.toNat_natCast]; have := hRd.tapLt; omega⟩)
          obtain ⟨y, hy⟩ : ∃ y, prefT s a d = y := ⟨_, rfl⟩
          rw [hy] at hpf
          have HPF := Lib.hid hpf
          have hrg := Below.refl wr.heap.size wr
          clear hpf hy hFa hFd hRa hRd
          go_wp2_with fail
          go_still_tail 9, (by kernel_rfl)
          repeat still_step
          repeat still_step
          try refine wpStill_nil ?_
          change wpList _ _ _ _ _ wr.drew
          have g1 := below_drew hrg
          obtain ⟨W, hW⟩ : ∃ W, wr.drew = W := ⟨_, rfl⟩
          rw [hW] at g1 ⊢
          have HW := Lib.hid hW
          clear hrg hca hcd hW
          go_wp2_with fail
          refine (HPF.out _).mono ?_
          rintro e w5 ⟨rfl, hb⟩
          have g5 := below_then g1 (Nat.le_refl _) hb
          have r5 := below_then rb (Nat.le_refl _) g5
          have P5 := rP.below g5
          have O5 := rO.below g5
          have rg5 : g < w5.heap.size := Nat.lt_of_lt_of_le rg g5.size
          clear g1 hb g5 rb rP rO rg HW HPF
          cases y with
          | false =>
            go_wp2
            go_roundw
            case rel => exact ⟨j + 1, q, f, by omega, by omega, by go_num, by omega, P5, rN, rg5, O5, r5⟩
            case measure => simp [intOf]; omega
          | true =>
            have hca := (O5.at k hlt).1
            have hcd := (O5.at j hlj).1
            obtain ⟨A, hA⟩ : ∃ A, F k = A := ⟨_, rfl⟩
            obtain ⟨D, hD⟩ : ∃ D, F j = D := ⟨_, rfl⟩
            rw [hA] at hca
            rw [hD] at hcd
            have KC : Hid (∀ wx, OF wx B (.slice (some ⟨g, 0, none⟩) n cap) n F → wx.cell? ⟨g, k, none⟩ = some (.int .i64 A) ∧ wx.cell? ⟨g, j, none⟩ = some (.int .i64 D)) := Lib.hid (fun wx h => ⟨hA ▸ (h.at k hlt).1, hD ▸ (h.at j hlj).1⟩)
            go_wp2_with fail
            have g1 := below_drew (Below.refl w5.heap.size w5)
            have r6 := below_then r5 (Nat.le_refl _) g1
            have P6 := P5.below g1
            have O6 := O5.below g1
            have rg6 : g < w5.drew.heap.size := Nat.lt_of_lt_of_le rg5 g1.size
            clear r5 P5 O5 rg5 g1 hA hD hca hcd
            refine wp_region_held_drew (S := (fun wx => wx.cell? ⟨g, k, none⟩ = some (.int .i64 A) ∧ wx.cell? ⟨g, j, none⟩ = some (.int .i64 D))) (by kernel_rfl) (KC.out _ O6) (fun hHeld => ?_)
            obtain ⟨W, hW⟩ : ∃ W, w5.drew = W := ⟨_, rfl⟩
            rw [hW] at r6 P6 O6 rg6 hHeld ⊢
            clear hW
            refine wpAnyH_take (i := 0) (oi := { dst := some 37, op := Go.Op.move (Go.Operand.tmp 3), type := 22, pos := "l3_families.go:58", after := #[], guard := none }) (v := ?v0) rfl (by kernel_rfl) (by kernel_rfl) (by kernel_rfl) (fun _ _ _ h => h) (Or.inl ⟨by rfl, ?hy0⟩) (by assumption) ?rest0
            case hy0 => (intro w hSw; (try dsimp only at hSw); obtain ⟨q0, q1⟩ := hSw; go_simp; try with_reducible rfl)
            try simp only [Act.put, List.setIfInBounds_toArray, List.set_cons_zero, List.set_cons_succ]
            refine wpAnyH_take (i := 1) (oi := { dst := some 38, op := Go.Op.move (Go.Operand.tmp 4), type := 31, pos := "l3_families.go:58", after := #[], guard := none }) (v := ?v1) rfl (by kernel_rfl) (by kernel_rfl) (by kernel_rfl) (fun _ _ _ h => h) (Or.inl ⟨by rfl, ?hy1⟩) (by assumption) ?rest1
            case hy1 => (intro w hSw; (try dsimp only at hSw); obtain ⟨q0, q1⟩ := hSw; go_simp; try with_reducible rfl)
            try simp only [Act.put, List.setIfInBounds_toArray, List.set_cons_zero, List.set_cons_succ]
            refine wpAnyH_take (i := 2) (oi := { dst := some 39, op := Go.Op.move (Go.Operand.tmp 5), type := 3, pos := "l3_families.go:58", after := #[], guard := none }) (v := ?v2) rfl (by kernel_rfl) (by kernel_rfl) (by kernel_rfl) (fun _ _ _ h => h) (Or.inl ⟨by rfl, ?hy2⟩) (by assumption) ?rest2
            case hy2 => (intro w hSw; (try dsimp only at hSw); obtain ⟨q0, q1⟩ := hSw; go_simp; try with_reducible rfl)
            try simp only [Act.put, List.setIfInBounds_toArray, List.set_cons_zero, List.set_cons_succ]
            refine wpAnyH_take (i := 3) (oi := { dst := some 40, op := Go.Op.indexAddr 31 (Go.Operand.tmp 38) (Go.Operand.tmp 39), type := 0, pos := "l3_families.go:58", after := #[{ on := 1, ground := Go.Ground.data }, { on := 2, ground := Go.Ground.data }], guard := none }) (v := ?v3) rfl (by kernel_rfl) (by kernel_rfl) (by kernel_rfl) (fun _ _ _ h => h) (Or.inl ⟨by rfl, ?hy3⟩) (by assumption) ?rest3
            case hy3 => (intro w hSw; (try dsimp only at hSw); obtain ⟨q0, q1⟩ := hSw; go_simp; try with_reducible rfl)
            try simp only [Act.put, List.setIfInBounds_toArray, List.set_cons_zero, List.set_cons_succ]
            refine wpAnyH_take (i := 4) (oi := { dst := some 41, op := Go.Op.load 3 (Go.Operand.tmp 40), type := 3, pos := "l3_families.go:58", after := #[{ on := 3, ground := Go.Ground.data }], guard := none }) (v := ?v4) rfl (by kernel_rfl) (by kernel_rfl) (by kernel_rfl) (fun _ _ _ h => h) (Or.inl ⟨by rfl, ?hy4⟩) (by assumption) ?rest4
            case hy4 => (intro w hSw; (try dsimp only at hSw); obtain ⟨q0, q1⟩ := hSw; go_simp; try with_reducible rfl)
            try simp only [Act.put, List.setIfInBounds_toArray, List.set_cons_zero, List.set_cons_succ]
            refine wpAnyH_take (i := 5) (oi := { dst := some 42, op := Go.Op.move (Go.Operand.tmp 4), type := 31, pos := "l3_families.go:58", after := #[], guard := none }) (v := ?v5) rfl (by kernel_rfl) (by kernel_rfl) (by kernel_rfl) (fun _ _ _ h => h) (Or.inl ⟨by rfl, ?hy5⟩) (by assumption) ?rest5
            case hy5 => (intro w hSw; (try dsimp only at hSw); obtain ⟨q0, q1⟩ := hSw; go_simp; try with_reducible rfl)
            try simp only [Act.put, List.setIfInBounds_toArray, List.set_cons_zero, List.set_cons_succ]
            refine wpAnyH_take (i := 6) (oi := { dst := some 43, op := Go.Op.move (Go.Operand.tmp 6), type := 3, pos := "l3_families.go:58", after := #[], guard := none }) (v := ?v6) rfl (by kernel_rfl) (by kernel_rfl) (by kernel_rfl) (fun _ _ _ h => h) (Or.inl ⟨by rfl, ?hy6⟩) (by assumption) ?rest6
            case hy6 => (intro w hSw; (try dsimp only at hSw); obtain ⟨q0, q1⟩ := hSw; go_simp; try with_reducible rfl)
            try simp only [Act.put, List.setIfInBounds_toArray, List.set_cons_zero, List.set_cons_succ]
            refine wpAnyH_take (i := 7) (oi := { dst := some 44, op := Go.Op.indexAddr 31 (Go.Operand.tmp 42) (Go.Operand.tmp 43), type := 0, pos := "l3_families.go:58", after := #[{ on := 5, ground := Go.Ground.data }, { on := 6, ground := Go.Ground.data }], guard := none }) (v := ?v7) rfl (by kernel_rfl) (by kernel_rfl) (by kernel_rfl) (fun _ _ _ h => h) (Or.inl ⟨by rfl, ?hy7⟩) (by assumption) ?rest7
            case hy7 => (intro w hSw; (try dsimp only at hSw); obtain ⟨q0, q1⟩ := hSw; go_simp; try with_reducible rfl)
            try simp only [Act.put, List.setIfInBounds_toArray, List.set_cons_zero, List.set_cons_succ]
            refine wpAnyH_take (i := 8) (oi := { dst := some 45, op := Go.Op.load 3 (Go.Operand.tmp 44), type := 3, pos := "l3_families.go:58", after := #[{ on := 7, ground := Go.Ground.data }], guard := none }) (v := ?v8) rfl (by kernel_rfl) (by kernel_rfl) (by kernel_rfl) (fun _ _ _ h => h) (Or.inl ⟨by rfl, ?hy8⟩) (by assumption) ?rest8
            case hy8 => (intro w hSw; (try dsimp only at hSw); obtain ⟨q0, q1⟩ := hSw; go_simp; try with_reducible rfl)
            try simp only [Act.put, List.setIfInBounds_toArray, List.set_cons_zero, List.set_cons_succ]
            refine wpAnyH_take (i := 9) (oi := { dst := some 46, op := Go.Op.build 30 #[(0, Go.Operand.tmp 41), (1, Go.Operand.tmp 45)], type := 30, pos := "l3_families.go:58", after := #[{ on := 4, ground := Go.Ground.data }, { on := 8, ground := Go.Ground.data }], guard := none }) (v := ?v9) rfl (by kernel_rfl) (by kernel_rfl) (by kernel_rfl) (fun _ _ _ h => h) (Or.inl ⟨by rfl, ?hy9⟩) (by assumption) ?rest9
            case hy9 => (intro w hSw; (try dsimp only at hSw); obtain ⟨q0, q1⟩ := hSw; go_simp; try with_reducible rfl)
            try simp only [Act.put, List.setIfInBounds_toArray, List.set_cons_zero, List.set_cons_succ]
            refine wpAnyH_ready (rs := [10]) (by kernel_rfl) (by simp) ?_
            refine AllReadyH.cons (o := { dst := some 47, op := Go.Op.buildSlice 22 1 #[(0, Go.Operand.tmp 46)], type := 22, pos := "l3_families.go:58", after := #[{ on := 9, ground := Go.Ground.data }], guard := none }) rfl (fun K hK => ?_) AllReadyH.nil
            go_simp
            have OL := O6.alloc (.cells #[.int .i64 A, .int .i64 D] 30)
            refine hK.out _ _ (KC.out _ OL) (fun hHeld => ?_)
            clear hK K
            try simp only [Act.put, List.setIfInBounds_toArray, List.set_cons_zero, List.set_cons_succ]
            refine wpAnyH_ready (rs := [11]) (by kernel_rfl) (by simp) ?_
            refine AllReadyH.cons (o := { dst := some 48, op := Go.Op.call { callee := Go.Callee.builtin Go.Builtin.append, args := #[Go.Operand.tmp 37, Go.Operand.tmp 47], argTypes := #[22, 22] }, type := 22, pos := "l3_families.go:58", after := #[{ on := 0, ground := Go.Ground.data }, { on := 10, ground := Go.Ground.data }], guard := none }) rfl (fun K hK => ?_) AllReadyH.nil
            refine step_append_pair rfl (.tmp 37) (.tmp 47) rfl w.heap.size _ q f rfl (P6.alloc _) W.heap.size 1 A D rfl (by simp) (by simp) (by omega) (by have := r6.size; simp; omega) ?_
            intro v' w7 P7 g7 h7
            have r7 : Below w.heap.size w w7 := (r6.alloc r6.size _).grown g7 (by have := r6.size; simp; omega) (fun c hc => (P6.lt c hc).1)
            have O7 : OF w7 B (.slice (some ⟨g, 0, none⟩) n cap) n F := (O6.alloc _).kept g7 (.inr (by intro e; exact rN e.symm))
            have rg7 : g < w7.heap.size := by have := g7.size; simp at this; omega
            have rN7 : v'.ownBlock ≠ some g := by
              rcases h7 with h | h
              · rw [h]; exact rN
              · rw [h]; simp; omega
            refine hK.out _ _ (KC.out _ O7) (fun hHeld => ?_)
            clear hK K OL
            try simp only [Act.put, List.setIfInBounds_toArray, List.set_cons_zero, List.set_cons_succ]
            refine wpAnyH_take (i := 12) (oi := { dst := some 3, op := Go.Op.assign (Go.Operand.tmp 48), type := 22, pos := "l3_families.go:58", after := #[{ on := 11, ground := Go.Ground.data }, { on := 11, ground := Go.Ground.chain }, { on := 0, ground := Go.Ground.phase }, { on := 1, ground := Go.Ground.phase }, { on := 2, ground := Go.Ground.phase }, { on := 3, ground := Go.Ground.phase }, { on := 4, ground := Go.Ground.phase }, { on := 5, ground := Go.Ground.phase }, { on := 6, ground := Go.Ground.phase }, { on := 7, ground := Go.Ground.phase }, { on := 8, ground := Go.Ground.phase }, { on := 9, ground := Go.Ground.phase }, { on := 10, ground := Go.Ground.phase }, { on := 11, ground := Go.Ground.phase }], guard := none }) (v := ?v12) rfl (by kernel_rfl) (by kernel_rfl) (by kernel_rfl) (fun _ _ _ h => h) (Or.inl ⟨by rfl, ?hy12⟩) (by assumption) ?rest12
            case hy12 => (intro w hSw; (try dsimp only at hSw); obtain ⟨q0, q1⟩ := hSw; go_simp; try with_reducible rfl)
            try simp only [Act.put, List.setIfInBounds_toArray, List.set_cons_zero, List.set_cons_succ]
            refine wpAnyH_done (by kernel_rfl) ?_ _
            clear r6 P6 O6 g7 h7 rN rg6
            go_wp2
            go_roundw
            case rel => exact ⟨j + 1, q + 1, _, by omega, by omega, by go_num, by omega, P7, rN7, rg7, O7, r7⟩
            case measure => simp [intOf]; omega
        · obtain rfl : j = n := by omega
          go_wp2
          go_roundw
          case rel => exact ⟨k + 1, q, f, by omega, by go_num, by omega, rP, rN, rg, rO, rb⟩
          case measure => simp [intOf]; omega
    · obtain rfl : k = n := by omega
      go_wp2
      go_ret
      exact ⟨_, p, f, rfl, rP, by omega, rb⟩
end Go.Proofs.Ytmlmpekhcnjehaa
