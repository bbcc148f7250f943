/- Slices of pairs of taps of the call's own; PreferredPairs of the model, as far as a draw asks. The draws of a size and two taps, and of GoldCode. The pairs of a list that a test picks, row by row; the laws' helpers on slices of pairs. PreferredPairs of both sides: one list of pairs. Plain mathematics: maximal sequences of one size are shifts of decimations of each other; that of reversed taps is a shift of the reversed one (sizes 2 to 6, by the kernel). The draw of MaximalSequence; what FnMaximalFamily asks. The walk of the law FnMaximalFamily. -/
import Derived.Test.YtmlmpekhcnjehaaFamPref
import Derived.Test.YtmlmpekhcnjehaaDraw5
import Derived.Test.YtmlmpekhcnjehaaMaxUse
import Derived.Test.YtmlmpekhcnjehaaRevMath
import Derived.Test.YtmlmpekhcnjehaaSeqFind
import Derived.Test.YtmlmpekhcnjehaaSeqFun3
import Derived.Test.YtmlmpekhcnjehaaGoldS
import Derived.Test.YtmlmpekhcnjehaaMrgR
import Derived.Test.YtmlmpekhcnjehaaMrgQ
import Derived.Maps.AppendAt
import Derived.StillTailTactics
import Derived.Deep.RegionHeld3
import Derived.BigQuiet
namespace Go.Proofs.Ytmlmpekhcnjehaa
open Go.RowKit
set_option linter.unusedVariables false
set_option maxRecDepth 100000
def prL (n : Nat) (f : Nat → Int × Int) : List Value := (List.range (n * 2)).map fun t => Value.int .i64 (if t % 2 = 0 then (f (t / 2)).1 else (f (t / 2)).2)
theorem prL_len (n : Nat) (f : Nat → Int × Int) : (prL n f).length = n * 2 := by simp [prL]
theorem prL_at {n t : Nat} {f : Nat → Int × Int} (h : t < n * 2) : (prL n f)[t]? = some (.int .i64 (if t % 2 = 0 then (f (t / 2)).1 else (f (t / 2)).2)) := by
  unfold prL
  rw [List.getElem?_map, List.getElem?_range h]; rfl
theorem prL_snoc (n : Nat) (f : Nat → Int × Int) (A B : Int) : prL n f ++ [.int .i64 A, .int .i64 B] = prL (n + 1) (fun i => if i < n then f i else (A, B)) := by
  apply List.ext_getElem?
  intro t
  by_cases ht : t < n * 2
  · rw [List.getElem?_append_left (by rw [prL_len]; exact ht), prL_at ht, prL_at (by omega)]
    simp only [if_pos (show t / 2 < n by omega)]
  · rw [List.getElem?_append_right (by rw [prL_len]; omega), prL_len]
    by_cases h4 : t < (n + 1) * 2
    · rw [prL_at h4]
      simp only [if_neg (show ¬ t / 2 < n by omega)]
      have : t = n * 2 ∨ t = n * 2 + 1 := by omega
      rcases this with rfl | rfl
      · rw [if_pos (by omega), Nat.sub_self]; rfl
      · rw [if_neg (by omega), show n * 2 + 1 - n * 2 = 1 by omega]; rfl
    · rw [List.getElem?_eq_none (by simp; omega), List.getElem?_eq_none (by rw [prL_len]; omega)]
/-- A slice of n pairs of the call's own. -/
def PF (w : World) (B : Nat) (v : Value) (n : Nat) (f : Nat → Int × Int) : Prop := w.ownsRow B 30 2 v n (prL n f)
theorem PF.kept {w w' : World} {B : Nat} {v : Value} {n : Nat} {f : Nat → Int × Int} {row : Option Nat} (h : PF w B v n f) (hg : w.grownBy w' row) (hne : v.ownBlock = none ∨ v.ownBlock ≠ row) : PF w' B v n f := World.ownsRow.kept h hg hne
theorem PF.lt {w : World} {B : Nat} {v : Value} {n : Nat} {f : Nat → Int × Int} (h : PF w B v n f) : ∀ k, v.ownBlock = some k → B ≤ k ∧ k < w.heap.size := World.ownsRow.lt h
theorem PF.below {w w' : World} {B : Nat} {v : Value} {n : Nat} {f : Nat → Int × Int} (h : PF w B v n f) (hb : Below w.heap.size w w') : PF w' B v n f :=
  h.kept (grown_of_below hb) (by cases v.ownBlock <;> simp)
theorem PF.alloc {w : World} {B : Nat} {v : Value} {n : Nat} {f : Nat → Int × Int} (h : PF w B v n f) (o : Obj) : PF (w.alloc o) B v n f := World.ownsRow.alloc h o
theorem PF.empty (w : World) (f : Nat → Int × Int) : PF (w.alloc (.cells #[] 30)) w.heap.size (.slice (some ⟨w.heap.size, 0, none⟩) 0 0) 0 f := by
  refine ⟨by simp [prL], .inr ⟨w.heap.size, 0, #[], rfl, Nat.le_refl _, ?_, Nat.le_refl _, by unfold maxLen; omega, rfl, rfl⟩⟩
  show (w.heap.push _)[w.heap.size]? = _
  simp
theorem PF.form {w : World} {B : Nat} {v : Value} {n : Nat} {f : Nat → Int × Int} (h : PF w B v n f) : ∃ a cap, v = .slice a n cap ∧ (0 < n → ∃ g, a = some ⟨g, 0, none⟩ ∧ B ≤ g ∧ g < w.heap.size) := by
  obtain ⟨h1, ⟨rfl, rfl⟩ | ⟨g, cap, cur, rfl, hB, hg, hn, hm, hs, ht⟩⟩ := h
  · exact ⟨none, 0, rfl, fun h => absurd h (Nat.lt_irrefl 0)⟩
  · exact ⟨_, cap, rfl, fun _ => ⟨g, rfl, hB, (Array.getElem?_eq_some_iff.1 hg).1⟩⟩
theorem PF.cells {w : World} {B g n cap : Nat} {f : Nat → Int × Int} (h : PF w B (.slice (some ⟨g, 0, none⟩) n cap) n f) (i : Nat) (hi : i < n) :
    w.cell? ⟨g, i * 2, none⟩ = some (.int .i64 (f i).1) ∧ w.cell? ⟨g, i * 2 + 1, none⟩ = some (.int .i64 (f i).2) := by
  have c := fun (j : Nat) (hj : j < 2) => (World.ownsRow.cellAt h (i * 2 + j) (by omega)).trans (prL_at (by omega))
  have c0 := c 0 (by omega)
  have c1 := c 1 (by omega)
  rw [if_pos (by omega), Nat.add_zero, show i * 2 / 2 = i by omega] at c0
  rw [if_neg (by omega), show (i * 2 + 1) / 2 = i by omega] at c1
  exact ⟨c0, c1⟩
theorem pair_info : (Try.prog.info? 30).map (fun i => (i.zero, i.size, i.bytes)) = some (some (.agg #[.int .i64 0, .int .i64 0]), 2, 16) := by kernel_rfl
theorem wpList_append_pair {w : World} {ops : Array Oper} {rest : List Oper} {o : Oper} {a : Act} {Q : Exit → Act → World → Prop} (hgd : o.guard = none) (s x : Operand)
    (ho : o.op = .call { callee := .builtin .append, args := #[s, x], argTypes := #[22, 22] }) (B : Nat) (v : Value) (n : Nat) (f : Nat → Int × Int) (hs : a.eval s = v) (hown : PF w B v n f)
    (ad c : Nat) (A D : Int) (hx : a.eval x = .slice (some ⟨ad, 0, none⟩) 1 c) (hc : w.cell? ⟨ad, 0, none⟩ = some (.int .i64 A)) (hd : w.cell? ⟨ad, 1, none⟩ = some (.int .i64 D)) (hn : n ≤ 1048576) (hB : B ≤ w.heap.size)
    (h : ∀ v' w', PF w' B v' (n + 1) (fun i => if i < n then f i else (A, D)) → w.grownBy w' v.ownBlock → (v'.ownBlock = v.ownBlock ∨ v'.ownBlock = some w.heap.size) → wpList Try.prog ops Q rest (a.put o.dst v') w') : wpList Try.prog ops Q (o :: rest) a w := by
  obtain ⟨i0, hi, hzz⟩ := Option.map_eq_some_iff.1 pair_info
  simp only [Prod.mk.injEq] at hzz
  obtain ⟨hz, hsz, hby⟩ := hzz
  refine wpList_append_own_at w hgd s x 22 ho B 30 i0 (.agg #[.int .i64 0, .int .i64 0]) 2 16 (by kernel_rfl) hi hz hsz hby rfl (by decide) v n _ hs hown ⟨ad, 0, none⟩ 1 c [.int .i64 A, .int .i64 D] hx rfl ?_ ?_ ?_ ?_ hB ?_
  · intro j u hj
    match j with
    | 0 => simp at hj; subst hj; exact hc
    | 1 => simp at hj; subst hj; exact hd
    | j + 2 => simp at hj
  · intro u hu
    simp at hu
    rcases hu with rfl | rfl <;> rfl
  · unfold maxLen; omega
  · omega
  · intro v' w' h1 h2 _ h3
    refine h v' w' ?_ h2 h3
    unfold PF
    rw [← prL_snoc]; exact h1
theorem step_append_pair {w : World} {ops : Array Oper} {o : Oper} {a : Act} {K : Act → World → Prop} {Q : Exit → Act → World → Prop} {E : Prop} (hgd : o.guard = none) (s x : Operand)
    (ho : o.op = .call { callee := .builtin .append, args := #[s, x], argTypes := #[22, 22] }) (B : Nat) (v : Value) (n : Nat) (f : Nat → Int × Int) (hs : a.eval s = v) (hown : PF w B v n f)
    (ad c : Nat) (A D : Int) (hx : a.eval x = .slice (some ⟨ad, 0, none⟩) 1 c) (hc : w.cell? ⟨ad, 0, none⟩ = some (.int .i64 A)) (hd : w.cell? ⟨ad, 1, none⟩ = some (.int .i64 D)) (hn : n ≤ 1048576) (hB : B ≤ w.heap.size)
    (h : ∀ v' w', PF w' B v' (n + 1) (fun i => if i < n then f i else (A, D)) → w.grownBy w' v.ownBlock → (v'.ownBlock = v.ownBlock ∨ v'.ownBlock = some w.heap.size) → K (a.put o.dst v') w') :
    if Region.wanted o (yielded ops a.tmps) = true then Oper.wp Try.prog o a w K Q else E := by
  have hw : Region.wanted o (yielded ops a.tmps) = true := by simp [Region.wanted, hgd]
  rw [if_pos hw]
  obtain ⟨i0, hi, hzz⟩ := Option.map_eq_some_iff.1 pair_info
  simp only [Prod.mk.injEq] at hzz
  obtain ⟨hz, hsz, hby⟩ := hzz
  obtain ⟨v', w', hr, h1, h2, -, h3⟩ := run_append_own_at (P := Try.prog) w B 22 o.type 30 i0 (.agg #[.int .i64 0, .int .i64 0]) 2 16 (by kernel_rfl) hi hz hsz hby rfl (by decide) v n _ hown ⟨ad, 0, none⟩ 1 c [.int .i64 A, .int .i64 D] rfl (by
    intro j u hj
    match j with
    | 0 => simp at hj; subst hj; exact hc
    | 1 => simp at hj; subst hj; exact hd
    | j + 2 => simp at hj) (by
    intro u hu
    simp at hu
    rcases hu with rfl | rfl <;> rfl) (by unfold maxLen; omega) (by omega) hB
  unfold Oper.wp execOp
  simp only [ho, resolve, invoke, builtin, Sem.run_bind, Sem.run_pure, Result.andThen_ok, List.map_toArray, List.map_cons, List.map_nil, hs, hx, hr]
  refine h v' w' ?_ h2 h3
  unfold PF
  rw [← prL_snoc]; exact h1
set_option maxHeartbeats 3200000 in
theorem somePairs (s : Nat) (w : World) (h2 : 2 ≤ s) (h5 : s ≤ 5) :
    Calls Try.prog 6 #[.int .i64 s] w fun e w' => ∃ v n f, e = .returned v ∧ PF w' w.heap.size v n f ∧ n ≤ 90000 ∧ Below w.heap.size w w' := by
  have P0 := PF.empty w (fun _ => (0, 0))
  have b0 := (Below.refl w.heap.size w).alloc (Nat.le_refl _) (.cells #[] 30)
  have s6 : ¬ ((6 : Int) < (s : Int)) := by omega
  have HT := Lib.hid (fun w => mTaps_any s w h2 h5)
  have h2' := Lib.hid h2
  have h5' := Lib.hid h5
  clear h2 h5
  go_enter Try.func6, Try.ntmps6
  go_wp2_with fail
  refine (HT.out _).mono ?_
  rintro e w1 ⟨lv, n, F, rfl, O1, n1, n3, hF, hb⟩
  have P1 := P0.below hb
  have b1 := below_then b0 (Nat.le_refl _) hb
  obtain ⟨la, cap, rfl, hla⟩ := O1.form
  obtain ⟨g, rfl, hgB, hgl, -⟩ := hla (by omega)
  have hgw : w.heap.size < g := by simp at hgB; omega
  have OO : ∃ B, OF w1 B (.slice (some ⟨g, 0, none⟩) n cap) n F := ⟨_, O1⟩
  obtain ⟨B, OB⟩ := OO
  have HF := Lib.hid hF
  clear HT P0 b0 hb hla O1 hgB hF
  go_wp2
  go_loopw [3, 5] (fun o i wr => ∃ (k p : Nat) (f : Nat → Int × Int), k ≤ n ∧ i = .int .i64 k ∧ p ≤ k * 300 ∧ PF wr w.heap.size o p f ∧ o.ownBlock ≠ some g ∧ g < wr.heap.size ∧ OF wr B (.slice (some ⟨g, 0, none⟩) n cap) n F ∧ Below w.heap.size w wr) (fun _ i _ => n - (intOf i).toNat)
  case atStart => exact ⟨0, 0, _, Nat.zero_le _, rfl, Nat.zero_le _, P1, by simp [Value.ownBlock]; omega, hgl, OB, b1⟩
  case round =>
    clear P1 b1 OB hgl
    obtain ⟨k, p, f, hk, rfl, hp, rP, rN, rg, rO, rb⟩ := hrel
    by_cases hlt : k < n
    · obtain ⟨a, hFa, hRa⟩ := HF.out k hlt
      have i0 : (0 : Int) ≤ (k : Int) := by omega
      have i1 : (k : Int) < (n : Int) := by omega
      go_wp2
      go_loopw [3, 6] (fun o i wr => ∃ (j q : Nat) (f : Nat → Int × Int), k + 1 ≤ j ∧ j ≤ n ∧ i = .int .i64 j ∧ q ≤ k * 300 + j ∧ PF wr w.heap.size o q f ∧ o.ownBlock ≠ some g ∧ g < wr.heap.size ∧ OF wr B (.slice (some ⟨g, 0, none⟩) n cap) n F ∧ Below w.heap.size w wr) (fun _ i _ => n - (intOf i).toNat)
      case atStart => exact ⟨k + 1, p, f, by omega, by omega, by go_num, by omega, rP, rN, rg, rO, rb⟩
      case round =>
        clear rP rN rg rO rb
        obtain ⟨j, q, f, hkj, hj, rfl, hq, rP, rN, rg, rO, rb⟩ := hrel

        by_cases hlj : j < n
        · obtain ⟨d, hFd, hRd⟩ := HF.out j hlj
          have hca := (rO.at k hlt).1
          have hcd := (rO.at j hlj).1
          rw [hFa] at hca
          rw [hFd] at hcd
          have j0 : (0 : Int) ≤ (j : Int) := by omega
          have j1 : (j : Int) < (n : Int) := by omega
          have hpf := fun w => l3Pref_any s a d w ((tapsB_iff _ _).2 ⟨by have := hRa.lo; omega, by have := hRa.hi; omega, by have := hRa.tap; omega, by rw [Int.toNat_natCast]; have := hRa.tapLt; omega⟩) ((tapsB_iff _ _).2 ⟨by have := hRa.lo; omega, by have := hRa.hi; omega, by have := hRd.tap; omega, by rw [Int.toNat_natCast]; have := hRd.tapLt; omega⟩)
          obtain ⟨y, hy⟩ : ∃ y, prefT s a d = y := ⟨_, rfl⟩
          rw [hy] at hpf
          have HPF := Lib.hid hpf
          have hrg := Below.refl wr.heap.size wr
          clear hpf hy hFa hFd hRa hRd
          go_wp2_with fail
          go_still_tail 9, (by kernel_rfl)
          repeat still_step
          repeat still_step
          try refine wpStill_nil ?_
          change wpList _ _ _ _ _ wr.drew
          have g1 := below_drew hrg
          obtain ⟨W, hW⟩ : ∃ W, wr.drew = W := ⟨_, rfl⟩
          rw [hW] at g1 ⊢
          have HW := Lib.hid hW
          clear hrg hca hcd hW
          go_wp2_with fail
          refine (HPF.out _).mono ?_
          rintro e w5 ⟨rfl, hb⟩
          have g5 := below_then g1 (Nat.le_refl _) hb
          have r5 := below_then rb (Nat.le_refl _) g5
          have P5 := rP.below g5
          have O5 := rO.below g5
          have rg5 : g < w5.heap.size := Nat.lt_of_lt_of_le rg g5.size
          clear g1 hb g5 rb rP rO rg HW HPF
          cases y with
          | false =>
            go_wp2
            go_roundw
            case rel => exact ⟨j + 1, q, f, by omega, by omega, by go_num, by omega, P5, rN, rg5, O5, r5⟩
            case measure => simp [intOf]; omega
          | true =>
            have hca := (O5.at k hlt).1
            have hcd := (O5.at j hlj).1
            obtain ⟨A, hA⟩ : ∃ A, F k = A := ⟨_, rfl⟩
            obtain ⟨D, hD⟩ : ∃ D, F j = D := ⟨_, rfl⟩
            rw [hA] at hca
            rw [hD] at hcd
            have KC : Hid (∀ wx, OF wx B (.slice (some ⟨g, 0, none⟩) n cap) n F → wx.cell? ⟨g, k, none⟩ = some (.int .i64 A) ∧ wx.cell? ⟨g, j, none⟩ = some (.int .i64 D)) := Lib.hid (fun wx h => ⟨hA ▸ (h.at k hlt).1, hD ▸ (h.at j hlj).1⟩)
            go_wp2_with fail
            have g1 := below_drew (Below.refl w5.heap.size w5)
            have r6 := below_then r5 (Nat.le_refl _) g1
            have P6 := P5.below g1
            have O6 := O5.below g1
            have rg6 : g < w5.drew.heap.size := Nat.lt_of_lt_of_le rg5 g1.size
            clear r5 P5 O5 rg5 g1 hA hD hca hcd
            refine wp_region_held_drew (S := (fun wx => wx.cell? ⟨g, k, none⟩ = some (.int .i64 A) ∧ wx.cell? ⟨g, j, none⟩ = some (.int .i64 D))) (by kernel_rfl) (KC.out _ O6) (fun hHeld => ?_)
            obtain ⟨W, hW⟩ : ∃ W, w5.drew = W := ⟨_, rfl⟩
            rw [hW] at r6 P6 O6 rg6 hHeld ⊢
            clear hW
            refine wpAnyH_take (i := 0) (oi := { dst := some 37, op := Go.Op.move (Go.Operand.tmp 3), type := 22, pos := "l3_families.go:58", after := #[], guard := none }) (v := ?v0) rfl (by kernel_rfl) (by kernel_rfl) (by kernel_rfl) (fun _ _ _ h => h) (Or.inl ⟨by rfl, ?hy0⟩) (by assumption) ?rest0
            case hy0 => (intro w hSw; (try dsimp only at hSw); obtain ⟨q0, q1⟩ := hSw; go_simp; try with_reducible rfl)
            try simp only [Act.put, List.setIfInBounds_toArray, List.set_cons_zero, List.set_cons_succ]
            refine wpAnyH_take (i := 1) (oi := { dst := some 38, op := Go.Op.move (Go.Operand.tmp 4), type := 31, pos := "l3_families.go:58", after := #[], guard := none }) (v := ?v1) rfl (by kernel_rfl) (by kernel_rfl) (by kernel_rfl) (fun _ _ _ h => h) (Or.inl ⟨by rfl, ?hy1⟩) (by assumption) ?rest1
            case hy1 => (intro w hSw; (try dsimp only at hSw); obtain ⟨q0, q1⟩ := hSw; go_simp; try with_reducible rfl)
            try simp only [Act.put, List.setIfInBounds_toArray, List.set_cons_zero, List.set_cons_succ]
            refine wpAnyH_take (i := 2) (oi := { dst := some 39, op := Go.Op.move (Go.Operand.tmp 5), type := 3, pos := "l3_families.go:58", after := #[], guard := none }) (v := ?v2) rfl (by kernel_rfl) (by kernel_rfl) (by kernel_rfl) (fun _ _ _ h => h) (Or.inl ⟨by rfl, ?hy2⟩) (by assumption) ?rest2
            case hy2 => (intro w hSw; (try dsimp only at hSw); obtain ⟨q0, q1⟩ := hSw; go_simp; try with_reducible rfl)
            try simp only [Act.put, List.setIfInBounds_toArray, List.set_cons_zero, List.set_cons_succ]
            refine wpAnyH_take (i := 3) (oi := { dst := some 40, op := Go.Op.indexAddr 31 (Go.Operand.tmp 38) (Go.Operand.tmp 39), type := 0, pos := "l3_families.go:58", after := #[{ on := 1, ground := Go.Ground.data }, { on := 2, ground := Go.Ground.data }], guard := none }) (v := ?v3) rfl (by kernel_rfl) (by kernel_rfl) (by kernel_rfl) (fun _ _ _ h => h) (Or.inl ⟨by rfl, ?hy3⟩) (by assumption) ?rest3
            case hy3 => (intro w hSw; (try dsimp only at hSw); obtain ⟨q0, q1⟩ := hSw; go_simp; try with_reducible rfl)
            try simp only [Act.put, List.setIfInBounds_toArray, List.set_cons_zero, List.set_cons_succ]
            refine wpAnyH_take (i := 4) (oi := { dst := some 41, op := Go.Op.load 3 (Go.Operand.tmp 40), type := 3, pos := "l3_families.go:58", after := #[{ on := 3, ground := Go.Ground.data }], guard := none }) (v := ?v4) rfl (by kernel_rfl) (by kernel_rfl) (by kernel_rfl) (fun _ _ _ h => h) (Or.inl ⟨by rfl, ?hy4⟩) (by assumption) ?rest4
            case hy4 => (intro w hSw; (try dsimp only at hSw); obtain ⟨q0, q1⟩ := hSw; go_simp; try with_reducible rfl)
            try simp only [Act.put, List.setIfInBounds_toArray, List.set_cons_zero, List.set_cons_succ]
            refine wpAnyH_take (i := 5) (oi := { dst := some 42, op := Go.Op.move (Go.Operand.tmp 4), type := 31, pos := "l3_families.go:58", after := #[], guard := none }) (v := ?v5) rfl (by kernel_rfl) (by kernel_rfl) (by kernel_rfl) (fun _ _ _ h => h) (Or.inl ⟨by rfl, ?hy5⟩) (by assumption) ?rest5
            case hy5 => (intro w hSw; (try dsimp only at hSw); obtain ⟨q0, q1⟩ := hSw; go_simp; try with_reducible rfl)
            try simp only [Act.put, List.setIfInBounds_toArray, List.set_cons_zero, List.set_cons_succ]
            refine wpAnyH_take (i := 6) (oi := { dst := some 43, op := Go.Op.move (Go.Operand.tmp 6), type := 3, pos := "l3_families.go:58", after := #[], guard := none }) (v := ?v6) rfl (by kernel_rfl) (by kernel_rfl) (by kernel_rfl) (fun _ _ _ h => h) (Or.inl ⟨by rfl, ?hy6⟩) (by assumption) ?rest6
            case hy6 => (intro w hSw; (try dsimp only at hSw); obtain ⟨q0, q1⟩ := hSw; go_simp; try with_reducible rfl)
            try simp only [Act.put, List.setIfInBounds_toArray, List.set_cons_zero, List.set_cons_succ]
            refine wpAnyH_take (i := 7) (oi := { dst := some 44, op := Go.Op.indexAddr 31 (Go.Operand.tmp 42) (Go.Operand.tmp 43), type := 0, pos := "l3_families.go:58", after := #[{ on := 5, ground := Go.Ground.data }, { on := 6, ground := Go.Ground.data }], guard := none }) (v := ?v7) rfl (by kernel_rfl) (by kernel_rfl) (by kernel_rfl) (fun _ _ _ h => h) (Or.inl ⟨by rfl, ?hy7⟩) (by assumption) ?rest7
            case hy7 => (intro w hSw; (try dsimp only at hSw); obtain ⟨q0, q1⟩ := hSw; go_simp; try with_reducible rfl)
            try simp only [Act.put, List.setIfInBounds_toArray, List.set_cons_zero, List.set_cons_succ]
            refine wpAnyH_take (i := 8) (oi := { dst := some 45, op := Go.Op.load 3 (Go.Operand.tmp 44), type := 3, pos := "l3_families.go:58", after := #[{ on := 7, ground := Go.Ground.data }], guard := none }) (v := ?v8) rfl (by kernel_rfl) (by kernel_rfl) (by kernel_rfl) (fun _ _ _ h => h) (Or.inl ⟨by rfl, ?hy8⟩) (by assumption) ?rest8
            case hy8 => (intro w hSw; (try dsimp only at hSw); obtain ⟨q0, q1⟩ := hSw; go_simp; try with_reducible rfl)
            try simp only [Act.put, List.setIfInBounds_toArray, List.set_cons_zero, List.set_cons_succ]
            refine wpAnyH_take (i := 9) (oi := { dst := some 46, op := Go.Op.build 30 #[(0, Go.Operand.tmp 41), (1, Go.Operand.tmp 45)], type := 30, pos := "l3_families.go:58", after := #[{ on := 4, ground := Go.Ground.data }, { on := 8, ground := Go.Ground.data }], guard := none }) (v := ?v9) rfl (by kernel_rfl) (by kernel_rfl) (by kernel_rfl) (fun _ _ _ h => h) (Or.inl ⟨by rfl, ?hy9⟩) (by assumption) ?rest9
            case hy9 => (intro w hSw; (try dsimp only at hSw); obtain ⟨q0, q1⟩ := hSw; go_simp; try with_reducible rfl)
            try simp only [Act.put, List.setIfInBounds_toArray, List.set_cons_zero, List.set_cons_succ]
            refine wpAnyH_ready (rs := [10]) (by kernel_rfl) (by simp) ?_
            refine AllReadyH.cons (o := { dst := some 47, op := Go.Op.buildSlice 22 1 #[(0, Go.Operand.tmp 46)], type := 22, pos := "l3_families.go:58", after := #[{ on := 9, ground := Go.Ground.data }], guard := none }) rfl (fun K hK => ?_) AllReadyH.nil
            go_simp
            have OL := O6.alloc (.cells #[.int .i64 A, .int .i64 D] 30)
            refine hK.out _ _ (KC.out _ OL) (fun hHeld => ?_)
            clear hK K
            try simp only [Act.put, List.setIfInBounds_toArray, List.set_cons_zero, List.set_cons_succ]
            refine wpAnyH_ready (rs := [11]) (by kernel_rfl) (by simp) ?_
            refine AllReadyH.cons (o := { dst := some 48, op := Go.Op.call { callee := Go.Callee.builtin Go.Builtin.append, args := #[Go.Operand.tmp 37, Go.Operand.tmp 47], argTypes := #[22, 22] }, type := 22, pos := "l3_families.go:58", after := #[{ on := 0, ground := Go.Ground.data }, { on := 10, ground := Go.Ground.data }], guard := none }) rfl (fun K hK => ?_) AllReadyH.nil
            refine step_append_pair rfl (.tmp 37) (.tmp 47) rfl w.heap.size _ q f rfl (P6.alloc _) W.heap.size 1 A D rfl (by simp) (by simp) (by omega) (by have := r6.size; simp; omega) ?_
            intro v' w7 P7 g7 h7
            have r7 : Below w.heap.size w w7 := (r6.alloc r6.size _).grown g7 (by have := r6.size; simp; omega) (fun c hc => (P6.lt c hc).1)
            have O7 : OF w7 B (.slice (some ⟨g, 0, none⟩) n cap) n F := (O6.alloc _).kept g7 (.inr (by intro e; exact rN e.symm))
            have rg7 : g < w7.heap.size := by have := g7.size; simp at this; omega
            have rN7 : v'.ownBlock ≠ some g := by
              rcases h7 with h | h
              · rw [h]; exact rN
              · rw [h]; simp; omega
            refine hK.out _ _ (KC.out _ O7) (fun hHeld => ?_)
            clear hK K OL
            try simp only [Act.put, List.setIfInBounds_toArray, List.set_cons_zero, List.set_cons_succ]
            refine wpAnyH_take (i := 12) (oi := { dst := some 3, op := Go.Op.assign (Go.Operand.tmp 48), type := 22, pos := "l3_families.go:58", after := #[{ on := 11, ground := Go.Ground.data }, { on := 11, ground := Go.Ground.chain }, { on := 0, ground := Go.Ground.phase }, { on := 1, ground := Go.Ground.phase }, { on := 2, ground := Go.Ground.phase }, { on := 3, ground := Go.Ground.phase }, { on := 4, ground := Go.Ground.phase }, { on := 5, ground := Go.Ground.phase }, { on := 6, ground := Go.Ground.phase }, { on := 7, ground := Go.Ground.phase }, { on := 8, ground := Go.Ground.phase }, { on := 9, ground := Go.Ground.phase }, { on := 10, ground := Go.Ground.phase }, { on := 11, ground := Go.Ground.phase }], guard := none }) (v := ?v12) rfl (by kernel_rfl) (by kernel_rfl) (by kernel_rfl) (fun _ _ _ h => h) (Or.inl ⟨by rfl, ?hy12⟩) (by assumption) ?rest12
            case hy12 => (intro w hSw; (try dsimp only at hSw); obtain ⟨q0, q1⟩ := hSw; go_simp; try with_reducible rfl)
            try simp only [Act.put, List.setIfInBounds_toArray, List.set_cons_zero, List.set_cons_succ]
            refine wpAnyH_done (by kernel_rfl) ?_ _
            clear r6 P6 O6 g7 h7 rN rg6
            go_wp2
            go_roundw
            case rel => exact ⟨j + 1, q + 1, _, by omega, by omega, by go_num, by omega, P7, rN7, rg7, O7, r7⟩
            case measure => simp [intOf]; omega
        · obtain rfl : j = n := by omega
          go_wp2
          go_roundw
          case rel => exact ⟨k + 1, q, f, by omega, by go_num, by omega, rP, rN, rg, rO, rb⟩
          case measure => simp [intOf]; omega
    · obtain rfl : k = n := by omega
      go_wp2
      go_ret
      exact ⟨_, p, f, rfl, rP, by omega, rb⟩
end Go.Proofs.Ytmlmpekhcnjehaa
namespace Go.Proofs.Ytmlmpekhcnjehaa
open Go.RowKit
set_option linter.unusedVariables false
set_option maxRecDepth 100000
theorem PF.offp {w : World} {B b : Nat} {v : Value} {n : Nat} {f : Nat → Int × Int} (h : PF w B v n f) (hb : b < B) : v.ownBlock = none ∨ v.ownBlock ≠ some b := by
  cases hv : v.ownBlock with
  | none => exact .inl rfl
  | some q => right; intro e; cases e; have := (h.lt _ hv).1; omega
def L3Post (b p : Nat) (zs : List Int) (w : World) (e : Ending) (w' : World) : Prop :=
  ∃ (S A D : Int) (q : Nat), e = .returned (.tuple #[.int .i64 S, .int .i64 A, .int .i64 D]) ∧ q ≤ p + 10 ∧ RdAt w' b q zs ∧ w.grownBy w' (some b)
set_option maxHeartbeats 6400000 in
theorem l3Taps_any (b p : Nat) (zs : List Int) (w : World) (hr : RdAt w b p zs) (hp : p ≤ 900000) :
    Calls Try.prog 32 #[.pointer (some ⟨b, 0, none⟩)] w (L3Post b p zs w) := by
  have hbl := hr.1
  go_enter Try.func32, Try.ntmps32
  go_wp2_with fail
  refine (num_any b p zs _ w.heap.size 6 [3, 3, 4, 2, 3, 5] (hr.alloc _) (IntsAt.new w 3 [3, 3, 4, 2, 3, 5]) rfl hr.1 (by omega) (by omega) (by omega)).mono ?_
  rintro e w1 ⟨v, hv, rfl, hr1, hg1⟩
  obtain ⟨s, rfl, s2, s5⟩ : ∃ s : Nat, v = s ∧ 2 ≤ s ∧ s ≤ 5 := by
    simp only [List.mem_cons, List.not_mem_nil, or_false] at hv
    exact ⟨v.toNat, by omega, by omega, by omega⟩
  have g1 : w.grownBy w1 (some b) := (World.grownBy_alloc w _ (some b)).trans hg1
  have z1 := g1.size
  have HS := Lib.hid (And.intro s2 s5)
  clear hr hg1 hv s2 s5
  go_wp2_with fail
  refine (somePairs s _ HS.out.1 HS.out.2).mono ?_
  rintro e w2 ⟨pv, P, pf, rfl, P2, hP9, hb⟩
  have r2 := hr1.below hb
  have g2 := g1.trans (grow hb (some b))
  have z2 := hb.size
  obtain ⟨pa, pc, rfl, -⟩ := P2.form
  clear hr1 g1 hb
  go_wp2_with fail
  refine (mTaps_any s _ HS.out.1 HS.out.2).mono ?_
  rintro e w3 ⟨lv, n, F, rfl, O3, n1, n3, -, hb⟩
  have r3 := r2.below hb
  have g3 := g2.trans (grow hb (some b))
  have P3 := P2.below hb
  obtain ⟨la, lc, rfl, hla⟩ := O3.form
  obtain ⟨g, rfl, hgB, hgl, -⟩ := hla (by omega)
  have hbg : b < g := by omega
  have hbp : b < w1.heap.size := by omega
  obtain ⟨OB, hOB⟩ : ∃ B, w2.heap.size = B := ⟨_, rfl⟩
  obtain ⟨PB, hPB⟩ : ∃ B, w1.heap.size = B := ⟨_, rfl⟩
  rw [hOB] at O3
  rw [hPB] at P3 hbp
  clear r2 g2 hb P2 hla hgB hgl z1 z2 hOB hPB
  go_wp2_with fail
  refine (pick_any b (p + 1) n zs _ r3 (by omega) (by omega) (by omega)).mono ?_
  rintro e w4 ⟨k, hk, rfl, r4, hg4⟩
  have g4 := g3.trans hg4
  have O4 := O3.kept hg4 (.inr (by simp [Value.ownBlock]; omega))
  have P4 := P3.kept hg4 (P3.offp hbp)
  have c4 := (O4.at k hk).1
  obtain ⟨A, hA⟩ : ∃ A, F k = A := ⟨_, rfl⟩
  rw [hA] at c4
  have i0 : (0 : Int) ≤ (k : Int) := by omega
  have i1 : (k : Int) < (n : Int) := by omega
  clear r3 g3 hg4 O3 P3 hA
  go_wp2_with fail
  clear c4 i0 i1
  refine (pick_any b (p + 1 + 1) n zs _ r4 (by omega) (by omega) (by omega)).mono ?_
  rintro e w5 ⟨k2, hk2, rfl, r5, hg5⟩
  have g5 := g4.trans hg5
  have O5 := O4.kept hg5 (.inr (by simp [Value.ownBlock]; omega))
  have P5 := P4.kept hg5 (P4.offp hbp)
  have c5 := (O5.at k2 hk2).1
  obtain ⟨D, hD⟩ : ∃ D, F k2 = D := ⟨_, rfl⟩
  rw [hD] at c5
  have i0 : (0 : Int) ≤ (k2 : Int) := by omega
  have i1 : (k2 : Int) < (n : Int) := by omega
  clear r4 g4 hg5 O4 P4 hD O5 hk
  by_cases hP0 : P = 0
  · subst hP0
    go_wp2_with fail
    clear c5 i0 i1
    refine (pick_any b (p + 1 + 1 + 1) 24 zs _ r5 (by omega) (by omega) (by omega)).mono ?_
    rintro e wT ⟨c, hc, rfl, rT, hgT⟩
    have gT := g5.trans hgT
    clear r5 g5 hgT
    have hs2 := HS.out.1
    have hs5 := HS.out.2
    by_cases c0 : c = 0
    · subst c0
      go_wp2_with fail
      refine (num_any b (p + 1 + 1 + 1 + 1) zs _ wT.heap.size 4 [0, 1, -1, 2] (rT.alloc _) (IntsAt.new wT 3 [0, 1, -1, 2]) rfl rT.1 (by omega) (by omega) (by omega)).mono ?_
      rintro e w9 ⟨v, -, rfl, r9, hg9⟩
      have g9 := (gT.trans (World.grownBy_alloc wT _ (some b))).trans hg9
      clear rT gT hg9
      go_wp2
      refine bodyPost_ret (v := .tuple #[.int .i64 (s : Int), .int .i64 v, .int .i64 D]) (by simp [results, Try.results32, go_sem]) rfl ⟨(s : Int), v, D, p + 1 + 1 + 1 + 1 + 1, rfl, by omega, r9, g9⟩
    · by_cases c1 : c = 1
      · subst c1
        go_wp2_with fail
        refine (num_any b (p + 1 + 1 + 1 + 1) zs _ wT.heap.size 4 [1, 7, 9, (s : Int) + 1] (rT.alloc _) (IntsAt.new wT 3 [1, 7, 9, (s : Int) + 1]) rfl rT.1 (by omega) (by omega) (by omega)).mono ?_
        rintro e w9 ⟨v, -, rfl, r9, hg9⟩
        have g9 := (gT.trans (World.grownBy_alloc wT _ (some b))).trans hg9
        clear rT gT hg9
        go_wp2
        refine bodyPost_ret (v := .tuple #[.int .i64 v, .int .i64 A, .int .i64 D]) (by simp [results, Try.results32, go_sem]) rfl ⟨v, A, D, p + 1 + 1 + 1 + 1 + 1, rfl, by omega, r9, g9⟩
      · have c2 : ((c : Int) == 0) = false := by rw [beq_eq_false_iff_ne]; omega
        have c3 : ((c : Int) == 1) = false := by rw [beq_eq_false_iff_ne]; omega
        go_wp2
        refine bodyPost_ret (v := .tuple #[.int .i64 (s : Int), .int .i64 A, .int .i64 D]) (by simp [results, Try.results32, go_sem]) rfl ⟨(s : Int), A, D, p + 1 + 1 + 1 + 1, rfl, by omega, rT, gT⟩
  · have p0 : (0 : Int) < (P : Int) := by omega
    go_wp2_with fail
    clear c5 i0 i1
    refine (pick_any b (p + 1 + 1 + 1) 3 zs _ r5 (by omega) (by omega) (by omega)).mono ?_
    rintro e w6 ⟨j, hj, rfl, r6, hg6⟩
    have g6 := g5.trans hg6
    have P6 := P5.kept hg6 (P5.offp hbp)
    clear r5 g5 hg6 P5
    by_cases j0 : j = 0
    · subst j0
      go_wp2_with fail
      refine (pick_any b (p + 1 + 1 + 1 + 1) 24 zs _ r6 (by omega) (by omega) (by omega)).mono ?_
      rintro e wT ⟨c, hc, rfl, rT, hgT⟩
      have gT := g6.trans hgT
      clear r6 g6 hgT
      have hs2 := HS.out.1
      have hs5 := HS.out.2
      by_cases c0 : c = 0
      · subst c0
        go_wp2_with fail
        refine (num_any b (p + 1 + 1 + 1 + 1 + 1) zs _ wT.heap.size 4 [0, 1, -1, 2] (rT.alloc _) (IntsAt.new wT 3 [0, 1, -1, 2]) rfl rT.1 (by omega) (by omega) (by omega)).mono ?_
        rintro e w9 ⟨v, -, rfl, r9, hg9⟩
        have g9 := (gT.trans (World.grownBy_alloc wT _ (some b))).trans hg9
        clear rT gT hg9
        go_wp2
        refine bodyPost_ret (v := .tuple #[.int .i64 (s : Int), .int .i64 v, .int .i64 D]) (by simp [results, Try.results32, go_sem]) rfl ⟨(s : Int), v, D, p + 1 + 1 + 1 + 1 + 1 + 1, rfl, by omega, r9, g9⟩
      · by_cases c1 : c = 1
        · subst c1
          go_wp2_with fail
          refine (num_any b (p + 1 + 1 + 1 + 1 + 1) zs _ wT.heap.size 4 [1, 7, 9, (s : Int) + 1] (rT.alloc _) (IntsAt.new wT 3 [1, 7, 9, (s : Int) + 1]) rfl rT.1 (by omega) (by omega) (by omega)).mono ?_
          rintro e w9 ⟨v, -, rfl, r9, hg9⟩
          have g9 := (gT.trans (World.grownBy_alloc wT _ (some b))).trans hg9
          clear rT gT hg9
          go_wp2
          refine bodyPost_ret (v := .tuple #[.int .i64 v, .int .i64 A, .int .i64 D]) (by simp [results, Try.results32, go_sem]) rfl ⟨v, A, D, p + 1 + 1 + 1 + 1 + 1 + 1, rfl, by omega, r9, g9⟩
        · have c2 : ((c : Int) == 0) = false := by rw [beq_eq_false_iff_ne]; omega
          have c3 : ((c : Int) == 1) = false := by rw [beq_eq_false_iff_ne]; omega
          go_wp2
          refine bodyPost_ret (v := .tuple #[.int .i64 (s : Int), .int .i64 A, .int .i64 D]) (by simp [results, Try.results32, go_sem]) rfl ⟨(s : Int), A, D, p + 1 + 1 + 1 + 1 + 1, rfl, by omega, rT, gT⟩
    · have j1 : (0 : Int) < (j : Int) := by omega
      go_wp2_with fail
      refine (pick_any b (p + 1 + 1 + 1 + 1) P zs _ r6 (by omega) (by omega) (by omega)).mono ?_
      rintro e w7 ⟨m, hm, rfl, r7, hg7⟩
      have g7 := g6.trans hg7
      have P7 := P6.kept hg7 (P6.offp hbp)
      obtain ⟨pa', pc', hpe, hpa'⟩ := P7.form
      obtain ⟨pg, rfl, -, -⟩ := hpa' (by omega)
      injection hpe with he1 he2 he3
      subst he1 he3
      obtain ⟨x0, x1⟩ := P7.cells m hm
      obtain ⟨A2, hA2⟩ : ∃ A, (pf m).1 = A := ⟨_, rfl⟩
      obtain ⟨D2, hD2⟩ : ∃ D, (pf m).2 = D := ⟨_, rfl⟩
      rw [hA2] at x0
      rw [hD2] at x1
      have i0 : (0 : Int) ≤ (m : Int) := by omega
      have i1 : (m : Int) < (P : Int) := by omega
      have r8 := r7.alloc (.cells #[.int .i64 A2, .int .i64 D2] 30)
      have g8 := g7.trans (World.grownBy_alloc w7 (.cells #[.int .i64 A2, .int .i64 D2] 30) (some b))
      clear r6 g6 hg7 P6 P7 hpa' hA2 hD2 r7 g7 he2
      go_wp2_with fail
      clear x0 x1 i0 i1
      refine (pick_any b (p + 1 + 1 + 1 + 1 + 1) 24 zs _ r8 (by omega) (by omega) (by omega)).mono ?_
      rintro e wT ⟨c, hc, rfl, rT, hgT⟩
      have gT := g8.trans hgT
      clear r8 g8 hgT
      have hs2 := HS.out.1
      have hs5 := HS.out.2
      by_cases c0 : c = 0
      · subst c0
        go_wp2_with fail
        refine (num_any b (p + 1 + 1 + 1 + 1 + 1 + 1) zs _ wT.heap.size 4 [0, 1, -1, 2] (rT.alloc _) (IntsAt.new wT 3 [0, 1, -1, 2]) rfl rT.1 (by omega) (by omega) (by omega)).mono ?_
        rintro e w9 ⟨v, -, rfl, r9, hg9⟩
        have g9 := (gT.trans (World.grownBy_alloc wT _ (some b))).trans hg9
        clear rT gT hg9
        go_wp2
        refine bodyPost_ret (v := .tuple #[.int .i64 (s : Int), .int .i64 v, .int .i64 D2]) (by simp [results, Try.results32, go_sem]) rfl ⟨(s : Int), v, D2, p + 1 + 1 + 1 + 1 + 1 + 1 + 1, rfl, by omega, r9, g9⟩
      · by_cases c1 : c = 1
        · subst c1
          go_wp2_with fail
          refine (num_any b (p + 1 + 1 + 1 + 1 + 1 + 1) zs _ wT.heap.size 4 [1, 7, 9, (s : Int) + 1] (rT.alloc _) (IntsAt.new wT 3 [1, 7, 9, (s : Int) + 1]) rfl rT.1 (by omega) (by omega) (by omega)).mono ?_
          rintro e w9 ⟨v, -, rfl, r9, hg9⟩
          have g9 := (gT.trans (World.grownBy_alloc wT _ (some b))).trans hg9
          clear rT gT hg9
          go_wp2
          refine bodyPost_ret (v := .tuple #[.int .i64 v, .int .i64 A2, .int .i64 D2]) (by simp [results, Try.results32, go_sem]) rfl ⟨v, A2, D2, p + 1 + 1 + 1 + 1 + 1 + 1 + 1, rfl, by omega, r9, g9⟩
        · have c2 : ((c : Int) == 0) = false := by rw [beq_eq_false_iff_ne]; omega
          have c3 : ((c : Int) == 1) = false := by rw [beq_eq_false_iff_ne]; omega
          go_wp2
          refine bodyPost_ret (v := .tuple #[.int .i64 (s : Int), .int .i64 A2, .int .i64 D2]) (by simp [results, Try.results32, go_sem]) rfl ⟨(s : Int), A2, D2, p + 1 + 1 + 1 + 1 + 1 + 1, rfl, by omega, rT, gT⟩
end Go.Proofs.Ytmlmpekhcnjehaa
namespace Go.Proofs.Ytmlmpekhcnjehaa
open Go.RowKit
set_option linter.unusedVariables false
set_option maxRecDepth 100000
def rowL (F : Nat → Int) (T : Nat → Nat → Bool) (k : Nat) : Nat → List (Int × Int)
  | 0 => []
  | j + 1 => rowL F T k j ++ if k < j ∧ T k j = true then [(F k, F j)] else []
def allL (F : Nat → Int) (T : Nat → Nat → Bool) (n : Nat) : Nat → List (Int × Int)
  | 0 => []
  | k + 1 => allL F T n k ++ rowL F T k n
theorem rowL_skip {F : Nat → Int} {T : Nat → Nat → Bool} {k : Nat} : ∀ j, j ≤ k + 1 → rowL F T k j = []
  | 0, _ => rfl
  | j + 1, h => by simp only [rowL]; rw [rowL_skip j (by omega), if_neg (by omega)]; rfl
theorem rowL_yes {F : Nat → Int} {T : Nat → Nat → Bool} {k j : Nat} (h : k < j) (ht : T k j = true) : rowL F T k (j + 1) = rowL F T k j ++ [(F k, F j)] := by
  simp only [rowL]; rw [if_pos ⟨h, ht⟩]
theorem rowL_no {F : Nat → Int} {T : Nat → Nat → Bool} {k j : Nat} (ht : T k j = false) : rowL F T k (j + 1) = rowL F T k j := by
  simp only [rowL]; rw [if_neg (fun h => by rw [ht] at h; cases h.2), List.append_nil]
theorem rowL_len (F : Nat → Int) (T : Nat → Nat → Bool) (k : Nat) : ∀ j, (rowL F T k j).length ≤ j
  | 0 => Nat.le_refl _
  | j + 1 => by
    have := rowL_len F T k j
    simp only [rowL]
    rw [List.length_append]
    split <;> simp <;> omega
theorem rowL_congr {F : Nat → Int} {T T' : Nat → Nat → Bool} {k : Nat} : ∀ m, (∀ j, k < j → j < m → T k j = T' k j) → rowL F T k m = rowL F T' k m
  | 0, _ => rfl
  | m + 1, h => by
    simp only [rowL]
    rw [rowL_congr m (fun j h1 h2 => h j h1 (by omega))]
    by_cases hk : k < m
    · rw [h m hk (by omega)]
    · rw [if_neg (fun h => hk h.1), if_neg (fun h => hk h.1)]
theorem allL_congr {F : Nat → Int} {T T' : Nat → Nat → Bool} {n : Nat} (h : ∀ i j, i < j → j < n → T i j = T' i j) : ∀ k, allL F T n k = allL F T' n k
  | 0 => rfl
  | k + 1 => by
    simp only [allL]
    rw [allL_congr h k, rowL_congr n (fun j h1 h2 => h k j h1 h2)]
theorem rowL_none {F : Nat → Int} {T : Nat → Nat → Bool} {k : Nat} : ∀ m, (∀ j, k < j → j < m → T k j = false) → rowL F T k m = []
  | 0, _ => rfl
  | m + 1, h => by
    simp only [rowL]
    rw [rowL_none m (fun j h1 h2 => h j h1 (by omega)), if_neg (fun hh => by rw [h m hh.1 (by omega)] at hh; cases hh.2)]; rfl
theorem allL_none {F : Nat → Int} {T : Nat → Nat → Bool} {n : Nat} (h : ∀ i j, i < j → j < n → T i j = false) : ∀ k, allL F T n k = []
  | 0 => rfl
  | k + 1 => by
    simp only [allL]
    rw [allL_none h k, rowL_none n (fun j h1 h2 => h k j h1 h2)]; rfl
theorem allL_len (F : Nat → Int) (T : Nat → Nat → Bool) (n : Nat) (hn : n ≤ 300) : ∀ k, (allL F T n k).length ≤ k * 300
  | 0 => Nat.zero_le _
  | k + 1 => by
    have h1 := allL_len F T n hn k
    have h2 := rowL_len F T k n
    simp only [allL]
    rw [List.length_append]
    omega
def LP (l : List (Int × Int)) (i : Nat) : Int × Int := l.getD i (0, 0)
theorem prL_congr {n : Nat} {f g : Nat → Int × Int} (h : ∀ i, i < n → f i = g i) : prL n f = prL n g := by
  unfold prL
  exact List.map_congr_left fun t ht => by rw [h (t / 2) (by have := List.mem_range.1 ht; omega)]
theorem LP_snoc (l : List (Int × Int)) (y : Int × Int) (i : Nat) (h : i < l.length + 1) : (if i < l.length then LP l i else y) = LP (l ++ [y]) i := by
  unfold LP
  by_cases e : i < l.length
  · rw [if_pos e, List.getD_eq_getElem?_getD, List.getD_eq_getElem?_getD, List.getElem?_append_left e]
  · obtain rfl : i = l.length := by omega
    rw [if_neg e, List.getD_eq_getElem?_getD]; simp
theorem prL_set {n p : Nat} {f g : Nat → Int × Int} {y : Int} (h : ∀ t, t < n * 2 → (if t % 2 = 0 then (g (t / 2)).1 else (g (t / 2)).2) = if t = p then y else (if t % 2 = 0 then (f (t / 2)).1 else (f (t / 2)).2)) :
    (prL n f).set p (.int .i64 y) = prL n g := by
  apply List.ext_getElem?
  intro t
  by_cases ht : t < n * 2
  · rw [List.getElem?_set, prL_at ht, prL_at ht, h t ht]
    by_cases e : p = t
    · rw [if_pos e, if_pos (by rw [prL_len]; omega), if_pos e.symm]
    · rw [if_neg e, if_neg (show ¬ t = p from fun x => e x.symm)]
  · rw [List.getElem?_eq_none (by rw [List.length_set, prL_len]; omega), List.getElem?_eq_none (by rw [prL_len]; omega)]
def upP (f : Nat → Int × Int) (k : Nat) (u : Int × Int) (i : Nat) : Int × Int := if i = k then u else f i
/-- The marks on pairs. -/
def mkP (i : Nat) : Int × Int := (1 + 2 * (i : Int), 1 + 2 * (i : Int) + 1)
theorem PF.congr {w : World} {B : Nat} {v : Value} {n : Nat} {f g : Nat → Int × Int} (h : PF w B v n f) (e : ∀ i, i < n → f i = g i) : PF w B v n g := by
  unfold PF at h ⊢
  rw [← prL_congr e]; exact h
theorem PF.snocL {w : World} {B : Nat} {v : Value} {l : List (Int × Int)} {y : Int × Int} (h : PF w B v (l.length + 1) (fun i => if i < l.length then LP l i else y)) : PF w B v (l ++ [y]).length (LP (l ++ [y])) := by
  rw [show (l ++ [y]).length = l.length + 1 by simp]
  exact h.congr fun i hi => LP_snoc l y i hi
theorem PF.nil (w : World) (B : Nat) (f : Nat → Int × Int) : PF w B (.slice none 0 0) 0 f := World.ownsRow_nil w B _ 2
theorem PF.mono {w : World} {B C : Nat} {v : Value} {n : Nat} {f : Nat → Int × Int} (h : PF w B v n f) (hC : C ≤ B) : PF w C v n f := by
  obtain ⟨h1, ⟨rfl, rfl⟩ | ⟨g, cap, cur, rfl, hB, hg, hn, hm, hs, ht⟩⟩ := h
  · exact ⟨h1, .inl ⟨rfl, rfl⟩⟩
  · exact ⟨h1, .inr ⟨g, cap, cur, rfl, Nat.le_trans hC hB, hg, hn, hm, hs, ht⟩⟩
theorem PF.free {w : World} {B g n cap : Nat} {f : Nat → Int × Int} (h : PF w B (.slice (some ⟨g, 0, none⟩) n cap) n f) (j : Nat) : w.frozen? ⟨g, j, none⟩ = false := World.ownsRow.frozenAt h j
theorem PF.drewN {w : World} {B : Nat} {v : Value} {n : Nat} {f : Nat → Int × Int} (h : PF w B v n f) (m : Nat) : PF (w.drewN m) B v n f := h.below (below_drewN (Below.refl _ _) m)
theorem PF.both {w : World} {B g cap n : Nat} {f : Nat → Int × Int} (h : PF w B (.slice (some ⟨g, 0, none⟩) n cap) n f) (k : Nat) (x y : Int) :
    PF ((w.setCell ⟨g, k * 2, none⟩ (.int .i64 x)).setCell ⟨g, k * 2 + 1, none⟩ (.int .i64 y)) B (.slice (some ⟨g, 0, none⟩) n cap) n (upP f k (x, y)) := by
  have h1 : PF (w.setCell ⟨g, k * 2, none⟩ (.int .i64 x)) B (.slice (some ⟨g, 0, none⟩) n cap) n (upP f k (x, (f k).2)) := by
    have := (World.ownsRow.stored h (k * 2) (.int .i64 x)).1
    rw [prL_set (g := upP f k (x, (f k).2)) (fun t ht => by
      unfold upP
      by_cases e : t / 2 = k
      · subst e
        by_cases e2 : t % 2 = 0
        · simp only [if_true, if_pos e2, if_pos (show t = t / 2 * 2 by omega)]
        · simp only [if_true, if_neg e2, if_neg (show ¬ t = t / 2 * 2 by omega)]
      · simp only [if_neg e, if_neg (show ¬ t = k * 2 by omega)])] at this
    exact this
  have := (World.ownsRow.stored h1 (k * 2 + 1) (.int .i64 y)).1
  rw [prL_set (g := upP f k (x, y)) (fun t ht => by
    unfold upP
    by_cases e : t / 2 = k
    · subst e
      by_cases e2 : t % 2 = 0
      · simp only [if_true, if_pos e2, if_neg (show ¬ t = t / 2 * 2 + 1 by omega)]
      · simp only [if_true, if_neg e2, if_pos (show t = t / 2 * 2 + 1 by omega)]
    · simp only [if_neg e, if_neg (show ¬ t = k * 2 + 1 by omega)])] at this
  exact this
theorem eqPair_same (A D : Int) (w : World) :
    Calls Try.prog 25 #[.agg #[.int .i64 A, .int .i64 D], .agg #[.int .i64 A, .int .i64 D]] w fun e w' => e = .returned (.bool true) ∧ Below w.heap.size w w' := by
  go_enter Try.func25, Try.ntmps25
  go_wp2
  go_ret
  refine ⟨rfl, ?_⟩
  go_grown
set_option maxHeartbeats 1600000 in
theorem eqPairS_same (v u : Value) (B C n : Nat) (f : Nat → Int × Int) (w : World) (hv : PF w B v n f) (hu : PF w C u n f) (hn : n ≤ 1048576) :
    Calls Try.prog 8 #[v, u] w fun e w' => e = .returned (.bool true) ∧ Below w.heap.size w w' := by
  obtain ⟨a, cap, rfl, ha⟩ := hv.form
  obtain ⟨b, cap', rfl, hb⟩ := hu.form
  have HA := Lib.hid ha
  have HB := Lib.hid hb
  clear ha hb
  have HV := Lib.hid hv
  have HU := Lib.hid hu
  clear hv hu
  go_enter Try.func8, Try.ntmps8
  go_wp2
  go_loopw [5] (fun i wr => ∃ k : Nat, k ≤ n ∧ i = .int .i64 k ∧ Below w.heap.size w wr) (fun i _ => n - (intOf i).toNat)
  case atStart => exact ⟨0, by omega, rfl, Below.refl _ _⟩
  case round =>
    obtain ⟨k, hk, rfl, rb⟩ := hrel
    by_cases hlt : k < n
    · obtain ⟨x, rfl, -, hx⟩ := HA.out (by omega)
      obtain ⟨y, rfl, -, hy⟩ := HB.out (by omega)
      obtain ⟨c0, c1⟩ := (HV.out.below rb).cells k hlt
      obtain ⟨d0, d1⟩ := (HU.out.below rb).cells k hlt
      have i0 : (0 : Int) ≤ (k : Int) := by omega
      have i1 : (k : Int) < (n : Int) := by omega
      obtain ⟨A, hA⟩ : ∃ C, (f k).1 = C := ⟨_, rfl⟩
      obtain ⟨D, hD⟩ : ∃ C, (f k).2 = C := ⟨_, rfl⟩
      rw [hA] at c0 d0
      rw [hD] at c1 d1
      clear hA hD
      have rd := below_drew rb
      go_wp2_with fail
      go_still_tail 8, (by kernel_rfl)
      clear c0 c1 d0 d1
      go_wp2_with fail
      refine (eqPair_same A D _).mono ?_
      rintro e w5 ⟨rfl, hb⟩
      have r5 := below_then rd (Nat.le_refl _) hb
      clear hb rd rb
      go_wp2
      go_roundw
      case rel => exact ⟨k + 1, by omega, by go_num, r5⟩
      case measure => simp [intOf]; omega
    · obtain rfl : n = k := by omega
      go_wp2
      go_ret
      exact ⟨rfl, rb⟩
set_option maxHeartbeats 3200000 in
theorem markPairS_any (v : Value) (B n : Nat) (f : Nat → Int × Int) (w : World) (hv : PF w B v n f) (hn : n ≤ 1048576) :
    Calls Try.prog 9 #[v, .int .i64 1] w fun e w' => e = .returned (.int .i64 (1 + 2 * (n : Int))) ∧ PF w' B v n mkP ∧ w.grownBy w' v.ownBlock := by
  obtain ⟨a, cap, rfl, ha⟩ := hv.form
  by_cases h0 : 0 < n
  · obtain ⟨g, rfl, hBg, hgl⟩ := ha h0
    clear ha
    have HV := Lib.hid hv
    clear hv
    go_enter Try.func9, Try.ntmps9
    go_wp2
    go_loopw [5, 1] (fun i q wr => ∃ (k : Nat) (F : Nat → Int × Int), k ≤ n ∧ i = .int .i64 k ∧ q = .int .i64 (1 + 2 * (k : Int)) ∧ PF wr B (.slice (some ⟨g, 0, none⟩) n cap) n F ∧ Hid (∀ i, i < k → F i = mkP i) ∧ w.grownBy wr (some g)) (fun i _ _ => n - (intOf i).toNat)
    case atStart => exact ⟨0, f, by omega, rfl, rfl, HV.out, Lib.hid (fun i hi => absurd hi (Nat.not_lt_zero i)), ⟨rfl, rfl, rfl, Nat.le_refl _, fun _ _ _ => rfl⟩⟩
    case round =>
      obtain ⟨k, F, hk, rfl, rfl, rO, rF, rg⟩ := hrel
      by_cases hlt : k < n
      · have i0 : (0 : Int) ≤ (k : Int) := by omega
        have i1 : (k : Int) < (n : Int) := by omega
        have one : Hid (∀ (W : World) (p : Nat) (u : Value), W.grownBy (W.setCell ⟨g, p, none⟩ u) (some g)) := Lib.hid (fun W p u => ⟨rfl, rfl, rfl, by simp, fun k hk hne => Below.heap_setCell _ _ _ _ (fun e => hne (by rw [e]))⟩)
        obtain ⟨c0, c1⟩ := rO.cells k hlt
        have fr := rO.free
        have O8 := Lib.hid (rO.both k (1 + 2 * (k : Int)) (1 + 2 * (k : Int) + 1))
        have F8 : Hid (∀ i, i < k + 1 → upP F k (1 + 2 * (k : Int), 1 + 2 * (k : Int) + 1) i = mkP i) := Lib.hid (fun i hi => by
          unfold upP
          by_cases e : i = k
          · rw [if_pos e, e]; rfl
          · rw [if_neg e]; exact rF.out i (by omega))
        have g8 := Lib.hid ((rg.trans (one.out _ (k * 2) (.int .i64 (1 + 2 * (k : Int))))).trans (one.out _ (k * 2 + 1) (.int .i64 (1 + 2 * (k : Int) + 1))))
        clear rO rg rF
        go_wp2
        go_roundw
        case rel => exact ⟨k + 1, _, by omega, by go_num, by go_num, O8.out, F8, g8.out⟩
        case measure => simp [intOf]; omega
      · obtain rfl : n = k := by omega
        have O9 := Lib.hid (rO.congr rF.out)
        clear rO rF
        go_wp2
        go_ret
        exact ⟨rfl, O9.out, rg⟩
  · obtain rfl : n = 0 := by omega
    clear ha
    have HV := Lib.hid (hv.congr (g := mkP) (fun i hi => absurd hi (Nat.not_lt_zero i)))
    clear hv
    go_enter Try.func9, Try.ntmps9
    go_wp2
    go_loop [5, 1] (fun i q => i = .int .i64 (0 : Nat) ∧ q = .int .i64 1) (fun i _ => (intOf i).toNat)
    case atStart => exact ⟨rfl, rfl⟩
    case round =>
      obtain ⟨rfl, rfl⟩ := hrel
      go_wp2
      go_ret
      exact ⟨rfl, HV.out, ⟨rfl, rfl, rfl, Nat.le_refl _, fun _ _ _ => rfl⟩⟩
set_option maxHeartbeats 3200000 in
theorem heldPairS_any (v : Value) (B n : Nat) (w : World) (hv : PF w B v n mkP) (hn : n ≤ 1048576) :
    Calls Try.prog 10 #[v, .int .i64 1] w fun e w' => e = .returned (.int .i64 (1 + 2 * (n : Int))) ∧ Below w.heap.size w w' := by
  obtain ⟨a, cap, rfl, hc⟩ := hv.form
  have HC := Lib.hid hc
  have HV := Lib.hid hv
  clear hc hv
  go_enter Try.func10, Try.ntmps10
  go_wp2
  go_loopw [5, 1] (fun i q wr => ∃ k : Nat, k ≤ n ∧ i = .int .i64 k ∧ q = .int .i64 (1 + 2 * (k : Int)) ∧ Below w.heap.size w wr) (fun i _ _ => n - (intOf i).toNat)
  case atStart => exact ⟨0, by omega, rfl, rfl, Below.refl _ _⟩
  case round =>
    obtain ⟨k, hk, rfl, rfl, rb⟩ := hrel
    by_cases hlt : k < n
    · obtain ⟨g, rfl, -, hgl⟩ := HC.out (by omega)
      have i0 : (0 : Int) ≤ (k : Int) := by omega
      have i1 : (k : Int) < (n : Int) := by omega
      obtain ⟨c0, c1⟩ := (HV.out.below rb).cells k hlt
      unfold mkP at c0 c1
      dsimp only at c0 c1
      go_wp2
      go_roundw
      case rel => exact ⟨k + 1, by omega, by go_num, by go_num, rb⟩
      case measure => simp [intOf]; omega
    · obtain rfl : k = n := by omega
      go_wp2
      go_ret
      exact ⟨rfl, rb⟩
end Go.Proofs.Ytmlmpekhcnjehaa
namespace Go.Proofs.Ytmlmpekhcnjehaa
open Go.RowKit
set_option linter.unusedVariables false
set_option maxRecDepth 100000
theorem addrI_add (g o i : Nat) : (⟨g, o, none⟩ : Addr).add i = ⟨g, o + i, none⟩ := by unfold Addr.add; split <;> simp_all
theorem intI_elem (w : World) : (sizeOf (Try.prog.elem 31)).run Try.prog w = .ok 1 w := by kernel_rfl
theorem tailI_ints {w : World} {B : Nat} {v : Value} {n : Nat} {f : Nat → Int} (h : OF w B v n f) (l : Nat) (hl : l ≤ n) : ∃ a' cap', (∀ w1, (Instr.sliceAt 31 v (some (.int .i64 (l : Int))) none none).run Try.prog w1 = .ok (.slice a' (n - l) cap') w1) ∧
    ∀ i, i < n - l → ∃ x : Addr, a' = some x ∧ x.block < w.heap.size ∧ w.cell? (x.add i) = some (.int .i64 (f (l + i))) := by
  have hc := h.form
  obtain ⟨h1, ⟨rfl, rfl⟩ | ⟨g, cap, cur, rfl, hB, hg, hn, hm, hs, ht⟩⟩ := h
  · obtain rfl : l = 0 := by omega
    exact ⟨_, _, fun w1 => by rw [run_sliceAt_slice w1 31 _ _ _ _ (by kernel_rfl), run_slice_l w1 31 none 0 0 (by kernel_rfl) .i64 _ (by omega) (by omega), intI_elem]; rfl, fun i hi => absurd hi (Nat.not_lt_zero i)⟩
  · refine ⟨if cap = l then some ⟨g, 0, none⟩ else some ⟨g, l, none⟩, cap - l, fun w1 => ?_, fun i hi => ?_⟩
    · rw [run_sliceAt_slice w1 31 _ _ _ _ (by kernel_rfl), run_slice_l w1 31 _ n cap (by kernel_rfl) .i64 _ (by omega) (by omega), intI_elem]
      simp [Result.andThen, sliced, addrI_add]
    · obtain ⟨a', cap', hf1, hf2⟩ := hc
      obtain ⟨g', rfl, _, hgl, hcc⟩ := hf2 (by omega)
      injection hf1 with e1
      injection e1 with e1
      injection e1 with e1
      subst e1
      refine ⟨⟨g, l, none⟩, by rw [if_neg (by omega)], hgl, ?_⟩
      have := (hcc (l + i) (by omega)).1
      rw [addrI_add]; exact this
theorem addI_block (x : Addr) (i : Nat) : (x.add i).block = x.block := by unfold Addr.add; split <;> rfl
/-- What IsMaximal tells, and that it is what MaxP says. -/
theorem maxIsP : ∃ M, MaxIs M ∧ ∀ s t : Nat, tapsB s t = true → (M s t = true ↔ MaxP s t) := by
  have h : ∀ p : Int × Int, ∃ B : Bool, ((B = true → tapsB p.1 p.2 = true) ∧
      (∀ w, Calls Try.prog 34 #[.int .i64 p.1, .int .i64 p.2] w fun e w' => e = .returned (.bool B) ∧ Below w.heap.size w w') ∧
      (∀ w, Calls Try.prog 17 #[.int .i64 p.1, .int .i64 p.2] w fun e w' => e = .returned (.bool B) ∧ Below w.heap.size w w')) ∧
      ∀ s t : Nat, p.1 = s → p.2 = t → tapsB p.1 p.2 = true → (B = true ↔ MaxP s t) := by
    rintro ⟨S, T⟩
    cases hb : tapsB S T with
    | false =>
      obtain ⟨B, h1, h2, h3⟩ := bothIsMaximal S T
      exact ⟨B, ⟨fun h => hb ▸ h1 h, h2, h3⟩, fun s t _ _ h => (by cases h)⟩
    | true =>
      obtain ⟨h1, h2, h3, h4⟩ := (tapsB_iff S T).1 hb
      obtain ⟨s, rfl⟩ : ∃ s : Nat, S = s := ⟨S.toNat, by omega⟩
      obtain ⟨t, rfl⟩ : ∃ t : Nat, T = t := ⟨T.toNat, by omega⟩
      rw [Int.toNat_natCast] at h4
      have hr : RegN s t 1 := ⟨by omega, by omega, by omega, by omega, by have := tw_four s (by omega); omega⟩
      obtain ⟨L, P, o, h256, ip, sp⟩ := per_all hr
      refine ⟨decide ((P : Int) = (tw s : Int) - 1), ⟨fun _ => rfl, fun w => ?_, fun w => iMaximal_of s t _ (by omega) hb ip w⟩, fun s' t' e1 e2 _ => ?_⟩
      · have HM := Lib.hid (fun w => l1Maximal_of s t _ (by omega) sp w)
        generalize decide ((P : Int) = (tw s : Int) - 1) = B at HM ⊢
        clear ip sp h1 h2 h3 h4 o h256 hr
        go_enter Try.func34, Try.ntmps34
        go_wp2_with (first | (go_at_call 45; refine (l1Taps_yes _ _ _ hb).mono ?_; rintro e w' ⟨rfl, rfl⟩) | (go_at_call 46; refine (HM.out _).mono ?_; rintro e w5 ⟨rfl, hb5⟩))
        go_ret
        exact ⟨rfl, hb5⟩
      · obtain rfl : s = s' := by omega
        obtain rfl : t = t' := by omega
        refine ⟨fun h => ?_, fun h => ?_⟩
        · have e := of_decide_eq_true h
          obtain rfl : P = tw s - 1 := by omega
          exact ⟨hr, L, o⟩
        · obtain ⟨-, L', o'⟩ := h
          have e := (o.same o').2
          have := tw_four s (by omega)
          exact decide_eq_true (by omega)
  obtain ⟨f, hf⟩ := Classical.axiomOfChoice h
  exact ⟨fun S T => f (S, T), fun S T => (hf (S, T)).1, fun s t ht => (hf (s, t)).2 s t rfl rfl ht⟩
set_option maxHeartbeats 3200000 in
theorem sPairs_of (S : Int) (n : Nat) (F : Nat → Int) (T : Nat → Nat → Bool) (w : World) (h6 : S ≤ 6) (hn : n ≤ 300)
    (hT : ∀ w, Calls Try.prog 23 #[.int .i64 S] w fun e w' => ∃ v, e = .returned v ∧ OF w' w.heap.size v n F ∧ Below w.heap.size w w')
    (hP : ∀ i j, i < n → j < n → ∀ w, Calls Try.prog 24 #[.int .i64 S, .int .i64 (F i), .int .i64 (F j)] w fun e w' => e = .returned (.bool (T i j)) ∧ Below w.heap.size w w') :
    Calls Try.prog 6 #[.int .i64 S] w fun e w' => ∃ v, e = .returned v ∧ PF w' w.heap.size v (allL F T n n).length (LP (allL F T n n)) ∧ Below w.heap.size w w' := by
  have P0 := PF.empty w (LP [])
  have HL := Lib.hid (fun k => allL_len F T n hn k)
  have HR := Lib.hid (fun k j => rowL_len F T k j)
  have b0 := (Below.refl w.heap.size w).alloc (Nat.le_refl _) (.cells #[] 30)
  have s6 : ¬ ((6 : Int) < S) := by omega
  have HT := Lib.hid hT
  have HP := Lib.hid hP
  clear hT hP h6
  go_enter Try.func6, Try.ntmps6
  go_wp2_with fail
  refine (HT.out _).mono ?_
  rintro e w1 ⟨lv, rfl, O1, hb⟩
  have P1 := P0.below hb
  have b1 := below_then b0 (Nat.le_refl _) hb
  obtain ⟨la, cap, rfl, hla⟩ := O1.form
  obtain ⟨B, hB, hwB⟩ : ∃ B, (w.alloc (.cells #[] 30)).heap.size = B ∧ w.heap.size < B := ⟨_, rfl, by simp⟩
  rw [hB] at O1
  have OB := O1
  have HNE : Hid (∀ g, la = some ⟨g, 0, none⟩ → (Value.slice (some ⟨w.heap.size, 0, none⟩) 0 0).ownBlock ≠ some g ∧ g < w1.heap.size) := Lib.hid (fun g hg => by
    subst hg
    have := O1.lt g rfl
    refine ⟨by simp [Value.ownBlock]; omega, this.2⟩)
  clear HT P0 b0 hb hla O1 hB
  go_wp2
  go_loopw [3, 5] (fun o i wr => ∃ (k : Nat) (l : List (Int × Int)), k ≤ n ∧ i = .int .i64 k ∧ Hid (l = allL F T n k) ∧ PF wr w.heap.size o l.length (LP l) ∧ Hid (∀ g, la = some ⟨g, 0, none⟩ → o.ownBlock ≠ some g ∧ g < wr.heap.size) ∧ OF wr B (.slice la n cap) n F ∧ Below w.heap.size w wr) (fun _ i _ => n - (intOf i).toNat)
  case atStart => exact ⟨0, [], Nat.zero_le _, rfl, Lib.hid rfl, P1, HNE, OB, b1⟩
  case round =>
    clear P1 b1 OB HNE
    obtain ⟨k, l, hk, rfl, hl, rP, rN, rO, rb⟩ := hrel
    by_cases hlt : k < n
    · skip
      have i0 : (0 : Int) ≤ (k : Int) := by omega
      have i1 : (k : Int) < (n : Int) := by omega
      go_wp2
      go_loopw [3, 6] (fun o i wr => ∃ (j : Nat) (l : List (Int × Int)), k + 1 ≤ j ∧ j ≤ n ∧ i = .int .i64 j ∧ Hid (l = allL F T n k ++ rowL F T k j) ∧ PF wr w.heap.size o l.length (LP l) ∧ Hid (∀ g, la = some ⟨g, 0, none⟩ → o.ownBlock ≠ some g ∧ g < wr.heap.size) ∧ OF wr B (.slice la n cap) n F ∧ Below w.heap.size w wr) (fun _ i _ => n - (intOf i).toNat)
      case atStart => exact ⟨k + 1, l, by omega, by omega, by go_num, Lib.hid (by rw [rowL_skip (k + 1) (Nat.le_refl _), List.append_nil]; exact hl.out), rP, rN, rO, rb⟩
      case round =>
        clear rP rN rO rb hl
        obtain ⟨j, l, hkj, hj, rfl, hl, rP, rN, rO, rb⟩ := hrel
        by_cases hlj : j < n
        · obtain ⟨la', cap', hle, hla⟩ := rO.form
          obtain ⟨g, hg, -, -, -⟩ := hla (by omega)
          injection hle with hle1 _ hle2
          rw [hg] at hle1
          subst hle1 hle2
          obtain ⟨rN1, rg⟩ := rN.out g rfl
          have hca := (rO.at k hlt).1
          have hcd := (rO.at j hlj).1
          have j0 : (0 : Int) ≤ (j : Int) := by omega
          have j1 : (j : Int) < (n : Int) := by omega
          have hpf := fun w => HP.out k j hlt hlj w
          have hln : l.length ≤ 1048576 := by have h1 := HL.out k; have h2 := HR.out k j; have h3 := congrArg List.length hl.out; rw [List.length_append] at h3; omega
          obtain ⟨A, hFa⟩ : ∃ a, F k = a := ⟨_, rfl⟩
          obtain ⟨D, hFd⟩ : ∃ a, F j = a := ⟨_, rfl⟩
          rw [hFa] at hca
          rw [hFd] at hcd
          simp only [hFa, hFd] at hpf
          have HFA := Lib.hid hFa
          have HFD := Lib.hid hFd
          have hy1 := fun h => rowL_yes (F := F) (T := T) (k := k) (j := j) (by omega) h
          have hy0 := fun h => rowL_no (F := F) (T := T) (k := k) (j := j) h
          obtain ⟨y, hy⟩ : ∃ y, T k j = y := ⟨_, rfl⟩
          rw [hy] at hy1 hy0
          simp only [hy] at hpf
          rw [hFa, hFd] at hy1
          have HY1 := Lib.hid hy1
          have HY0 := Lib.hid hy0
          have HPF := Lib.hid hpf
          clear hpf hy hFa hFd hla hg hy1 hy0
          have hrg := Below.refl wr.heap.size wr
          go_wp2_with fail
          go_still_tail 9, (by kernel_rfl)
          repeat still_step
          repeat still_step
          try refine wpStill_nil ?_
          change wpList _ _ _ _ _ wr.drew
          have g1 := below_drew hrg
          obtain ⟨W, hW⟩ : ∃ W, wr.drew = W := ⟨_, rfl⟩
          rw [hW] at g1 ⊢
          have HW := Lib.hid hW
          clear hrg hca hcd hW
          go_wp2_with fail
          refine (HPF.out _).mono ?_
          rintro e w5 ⟨rfl, hb⟩
          have g5 := below_then g1 (Nat.le_refl _) hb
          have r5 := below_then rb (Nat.le_refl _) g5
          have P5 := rP.below g5
          have O5 := rO.below g5
          have rg5 : g < w5.heap.size := Nat.lt_of_lt_of_le rg g5.size
          clear g1 hb g5 rb rP rO rg HW HPF
          cases y with
          | false =>
            have HX := Lib.hid (show l = allL F T n k ++ rowL F T k (j + 1) by rw [HY0.out rfl]; exact hl.out)
            have NX : Hid (∀ g', (some ⟨g, 0, none⟩ : Option Addr) = some ⟨g', 0, none⟩ → _ ≠ some g' ∧ g' < w5.heap.size) := Lib.hid (fun g' e => by injection e with e; injection e with e; subst e; exact ⟨rN1, rg5⟩)
            clear rN hl HY1 HY0
            go_wp2
            go_roundw
            case rel => exact ⟨j + 1, l, by omega, by omega, by go_num, HX, P5, NX, O5, r5⟩
            case measure => simp [intOf]; omega
          | true =>
            have HX := Lib.hid (show l ++ [(A, D)] = allL F T n k ++ rowL F T k (j + 1) by rw [HY1.out rfl, ← List.append_assoc, ← hl.out])
            have hca := (O5.at k hlt).1
            have hcd := (O5.at j hlj).1
            have hA := HFA.out
            have hD := HFD.out
            rw [hA] at hca
            rw [hD] at hcd
            have KC : Hid (∀ wx, OF wx B (.slice (some ⟨g, 0, none⟩) n cap) n F → wx.cell? ⟨g, k, none⟩ = some (.int .i64 A) ∧ wx.cell? ⟨g, j, none⟩ = some (.int .i64 D)) := Lib.hid (fun wx h => ⟨hA ▸ (h.at k hlt).1, hD ▸ (h.at j hlj).1⟩)
            go_wp2_with fail
            have g1 := below_drew (Below.refl w5.heap.size w5)
            have r6 := below_then r5 (Nat.le_refl _) g1
            have P6 := P5.below g1
            have O6 := O5.below g1
            have rg6 : g < w5.drew.heap.size := Nat.lt_of_lt_of_le rg5 g1.size
            clear r5 P5 O5 rg5 g1 hA hD hca hcd
            refine wp_region_held_drew (S := (fun wx => wx.cell? ⟨g, k, none⟩ = some (.int .i64 A) ∧ wx.cell? ⟨g, j, none⟩ = some (.int .i64 D))) (by kernel_rfl) (KC.out _ O6) (fun hHeld => ?_)
            obtain ⟨W, hW⟩ : ∃ W, w5.drew = W := ⟨_, rfl⟩
            rw [hW] at r6 P6 O6 rg6 hHeld ⊢
            clear hW
            refine wpAnyH_take (i := 0) (oi := { dst := some 37, op := Go.Op.move (Go.Operand.tmp 3), type := 22, pos := "l3_families.go:58", after := #[], guard := none }) (v := ?v0) rfl (by kernel_rfl) (by kernel_rfl) (by kernel_rfl) (fun _ _ _ h => h) (Or.inl ⟨by rfl, ?hy0⟩) (by assumption) ?rest0
            case hy0 => (intro w hSw; (try dsimp only at hSw); obtain ⟨q0, q1⟩ := hSw; go_simp; try with_reducible rfl)
            try simp only [Act.put, List.setIfInBounds_toArray, List.set_cons_zero, List.set_cons_succ]
            refine wpAnyH_take (i := 1) (oi := { dst := some 38, op := Go.Op.move (Go.Operand.tmp 4), type := 31, pos := "l3_families.go:58", after := #[], guard := none }) (v := ?v1) rfl (by kernel_rfl) (by kernel_rfl) (by kernel_rfl) (fun _ _ _ h => h) (Or.inl ⟨by rfl, ?hy1⟩) (by assumption) ?rest1
            case hy1 => (intro w hSw; (try dsimp only at hSw); obtain ⟨q0, q1⟩ := hSw; go_simp; try with_reducible rfl)
            try simp only [Act.put, List.setIfInBounds_toArray, List.set_cons_zero, List.set_cons_succ]
            refine wpAnyH_take (i := 2) (oi := { dst := some 39, op := Go.Op.move (Go.Operand.tmp 5), type := 3, pos := "l3_families.go:58", after := #[], guard := none }) (v := ?v2) rfl (by kernel_rfl) (by kernel_rfl) (by kernel_rfl) (fun _ _ _ h => h) (Or.inl ⟨by rfl, ?hy2⟩) (by assumption) ?rest2
            case hy2 => (intro w hSw; (try dsimp only at hSw); obtain ⟨q0, q1⟩ := hSw; go_simp; try with_reducible rfl)
            try simp only [Act.put, List.setIfInBounds_toArray, List.set_cons_zero, List.set_cons_succ]
            refine wpAnyH_take (i := 3) (oi := { dst := some 40, op := Go.Op.indexAddr 31 (Go.Operand.tmp 38) (Go.Operand.tmp 39), type := 0, pos := "l3_families.go:58", after := #[{ on := 1, ground := Go.Ground.data }, { on := 2, ground := Go.Ground.data }], guard := none }) (v := ?v3) rfl (by kernel_rfl) (by kernel_rfl) (by kernel_rfl) (fun _ _ _ h => h) (Or.inl ⟨by rfl, ?hy3⟩) (by assumption) ?rest3
            case hy3 => (intro w hSw; (try dsimp only at hSw); obtain ⟨q0, q1⟩ := hSw; go_simp; try with_reducible rfl)
            try simp only [Act.put, List.setIfInBounds_toArray, List.set_cons_zero, List.set_cons_succ]
            refine wpAnyH_take (i := 4) (oi := { dst := some 41, op := Go.Op.load 3 (Go.Operand.tmp 40), type := 3, pos := "l3_families.go:58", after := #[{ on := 3, ground := Go.Ground.data }], guard := none }) (v := ?v4) rfl (by kernel_rfl) (by kernel_rfl) (by kernel_rfl) (fun _ _ _ h => h) (Or.inl ⟨by rfl, ?hy4⟩) (by assumption) ?rest4
            case hy4 => (intro w hSw; (try dsimp only at hSw); obtain ⟨q0, q1⟩ := hSw; go_simp; try with_reducible rfl)
            try simp only [Act.put, List.setIfInBounds_toArray, List.set_cons_zero, List.set_cons_succ]
            refine wpAnyH_take (i := 5) (oi := { dst := some 42, op := Go.Op.move (Go.Operand.tmp 4), type := 31, pos := "l3_families.go:58", after := #[], guard := none }) (v := ?v5) rfl (by kernel_rfl) (by kernel_rfl) (by kernel_rfl) (fun _ _ _ h => h) (Or.inl ⟨by rfl, ?hy5⟩) (by assumption) ?rest5
            case hy5 => (intro w hSw; (try dsimp only at hSw); obtain ⟨q0, q1⟩ := hSw; go_simp; try with_reducible rfl)
            try simp only [Act.put, List.setIfInBounds_toArray, List.set_cons_zero, List.set_cons_succ]
            refine wpAnyH_take (i := 6) (oi := { dst := some 43, op := Go.Op.move (Go.Operand.tmp 6), type := 3, pos := "l3_families.go:58", after := #[], guard := none }) (v := ?v6) rfl (by kernel_rfl) (by kernel_rfl) (by kernel_rfl) (fun _ _ _ h => h) (Or.inl ⟨by rfl, ?hy6⟩) (by assumption) ?rest6
            case hy6 => (intro w hSw; (try dsimp only at hSw); obtain ⟨q0, q1⟩ := hSw; go_simp; try with_reducible rfl)
            try simp only [Act.put, List.setIfInBounds_toArray, List.set_cons_zero, List.set_cons_succ]
            refine wpAnyH_take (i := 7) (oi := { dst := some 44, op := Go.Op.indexAddr 31 (Go.Operand.tmp 42) (Go.Operand.tmp 43), type := 0, pos := "l3_families.go:58", after := #[{ on := 5, ground := Go.Ground.data }, { on := 6, ground := Go.Ground.data }], guard := none }) (v := ?v7) rfl (by kernel_rfl) (by kernel_rfl) (by kernel_rfl) (fun _ _ _ h => h) (Or.inl ⟨by rfl, ?hy7⟩) (by assumption) ?rest7
            case hy7 => (intro w hSw; (try dsimp only at hSw); obtain ⟨q0, q1⟩ := hSw; go_simp; try with_reducible rfl)
            try simp only [Act.put, List.setIfInBounds_toArray, List.set_cons_zero, List.set_cons_succ]
            refine wpAnyH_take (i := 8) (oi := { dst := some 45, op := Go.Op.load 3 (Go.Operand.tmp 44), type := 3, pos := "l3_families.go:58", after := #[{ on := 7, ground := Go.Ground.data }], guard := none }) (v := ?v8) rfl (by kernel_rfl) (by kernel_rfl) (by kernel_rfl) (fun _ _ _ h => h) (Or.inl ⟨by rfl, ?hy8⟩) (by assumption) ?rest8
            case hy8 => (intro w hSw; (try dsimp only at hSw); obtain ⟨q0, q1⟩ := hSw; go_simp; try with_reducible rfl)
            try simp only [Act.put, List.setIfInBounds_toArray, List.set_cons_zero, List.set_cons_succ]
            refine wpAnyH_take (i := 9) (oi := { dst := some 46, op := Go.Op.build 30 #[(0, Go.Operand.tmp 41), (1, Go.Operand.tmp 45)], type := 30, pos := "l3_families.go:58", after := #[{ on := 4, ground := Go.Ground.data }, { on := 8, ground := Go.Ground.data }], guard := none }) (v := ?v9) rfl (by kernel_rfl) (by kernel_rfl) (by kernel_rfl) (fun _ _ _ h => h) (Or.inl ⟨by rfl, ?hy9⟩) (by assumption) ?rest9
            case hy9 => (intro w hSw; (try dsimp only at hSw); obtain ⟨q0, q1⟩ := hSw; go_simp; try with_reducible rfl)
            try simp only [Act.put, List.setIfInBounds_toArray, List.set_cons_zero, List.set_cons_succ]
            refine wpAnyH_ready (rs := [10]) (by kernel_rfl) (by simp) ?_
            refine AllReadyH.cons (o := { dst := some 47, op := Go.Op.buildSlice 22 1 #[(0, Go.Operand.tmp 46)], type := 22, pos := "l3_families.go:58", after := #[{ on := 9, ground := Go.Ground.data }], guard := none }) rfl (fun K hK => ?_) AllReadyH.nil
            go_simp
            have OL := O6.alloc (.cells #[.int .i64 A, .int .i64 D] 30)
            refine hK.out _ _ (KC.out _ OL) (fun hHeld => ?_)
            clear hK K
            try simp only [Act.put, List.setIfInBounds_toArray, List.set_cons_zero, List.set_cons_succ]
            refine wpAnyH_ready (rs := [11]) (by kernel_rfl) (by simp) ?_
            refine AllReadyH.cons (o := { dst := some 48, op := Go.Op.call { callee := Go.Callee.builtin Go.Builtin.append, args := #[Go.Operand.tmp 37, Go.Operand.tmp 47], argTypes := #[22, 22] }, type := 22, pos := "l3_families.go:58", after := #[{ on := 0, ground := Go.Ground.data }, { on := 10, ground := Go.Ground.data }], guard := none }) rfl (fun K hK => ?_) AllReadyH.nil
            refine step_append_pair rfl (.tmp 37) (.tmp 47) rfl w.heap.size _ l.length (LP l) rfl (P6.alloc _) W.heap.size 1 A D rfl (by simp) (by simp) hln (by have := r6.size; simp; omega) ?_
            intro v' w7 P7 g7 h7
            have r7 : Below w.heap.size w w7 := (r6.alloc r6.size _).grown g7 (by have := r6.size; simp; omega) (fun c hc => (P6.lt c hc).1)
            have O7 : OF w7 B (.slice (some ⟨g, 0, none⟩) n cap) n F := (O6.alloc _).kept g7 (.inr (by intro e; exact rN1 e.symm))
            have rg7 : g < w7.heap.size := by have := g7.size; simp at this; omega
            have rN7 : v'.ownBlock ≠ some g := by
              rcases h7 with h | h
              · rw [h]; exact rN1
              · rw [h]; simp; omega
            refine hK.out _ _ (KC.out _ O7) (fun hHeld => ?_)
            clear hK K OL
            try simp only [Act.put, List.setIfInBounds_toArray, List.set_cons_zero, List.set_cons_succ]
            refine wpAnyH_take (i := 12) (oi := { dst := some 3, op := Go.Op.assign (Go.Operand.tmp 48), type := 22, pos := "l3_families.go:58", after := #[{ on := 11, ground := Go.Ground.data }, { on := 11, ground := Go.Ground.chain }, { on := 0, ground := Go.Ground.phase }, { on := 1, ground := Go.Ground.phase }, { on := 2, ground := Go.Ground.phase }, { on := 3, ground := Go.Ground.phase }, { on := 4, ground := Go.Ground.phase }, { on := 5, ground := Go.Ground.phase }, { on := 6, ground := Go.Ground.phase }, { on := 7, ground := Go.Ground.phase }, { on := 8, ground := Go.Ground.phase }, { on := 9, ground := Go.Ground.phase }, { on := 10, ground := Go.Ground.phase }, { on := 11, ground := Go.Ground.phase }], guard := none }) (v := ?v12) rfl (by kernel_rfl) (by kernel_rfl) (by kernel_rfl) (fun _ _ _ h => h) (Or.inl ⟨by rfl, ?hy12⟩) (by assumption) ?rest12
            case hy12 => (intro w hSw; (try dsimp only at hSw); obtain ⟨q0, q1⟩ := hSw; go_simp; try with_reducible rfl)
            try simp only [Act.put, List.setIfInBounds_toArray, List.set_cons_zero, List.set_cons_succ]
            refine wpAnyH_done (by kernel_rfl) ?_ _
            have NX : Hid (∀ g', (some ⟨g, 0, none⟩ : Option Addr) = some ⟨g', 0, none⟩ → v'.ownBlock ≠ some g' ∧ g' < w7.heap.size) := Lib.hid (fun g' e => by injection e with e; injection e with e; subst e; exact ⟨rN7, rg7⟩)
            clear r6 P6 O6 g7 h7 rN rg6 hl HY1 HY0
            go_wp2
            go_roundw
            case rel => exact ⟨j + 1, l ++ [(A, D)], by omega, by omega, by go_num, HX, P7.snocL, NX, O7, r7⟩
            case measure => simp [intOf]; omega
        · obtain rfl : j = n := by omega
          go_wp2
          go_roundw
          case rel => exact ⟨k + 1, l, by omega, by go_num, hl, rP, rN, rO, rb⟩
          case measure => simp [intOf]; omega
    · obtain rfl : k = n := by omega
      go_wp2
      go_ret
      exact ⟨_, rfl, by rw [← hl.out]; exact rP, rb⟩
theorem sPairs_none (S : Int) (l : List (Int × Int)) (hl : l = []) (w : World) (h6 : 6 < S) :
    Calls Try.prog 6 #[.int .i64 S] w fun e w' => ∃ v, e = .returned v ∧ PF w' w.heap.size v l.length (LP l) ∧ Below w.heap.size w w' := by
  subst hl
  go_enter Try.func6, Try.ntmps6
  go_wp2
  go_ret
  exact ⟨_, rfl, PF.empty w _, (Below.refl _ _).alloc (Nat.le_refl _) _⟩
set_option maxHeartbeats 3200000 in
theorem iPairs_of (S : Int) (n : Nat) (F : Nat → Int) (T : Nat → Nat → Bool) (w : World) (hn : n ≤ 300)
    (hT : ∀ w, Calls Try.prog 12 #[.int .i64 S] w fun e w' => ∃ v, e = .returned v ∧ OF w' w.heap.size v n F ∧ Below w.heap.size w w')
    (hP : ∀ i j, i < j → j < n → ∀ w, Calls Try.prog 13 #[.int .i64 S, .int .i64 (F i), .int .i64 (F j)] w fun e w' => e = .returned (.bool (T i j)) ∧ Below w.heap.size w w') :
    Calls Try.prog 7 #[.int .i64 S] w fun e w' => ∃ v, e = .returned v ∧ PF w' w.heap.size v (allL F T n n).length (LP (allL F T n n)) ∧ Below w.heap.size w w' := by
  have HL := Lib.hid (fun k => allL_len F T n hn k)
  have HR := Lib.hid (fun k j => rowL_len F T k j)
  have HT := Lib.hid hT
  have HP := Lib.hid hP
  clear hT hP
  go_enter Try.func7, Try.ntmps7
  go_wp2_with fail
  refine (HT.out _).mono ?_
  rintro e w1 ⟨lv, rfl, O1, b1⟩
  have hTL := fun l hl => tailI_ints O1 l hl
  obtain ⟨la, cap, rfl, hla⟩ := O1.form
  have HLA : Hid (∀ k, k < n → ∃ g, la = some ⟨g, 0, none⟩ ∧ g < w1.heap.size ∧ w1.cell? ⟨g, k, none⟩ = some (.int .i64 (F k))) := Lib.hid (fun k hk => by
    obtain ⟨g, e, -, h2, h3⟩ := hla (by omega)
    exact ⟨g, e, h2, (h3 k hk).1⟩)
  have HTL := Lib.hid hTL
  clear HT hla O1 hTL
  go_wp2
  go_loopw [3, 13] (fun o i wr => ∃ (k : Nat) (l : List (Int × Int)), k ≤ n ∧ i = .int .i64 k ∧ Hid (l = allL F T n k) ∧ PF wr w1.heap.size o l.length (LP l) ∧ Below w1.heap.size w1 wr) (fun _ i _ => n - (intOf i).toNat)
  case atStart => exact ⟨0, [], Nat.zero_le _, rfl, Lib.hid rfl, PF.nil _ _ _, Below.refl _ _⟩
  case round =>
    obtain ⟨k, l, hk, rfl, hl, rP, rc⟩ := hrel
    by_cases hlt : k < n
    · obtain ⟨g, rfl, hgl, hcl⟩ := HLA.out k hlt
      have hca := (rc.cell (p := ⟨g, k, none⟩) hgl).trans hcl
      obtain ⟨A, hA⟩ : ∃ A, F k = A := ⟨_, rfl⟩
      rw [hA] at hca
      have HFA := Lib.hid hA
      have i0 : (0 : Int) ≤ (k : Int) := by omega
      have i1 : (k : Int) < (n : Int) := by omega
      obtain ⟨a2, cap2, hsl, hct⟩ := HTL.out (k + 1) (by omega)
      rw [show ((k + 1 : Nat) : Int) = (k : Int) + 1 by omega] at hsl
      obtain ⟨N2, hN2⟩ : ∃ N2, n - (k + 1) = N2 := ⟨_, rfl⟩
      rw [hN2] at hsl hct
      have HC2 := Lib.hid hct
      have HN2 := Lib.hid hN2
      have hN3 : N2 ≤ 300 := by omega
      clear hct hN2 hcl hA
      go_wp2
      clear hca hsl
      go_loopw [3, 23] (fun o i wr => ∃ (d : Nat) (l : List (Int × Int)), d ≤ N2 ∧ i = .int .i64 d ∧ Hid (l = allL F T n k ++ rowL F T k (k + 1 + d)) ∧ PF wr w1.heap.size o l.length (LP l) ∧ Below w1.heap.size w1 wr) (fun _ i _ => N2 - (intOf i).toNat)
      case atStart => exact ⟨0, l, Nat.zero_le _, rfl, Lib.hid (by rw [rowL_skip (k + 1 + 0) (Nat.le_refl _), List.append_nil]; exact hl.out), rP, rc⟩
      case round =>
        clear rP rc hl
        obtain ⟨d, l, hd, rfl, hl, rP, rc⟩ := hrel
        by_cases hdl : d < N2
        · obtain ⟨x2, rfl, hx2, hc2⟩ := HC2.out d hdl
          have hcd : _ = some (Value.int .i64 (F (k + 1 + d))) := (rc.cell (p := x2.add d) (by rw [addI_block]; exact hx2)).trans hc2
          obtain ⟨j, hj⟩ : ∃ j, k + 1 + d = j := ⟨_, rfl⟩
          have hkj : k < j := by omega
          have hjn : j < n := by have := HN2.out; omega
          have hpf := fun w => HP.out k j hkj hjn w
          have hln : l.length ≤ 1048576 := by have h1 := HL.out k; have h2 := HR.out k (k + 1 + d); have h3 := congrArg List.length hl.out; rw [List.length_append] at h3; omega
          rw [hj] at hcd hl
          obtain ⟨D, hD⟩ : ∃ a, F j = a := ⟨_, rfl⟩
          rw [hD] at hcd
          simp only [HFA.out, hD] at hpf
          have hy1 := fun h => rowL_yes (F := F) (T := T) (k := k) (j := j) hkj h
          have hy0 := fun h => rowL_no (F := F) (T := T) (k := k) (j := j) h
          obtain ⟨y, hy⟩ : ∃ y, T k j = y := ⟨_, rfl⟩
          rw [hy] at hy1 hy0
          simp only [hy] at hpf
          rw [HFA.out, hD] at hy1
          have HY1 := Lib.hid hy1
          have HY0 := Lib.hid hy0
          have HPF := Lib.hid hpf
          have HJ : Hid (k + 1 + (d + 1) = j + 1) := Lib.hid (by omega)
          have j0 : (0 : Int) ≤ (d : Int) := by omega
          have j1 : (d : Int) < (N2 : Int) := by omega
          clear hpf hy hD hy1 hy0 hj hc2 hkj hjn
          go_wp2_with fail
          refine (HPF.out _).mono ?_
          rintro e w5 ⟨rfl, hb⟩
          have c5 := below_then rc (Nat.le_refl _) hb
          have P5 := rP.below hb
          clear hb rc rP hcd HPF
          cases y with
          | false =>
            have HX := Lib.hid (show l = allL F T n k ++ rowL F T k (k + 1 + (d + 1)) by rw [HJ.out, HY0.out rfl]; exact hl.out)
            clear hl HY1 HY0 HJ
            go_wp2
            go_roundw
            case rel => exact ⟨d + 1, l, by omega, by go_num, HX, P5, c5⟩
            case measure => simp [intOf]; omega
          | true =>
            have HX := Lib.hid (show l ++ [(A, D)] = allL F T n k ++ rowL F T k (k + 1 + (d + 1)) by rw [HJ.out, HY1.out rfl, ← List.append_assoc, ← hl.out])
            clear hl HY1 HY0 HJ
            go_wp2_with (at_builtin; refine wpList_append_pair rfl (.tmp 31) (.tmp 35) rfl w1.heap.size _ l.length (LP l) rfl (P5.alloc _) w5.heap.size 1 A D rfl (by simp) (by simp) hln (by have := c5.size; simp; omega) ?_; intro v' w7 P7 g7 h7)
            have c7 : Below w1.heap.size w1 w7 := (c5.alloc c5.size _).grown g7 (by have := c5.size; simp; omega) (fun c hc => (P5.lt c hc).1)
            clear c5 P5 g7 h7
            go_wp2
            go_roundw
            case rel => exact ⟨d + 1, l ++ [(A, D)], by omega, by go_num, HX, P7.snocL, c7⟩
            case measure => simp [intOf]; omega
        · obtain rfl : d = N2 := by omega
          have HX := Lib.hid (show l = allL F T n (k + 1) by rw [hl.out, show k + 1 + d = n by have := HN2.out; omega]; rfl)
          clear hl
          go_wp2
          go_roundw
          case rel => exact ⟨k + 1, l, by omega, by go_num, HX, rP, rc⟩
          case measure => simp [intOf]; omega
    · obtain rfl : k = n := by omega
      go_wp2
      go_ret
      exact ⟨_, rfl, by rw [← hl.out]; exact rP.mono b1.size, below_then b1 (Nat.le_refl _) rc⟩
theorem bothPairs (S : Int) : ∃ l : List (Int × Int), l.length ≤ 90000 ∧
    (∀ w, Calls Try.prog 6 #[.int .i64 S] w fun e w' => ∃ v, e = .returned v ∧ PF w' w.heap.size v l.length (LP l) ∧ Below w.heap.size w w') ∧
    (∀ w, Calls Try.prog 7 #[.int .i64 S] w fun e w' => ∃ v, e = .returned v ∧ PF w' w.heap.size v l.length (LP l) ∧ Below w.heap.size w w') := by
  by_cases h28 : 2 ≤ S ∧ S ≤ 8
  · obtain ⟨s, rfl⟩ : ∃ s : Nat, S = s := ⟨S.toNat, by omega⟩
    obtain ⟨n, F, ⟨hn, hin, -, hup⟩, hs, hi⟩ := tapsL s (by omega) (by omega)
    obtain ⟨M, hM, hMP⟩ := maxIsP
    have htb : ∀ j, j < n → tapsB s (F j) = true ∧ M s (F j) = true := fun j hj => by
      obtain ⟨t, e, hp⟩ := hin j hj
      have h1 := hp.1
      have ht : tapsB s t = true := (tapsB_iff _ _).2 ⟨by have := h1.lo; omega, by have := h1.hi; omega, by have := h1.tap; omega, by rw [Int.toNat_natCast]; have := h1.tapLt; omega⟩
      rw [e]
      exact ⟨ht, (hMP s t ht).2 hp⟩
    by_cases h6 : s ≤ 6
    · refine ⟨allL F (fun i j => prefT s (F i) (F j)) n n, ?_, fun w => sPairs_of s n F _ w (by omega) (by omega) hs (fun i j hi hj w => l3Pref_any s (F i) (F j) w (htb i hi).1 (htb j hj).1), fun w => iPairs_of s n F _ w (by omega) hi (fun i j hij hj w => ?_)⟩
      · have := allL_len F (fun i j => prefT s (F i) (F j)) n (by omega) n; omega
      · have h := iPref_any M hM s (F i) (F j) w
        have hne : (F i != F j) = true := by have := hup i j hij hj; simp; omega
        rw [show prefB M s (F i) (F j) = prefT s (F i) (F j) by unfold prefB; rw [(bothB_iff M s (F i) (F j)).2 ⟨by omega, (htb i (by omega)).2, (htb j hj).2⟩, hne]; rfl] at h
        exact h
    · have hnone := allL_none (F := F) (T := fun _ _ => false) (n := n) (fun _ _ _ _ => rfl) n
      refine ⟨allL F (fun _ _ => false) n n, ?_, fun w => sPairs_none s _ hnone w (by omega), fun w => iPairs_of s n F _ w (by omega) hi (fun i j hij hj w => ?_)⟩
      · rw [hnone]; simp
      · have h := iPref_any M hM s (F i) (F j) w
        rw [show prefB M s (F i) (F j) = false by unfold prefB; cases hb : bothB M s (F i) (F j) with | false => rfl | true => exact absurd ((bothB_iff _ _ _ _).1 hb).1 (by omega)] at h
        exact h
  · obtain ⟨hs, hi⟩ := tapsNone S h28
    refine ⟨allL (fun _ => 0) (fun _ _ => false) 0 0, Nat.zero_le _, fun w => ?_, fun w => iPairs_of S 0 _ _ w (by omega) hi (fun i j _ hj => absurd hj (Nat.not_lt_zero j))⟩
    by_cases h6 : S ≤ 6
    · exact sPairs_of S 0 _ _ w h6 (by omega) hs (fun i j hi => absurd hi (Nat.not_lt_zero i))
    · exact sPairs_none S _ rfl w (by omega)
end Go.Proofs.Ytmlmpekhcnjehaa
namespace Go.Proofs.Ytmlmpekhcnjehaa
open Go.RowKit
set_option linter.unusedVariables false
set_option maxRecDepth 100000
/-- The bits from a state on, as the digits of a number. -/
def seqM (s t : Nat) : Nat → Nat → Nat
  | 0, _ => 0
  | f + 1, x => match stepT s t x with
    | 0 => x % 2
    | y + 1 => x % 2 + 2 * seqM s t f (y + 1)
theorem seqM_step {s t f x y : Nat} (h : stepT s t x = y + 1) : seqM s t (f + 1) x = x % 2 + 2 * seqM s t f (y + 1) := by simp only [seqM, h]
theorem seqM_bit {s t N : Nat} (h : MaxF s t N) : ∀ f k i, i < f → bitN (seqM s t f (stepsN s t k 1)) i = stepsN s t (k + i) 1 % 2
  | 0, k, i, hi => absurd hi (Nat.not_lt_zero i)
  | f + 1, k, i, hi => by
    have e : stepT s t (stepsN s t k 1) = stepsN s t (k + 1) 1 := stepT_eq (by have h1 := (h.reg.steps k).lt; have h2 := tw_le s h.reg.hi; omega)
    have h1 := (h.bd (k + 1)).1
    obtain ⟨y, hy⟩ : ∃ y, stepsN s t (k + 1) 1 = y + 1 := ⟨stepsN s t (k + 1) 1 - 1, by omega⟩
    rw [hy] at e
    rw [seqM_step e, ← hy]
    cases i with
    | zero =>
      rw [bitN_zero]
      show (stepsN s t k 1 % 2 + 2 * seqM s t f (stepsN s t (k + 1) 1)) % 2 = stepsN s t k 1 % 2
      rw [Nat.add_mul_mod_self_left, Nat.mod_mod]
    | succ i =>
      rw [← bitN_half, show (stepsN s t k 1 % 2 + 2 * seqM s t f (stepsN s t (k + 1) 1)) / 2 = seqM s t f (stepsN s t (k + 1) 1) by omega, seqM_bit h f (k + 1) i (by omega), show k + 1 + i = k + (i + 1) by omega]
def maxT : Nat → List Nat
  | 2 => [3]
  | 3 => [3, 5]
  | 4 => [3, 9]
  | 5 => [5, 9, 15, 23, 27, 29]
  | 6 => [3, 27, 33, 39, 45, 51]
  | _ => []
def okPair (N M M' : Nat) : Bool := (List.range N).any (fun k => Nat.blt 0 k && (List.range N).any (fun d => (List.range N).all (fun i => Nat.beq (bitN M' i) (bitN M ((k * ((d + i) % N)) % N)))))
def okTurn (N M R : Nat) : Bool := (List.range N).any (fun d => (List.range N).all (fun i => Nat.beq (bitN M (N - 1 - i)) (bitN R ((d + i) % N))))
def famOk (s t t' : Nat) : Bool := match seqM s t (2 ^ s - 1) 1 with
  | 0 => false
  | M + 1 => match seqM s t' (2 ^ s - 1) 1 with
    | 0 => false
    | M' + 1 => okPair (2 ^ s - 1) (M + 1) (M' + 1)
def turnOk (s t : Nat) : Bool := match seqM s t (2 ^ s - 1) 1 with
  | 0 => false
  | M + 1 => match revN s t (s - 1) with
    | 0 => false
    | m + 1 => match seqM s (m + 1) (2 ^ s - 1) 1 with
      | 0 => false
      | R + 1 => okTurn (2 ^ s - 1) (M + 1) (R + 1)
theorem maxT_all : (List.range 7).all (fun s => Nat.blt s 2 || (List.range (2 ^ s)).all (fun t => !(chk s t (2 ^ s - 1) 1) || (maxT s).any (fun u => Nat.beq u t))) = true := by kernel_rfl
theorem fam_all : (List.range 7).all (fun s => (maxT s).all (fun t => (maxT s).all (fun t' => famOk s t t'))) = true := by kernel_rfl
theorem turn_all : (List.range 7).all (fun s => (maxT s).all (fun t => turnOk s t)) = true := by kernel_rfl
theorem odd_all : (List.range 7).all (fun s => (maxT s).all (fun t => Nat.beq (t % 2) 1)) = true := by kernel_rfl
theorem maxT_in {s t : Nat} (h6 : s ≤ 6) (h : MaxP s t) : t ∈ maxT s := by
  have h1 := List.all_eq_true.1 maxT_all s (List.mem_range.2 (by omega))
  simp only [Bool.or_eq_true] at h1
  rcases h1 with h1 | h1
  · have := Nat.le_of_ble_eq_true h1; have := h.1.lo; omega
  · have h2 := List.all_eq_true.1 h1 t (List.mem_range.2 h.1.tapLt)
    have h3 : chk s t (2 ^ s - 1) 1 = true := (maxP_chk h.1).1 h
    rw [h3] at h2
    simp only [Bool.not_true, Bool.false_or, List.any_eq_true] at h2
    obtain ⟨u, hu, e⟩ := h2
    exact Nat.eq_of_beq_eq_true e ▸ hu
theorem odd_max {s t : Nat} (h6 : s ≤ 6) (h : MaxP s t) : t % 2 = 1 :=
  Nat.eq_of_beq_eq_true (List.all_eq_true.1 (List.all_eq_true.1 odd_all s (List.mem_range.2 (by omega))) t (maxT_in h6 h))
theorem per_bit {s t : Nat} (h : MaxP s t) (i : Nat) (hi : i < tw s - 1) : zb (perS s t) i = 48 + bitN (seqM s t (tw s - 1) 1) i := by
  have := seqM_bit h.facts (tw s - 1) 0 i hi
  rw [Nat.zero_add] at this
  rw [show seqM s t (tw s - 1) 1 = seqM s t (tw s - 1) (stepsN s t 0 1) from rfl, this]
  unfold perS
  rw [Int.toNat_natCast, Int.toNat_natCast]
  exact zb_run hi
theorem per_len {s t : Nat} : (perS (s : Int) (t : Int)).size = tw s - 1 := by unfold perS; rw [runS_size, Int.toNat_natCast]
theorem between_is {a b : ByteArray} (hp : pairB a b = true) {d : Nat} (hd : d < a.size) (h : shift a (d : Nat) = b) : (betweenAns a b).2 = true := by
  have hb : betweenN a b < a.size := by
    refine Classical.byContradiction fun hn => ?_
    exact betweenN_no a b d (by omega) h
  unfold betweenAns
  rw [hp, decide_eq_true hb]; rfl
/-- Some decimation of one is a shift of the other. -/
theorem fam_some {s t t' : Nat} (h6 : s ≤ 6) (h : MaxP s t) (h' : MaxP s t') : ∃ k, 0 < k ∧ k < tw s - 1 ∧ ∃ d, d < tw s - 1 ∧ shift (decS (perS s t) k) (d : Nat) = perS s t' := by
  have h4 := tw_four s h.1.lo
  have h1 := List.all_eq_true.1 (List.all_eq_true.1 (List.all_eq_true.1 fam_all s (List.mem_range.2 (by omega))) t (maxT_in h6 h)) t' (maxT_in h6 h')
  unfold famOk at h1
  match hM : seqM s t (2 ^ s - 1) 1 with
  | 0 => rw [hM] at h1; cases h1
  | M + 1 =>
    match hM' : seqM s t' (2 ^ s - 1) 1 with
    | 0 => rw [hM, hM'] at h1; cases h1
    | M' + 1 =>
      rw [hM, hM'] at h1
      have h2 : okPair (2 ^ s - 1) (M + 1) (M' + 1) = true := h1
      have q1 : M + 1 = seqM s t (2 ^ s - 1) 1 := hM.symm
      have q2 : M' + 1 = seqM s t' (2 ^ s - 1) 1 := hM'.symm
      rw [q1, q2] at h2
      unfold okPair at h2
      obtain ⟨k, hk, h3⟩ := List.any_eq_true.1 h2
      simp only [Bool.and_eq_true] at h3
      obtain ⟨h0, h3⟩ := h3
      obtain ⟨d, hd, h4'⟩ := List.any_eq_true.1 h3
      have k0 : 0 < k := Nat.le_of_ble_eq_true h0
      have kN : k < tw s - 1 := List.mem_range.1 hk
      have dN : d < tw s - 1 := List.mem_range.1 hd
      refine ⟨k, k0, kN, d, dN, ?_⟩
      have hz : (decS (perS s t) k).size = tw s - 1 := by rw [decS_size, per_len]
      refine ba_ext (by rw [shift_size, hz, per_len]) fun i hi => ?_
      rw [shift_size, hz] at hi
      rw [zb_shift _ _ _ (by rw [hz]; exact hi), hz, modN_of_nat, Nat.mod_eq_of_lt dN, zb_decS _ _ _ (by rw [per_len]; exact Nat.mod_lt _ (by omega)), per_len, per_bit h _ (Nat.mod_lt _ (by omega)), per_bit h' i hi]
      have h5 := Nat.eq_of_beq_eq_true (List.all_eq_true.1 h4' i (List.mem_range.2 hi))
      show 48 + bitN (seqM s t (2 ^ s - 1) 1) (k * ((d + i) % (2 ^ s - 1)) % (2 ^ s - 1)) = 48 + bitN (seqM s t' (2 ^ s - 1) 1) i
      rw [h5]
/-- The sequence of reversed taps is a shift of the reversed one. -/
theorem turn_some {s t m : Nat} (h6 : s ≤ 6) (h : MaxP s t) (hm : revN s t (s - 1) = m) (h' : MaxP s m) : ∃ d, d < tw s - 1 ∧ shift (perS s m) (d : Nat) = revS (perS s t) := by
  have h4 := tw_four s h.1.lo
  have h1 := List.all_eq_true.1 (List.all_eq_true.1 turn_all s (List.mem_range.2 (by omega))) t (maxT_in h6 h)
  unfold turnOk at h1
  match hM : seqM s t (2 ^ s - 1) 1 with
  | 0 => rw [hM] at h1; cases h1
  | M + 1 =>
    match m, hm with
    | 0, hm => rw [hM, hm] at h1; cases h1
    | m + 1, hm =>
      match hR : seqM s (m + 1) (2 ^ s - 1) 1 with
      | 0 => rw [hM, hm] at h1; dsimp only at h1; rw [hR] at h1; cases h1
      | R + 1 =>
        rw [hM, hm] at h1
        dsimp only at h1
        rw [hR] at h1
        have h2 : okTurn (2 ^ s - 1) (M + 1) (R + 1) = true := h1
        have q1 : M + 1 = seqM s t (2 ^ s - 1) 1 := hM.symm
        have q2 : R + 1 = seqM s (m + 1) (2 ^ s - 1) 1 := hR.symm
        rw [q1, q2] at h2
        unfold okTurn at h2
        obtain ⟨d, hd, h3⟩ := List.any_eq_true.1 h2
        have dN : d < tw s - 1 := List.mem_range.1 hd
        refine ⟨d, dN, ?_⟩
        refine ba_ext (by rw [shift_size, revS_size, per_len, per_len]) fun i hi => ?_
        rw [shift_size, per_len] at hi
        rw [zb_shift _ _ _ (by rw [per_len]; exact hi), per_len, modN_of_nat, Nat.mod_eq_of_lt dN, zb_revS _ _ (by rw [per_len]; exact hi), per_len, per_bit h' _ (Nat.mod_lt _ (by omega)), per_bit h _ (by omega)]
        have h5 := Nat.eq_of_beq_eq_true (List.all_eq_true.1 h3 i (List.mem_range.2 hi))
        show 48 + bitN (seqM s (m + 1) (2 ^ s - 1) 1) ((d + i) % (2 ^ s - 1)) = 48 + bitN (seqM s t (2 ^ s - 1) 1) (2 ^ s - 1 - 1 - i)
        rw [h5]
end Go.Proofs.Ytmlmpekhcnjehaa
namespace Go.Proofs.Ytmlmpekhcnjehaa
open Go.RowKit
set_option linter.unusedVariables false
set_option maxRecDepth 100000
theorem lt_tw (s : Nat) (h : 2 ≤ s) : s ≤ tw s - 1 := by
  have : s < 2 ^ s := Nat.lt_two_pow_self
  unfold tw; omega
theorem ssWal3 (w : World) : Calls Try.prog 22 #[.int .i64 3, .int .i64 0] w fun e w' => e = .returned (.string (strF 8 (fun _ => 48))) ∧ Below w.heap.size w w' := by
  have := ssWal_any 3 0 w
  rw [show (walshAns 3 0).1 = strF 8 (fun _ => 48) by kernel_rfl] at this
  exact this
theorem drawMSeq_any (a : Option Addr) (len cap : Nat) (zs : List Int) (w : World) (h : IsBytes w a len cap zs) :
    Calls Try.prog 14 #[.slice a len cap] w fun e w' => ∃ S T : Int, e = .returned (.tuple #[.int .i64 S, .int .i64 T]) ∧ Below w.heap.size w w' := by
  go_enter Try.func14, Try.ntmps14
  go_wp2_with fail
  refine (open_any a len cap zs _ h).mono ?_
  rintro e w1 ⟨b, ys, rfl, hr, hb, hlb⟩
  clear h
  go_wp2_with fail
  refine (l3Taps_any b 0 ys _ hr (by omega)).mono ?_
  rintro e w2 ⟨S, A, D, q, rfl, hq, r2, g2⟩
  have b2 := below_grown hb (Nat.le_refl _) g2 hlb
  clear hr r2 g2 hb
  go_wp2
  refine bodyPost_ret (v := .tuple #[.int .i64 S, .int .i64 A]) (by simp [results, Try.results14, go_sem]) rfl ⟨S, A, rfl, b2⟩
theorem first_bits {s t : Nat} (h2 : 2 ≤ s) (h6 : s ≤ 6) : (perS s t).extract 0 s = (⟨#[49]⟩ : ByteArray) ++ (strF 8 (fun _ => 48)).extract 0 (s - 1) := by
  have hl := lt_tw s h2
  have hp : (perS (s : Int) (t : Int)).size = tw s - 1 := per_len
  have h8 : (strF 8 (fun _ => 48)).size = 8 := strF_size _ _
  have e1 := size_extract (perS (s : Int) (t : Int)) 0 s (by omega)
  have e2 := size_extract (strF 8 (fun _ => 48)) 0 (s - 1) (by omega)
  have e3 : (⟨#[49]⟩ : ByteArray).size = 1 := rfl
  refine ba_ext (by rw [e1, ByteArray.size_append, e2, e3]; omega) fun i hi => ?_
  rw [e1] at hi
  rw [zb_extract _ _ _ _ (by omega) (by omega)]
  have hz : zb (perS (s : Int) (t : Int)) (0 + i) = 48 + bitN 1 i := by
    unfold perS
    rw [Int.toNat_natCast, Int.toNat_natCast, Nat.zero_add, zb_run (by omega), first_bit i (by omega)]
  rw [hz]
  cases i with
  | zero => rw [zb_append_left _ _ _ (by rw [e3]; omega)]; rfl
  | succ i =>
    rw [zb_append_right _ _ _ (by rw [e3]; omega) (by rw [e3, e2]; omega), e3, zb_extract _ _ _ _ (by omega) (by omega), zb_strF (by omega) (by omega)]
    rw [bitN_big 1 (i + 1) (by have := tw_pos i; have := tw_succ i; omega)]
end Go.Proofs.Ytmlmpekhcnjehaa
namespace Go.Proofs.Ytmlmpekhcnjehaa
open Go.RowKit
set_option linter.unusedVariables false
set_option maxHeartbeats 3200000 in
set_option maxRecDepth 100000 in
theorem fnMaximalFamily_walk (a0 : Option Addr) (len0 cap0 : Nat) (z0 : List Int) (a1 : Option Addr) (len1 cap1 : Nat) (z1 : List Int) (w : World) (w0 : IsBytes w a0 len0 cap0 z0) (w1 : IsBytes w a1 len1 cap1 z1) :
    Calls Try.prog 5 #[.slice a0 len0 cap0, .slice a1 len1 cap1] w fun e w' => e = .returned (.bool true) ∧ Below w.heap.size w w' := by
  by_cases hl0 : 1048576 < len0
  · go_enter Try.func5, Try.ntmps5
    go_wp2
    go_ret
    exact ⟨rfl, Below.refl _ _⟩
  by_cases hl1 : 1048576 < len1
  · go_enter Try.func5, Try.ntmps5
    go_wp2
    go_ret
    exact ⟨rfl, Below.refl _ _⟩
  clear w1
  obtain ⟨M, hM, hMP⟩ := maxIsP
  go_enter Try.func5, Try.ntmps5
  go_wp2_with fail
  refine (drawMSeq_any a0 len0 cap0 z0 _ w0).mono ?_
  rintro e W1 ⟨S, T, rfl, bc⟩
  clear w0
  have hi := fun w => iMaxSeq_any M hM S T w
  have hs := fun w => sMaxSeq_any M hM S T w
  have hm := (hM S T).2.2
  unfold mseqAns at hi hs
  cases hb : M S T with
  | false =>
    rw [hb] at hi hs hm
    simp only [Bool.false_eq_true, if_false, noS] at hi hs
    clear hb hM hMP
    have HI := Lib.hid hi
    have HS := Lib.hid hs
    have HM := Lib.hid hm
    clear hi hs hm
    go_wp2_with fail
    refine (HI.out _).mono ?_
    rintro e w1 ⟨rfl, hb2⟩
    have b3 := below_then bc (Nat.le_refl _) hb2
    clear bc hb2
    go_wp2_with fail
    refine (HS.out _).mono ?_
    rintro e w4 ⟨rfl, hb5⟩
    have b6 := below_then b3 (Nat.le_refl _) hb5
    clear b3 hb5
    go_wp2_with fail
    refine (HM.out _).mono ?_
    rintro e w7 ⟨rfl, hb8⟩
    have b9 := below_then b6 (Nat.le_refl _) hb8
    clear b6 hb8
    go_wp2_with fail
    refine (HM.out _).mono ?_
    rintro e w10 ⟨rfl, hb11⟩
    have b12 := below_then b9 (Nat.le_refl _) hb11
    clear b9 hb11
    go_wp2
    go_ret
    exact ⟨rfl, b12⟩
  | true =>
    rw [hb] at hi hs hm
    simp only [if_true] at hi hs
    have tb := (hM S T).1 hb
    obtain ⟨s2, s8, t1, t2⟩ := (tapsB_iff S T).1 tb
    by_cases h6 : 6 < S
    · skip
      obtain ⟨X, hX⟩ : ∃ X, perS S T = X := ⟨_, rfl⟩
      rw [hX] at hi hs
      clear hb hM hMP hX tb t1 t2
      have HI := Lib.hid hi
      have HS := Lib.hid hs
      have HM := Lib.hid hm
      clear hi hs hm
      go_wp2_with fail
      refine (HI.out _).mono ?_
      rintro e w13 ⟨rfl, hb14⟩
      have b15 := below_then bc (Nat.le_refl _) hb14
      clear bc hb14
      go_wp2_with fail
      refine (HS.out _).mono ?_
      rintro e w16 ⟨rfl, hb17⟩
      have b18 := below_then b15 (Nat.le_refl _) hb17
      clear b15 hb17
      go_wp2_with fail
      refine (HM.out _).mono ?_
      rintro e w19 ⟨rfl, hb20⟩
      have b21 := below_then b18 (Nat.le_refl _) hb20
      clear b18 hb20
      go_wp2_with fail
      refine (HM.out _).mono ?_
      rintro e w22 ⟨rfl, hb23⟩
      have b24 := below_then b21 (Nat.le_refl _) hb23
      clear b21 hb23
      go_wp2
      go_ret
      exact ⟨rfl, b24⟩
    · skip
      obtain ⟨s, rfl⟩ : ∃ s : Nat, S = s := ⟨S.toNat, by omega⟩
      obtain ⟨t, rfl⟩ : ∃ t : Nat, T = t := ⟨T.toNat, by omega⟩
      rw [Int.toNat_natCast] at t2
      have hP := (hMP s t tb).1 hb
      have h6' : s ≤ 6 := by omega
      have h2' : 2 ≤ s := by omega
      have h8' : s ≤ 8 := by omega
      obtain ⟨n, F, ⟨hn, hin, hhas, -⟩, -, hT⟩ := tapsL s h2' h8'
      have n1 : 1 ≤ n := by obtain ⟨j, hj, -⟩ := hhas t hP; omega
      obtain ⟨R, hR⟩ : ∃ R, len1 % n = R := ⟨_, rfl⟩
      have hRn : R < n := by rw [← hR]; exact Nat.mod_lt _ (by omega)
      have tm : (len1 : Int).tmod (n : Int) = (R : Int) := by rw [Int.tmod_eq_emod_of_nonneg (by omega), ← hR, Int.natCast_emod]
      have z0 : ¬ ((n : Int) = 0) := by omega
      have z1 : ((n : Int) == 0) = false := by rw [beq_eq_false_iff_ne]; omega
      have z2 : ¬ n = 0 := by omega
      obtain ⟨u, hFu, hPu⟩ := hin R hRn
      have htw := tw_le s h8'
      have ht4 := tw_four s h2'
      have tbu : tapsB s u = true := (tapsB_iff _ _).2 ⟨by omega, by omega, by have := hPu.1.tap; omega, by rw [Int.toNat_natCast]; have := hPu.1.tapLt; omega⟩
      have hu := fun w => iMaxSeq_any M hM s u w
      rw [show mseqAns M s u = (perS s u, true) by unfold mseqAns; rw [if_pos ((hMP s u tbu).2 hPu)]] at hu
      have ho : t % 2 = 1 := odd_max h6' hP
      have hrv := rev_facts h2' h8' (by omega) ho
      obtain ⟨m, hm0⟩ : ∃ m, revN s t (s - 1) = m := ⟨_, rfl⟩
      rw [hm0] at hrv
      have hPm := hrv.max.2 hP
      have tbm : tapsB s m = true := (tapsB_iff _ _).2 ⟨by omega, by omega, by have := hPm.1.tap; omega, by rw [Int.toNat_natCast]; have := hPm.1.tapLt; omega⟩
      have hrt : ∀ w, Calls Try.prog 21 #[.int .i64 s, .int .i64 t] w fun e w' => e = .returned (.int .i64 (m : Nat)) ∧ Below w.heap.size w w' := fun w => (iReverse_yes s t w tb ho).mono fun e w' ⟨he, hw⟩ => ⟨hm0 ▸ he, hw ▸ Below.refl _ _⟩
      have hq := fun w => iMaxSeq_any M hM s m w
      rw [show mseqAns M s m = (perS s m, true) by unfold mseqAns; rw [if_pos ((hMP s m tbm).2 hPm)]] at hq
      obtain ⟨K0, k0, kN, dd, hdd, hsh⟩ := fam_some h6' hP hPu
      obtain ⟨de, hde, hsh2⟩ := turn_some h6' hP hm0 hPm
      have xs := perS_seq tb
      have ys := perS_seq tbu
      have qs := perS_seq tbm
      have xl := per_len (s := s) (t := t)
      have yl := per_len (s := s) (t := u)
      have ql := per_len (s := s) (t := m)
      have hrb := fun w => iRev_yes (perS s t) w xs
      have hsr : seqB (revS (perS s t)) = true := by
        have h1 := (seqB_iff _).1 xs
        refine (seqB_iff _).2 ⟨okB_of_zb _ fun i hi => ?_, by rw [revS_size]; exact h1.2.1, by rw [revS_size]; exact h1.2.2⟩
        rw [revS_size] at hi
        rw [zb_revS _ _ hi]; exact okB_zb _ h1.1 _ (by omega)
      have hb2 := fun w => iBetween_any (perS s m) (revS (perS s t)) w (by omega) (by rw [revS_size]; omega)
      rw [show (betweenAns (perS s m) (revS (perS s t))).2 = true from between_is ((pairB_iff _ _).2 ⟨qs, hsr, by rw [revS_size, ql, xl]⟩) (by rw [ql]; exact hde) hsh2] at hb2
      have hdc := fun k w (hk : k ≤ 255) => iDec_yes (perS s t) k w xs hk
      have hds : ∀ k, seqB (decS (perS s t) k) = true := fun k => by
        have h1 := (seqB_iff _).1 xs
        refine (seqB_iff _).2 ⟨okB_of_zb _ fun i hi => ?_, by rw [decS_size]; exact h1.2.1, by rw [decS_size]; exact h1.2.2⟩
        rw [decS_size] at hi
        rw [zb_decS _ _ _ hi]; exact okB_zb _ h1.1 _ (Nat.mod_lt _ (by omega))
      have hbt := fun k w => iBetween_any (decS (perS s t) k) (perS s u) w (by rw [decS_size]; omega) (by omega)
      have hby : (betweenAns (decS (perS s t) K0) (perS s u)).2 = true := between_is ((pairB_iff _ _).2 ⟨hds K0, ys, by rw [decS_size, xl, yl]⟩) (by rw [decS_size, xl]; exact hdd) hsh
      have hwl := fun w => ssWal3 w
      have hfirst : (perS s t).extract 0 s = (⟨#[49]⟩ : ByteArray) ++ (strF 8 (fun _ => 48)).extract 0 (s - 1) := first_bits h2' h6'
      obtain ⟨WZ, hWZ⟩ : ∃ Z, strF 8 (fun _ => 48) = Z := ⟨_, rfl⟩
      have hwz : WZ.size = 8 := by rw [← hWZ]; exact strF_size _ _
      simp only [hWZ] at hwl
      rw [hWZ] at hfirst
      have v9 : s ≤ WZ.size + 1 := by omega
      have v10 : ¬ (9223372036854775807 < 1 + (s - 1)) := by omega
      clear hWZ hwz
      obtain ⟨X, hX⟩ : ∃ X, perS s t = X := ⟨_, rfl⟩
      obtain ⟨Y, hY⟩ : ∃ X, perS s u = X := ⟨_, rfl⟩
      obtain ⟨Q, hQ⟩ : ∃ X, perS s m = X := ⟨_, rfl⟩
      rw [hX] at hi hs hrb hb2 hby hfirst xl
      simp only [hX] at hdc hbt
      rw [hY] at hu hby
      simp only [hY] at hbt
      rw [hQ] at hq hb2
      obtain ⟨V, hV⟩ : ∃ V, revS X = V := ⟨_, rfl⟩
      rw [hV] at hrb hb2
      obtain ⟨c2, hc2⟩ : ∃ c, (betweenAns Q V).1 = c := ⟨_, rfl⟩
      rw [hc2] at hb2
      obtain ⟨DC, hDC⟩ : ∃ G : Nat → ByteArray, (fun k => decS X k) = G := ⟨_, rfl⟩
      have hDC1 : ∀ k, decS X k = DC k := fun k => congrFun hDC k
      simp only [hDC1] at hdc hbt hby
      obtain ⟨CA, hCA⟩ : ∃ G : Nat → Int × Bool, (fun k => betweenAns (DC k) Y) = G := ⟨_, rfl⟩
      have hCA1 : ∀ k, betweenAns (DC k) Y = CA k := fun k => congrFun hCA k
      simp only [hCA1] at hbt hby
      have xsz : X.size = tw s - 1 := xl
      obtain ⟨N, hN⟩ : ∃ N, tw s - 1 = N := ⟨_, rfl⟩
      rw [hN] at xsz kN
      have hN9 : N ≤ 255 := by omega
      have hsN : s ≤ N := by have := lt_tw s h2'; omega
      have HXS := Lib.hid xsz
      have HFU := Lib.hid hFu
      have HBY := Lib.hid hby
      have HFI := Lib.hid hfirst
      clear hb hM hMP tb s2 s8 t1 t2 hP h8' hin hhas hR hPu htw ht4 tbu ho hrv hm0 hPm tbm hdd hsh hde hsh2 xs ys qs xl yl ql hsr hds hX hY hQ hV hc2 hDC hDC1 hCA hCA1 xsz hN hFu hby hfirst
      have HI := Lib.hid hi
      have HS := Lib.hid hs
      have HM := Lib.hid hm
      have HT := Lib.hid hT
      have HU := Lib.hid hu
      have HRT := Lib.hid hrt
      have HQ := Lib.hid hq
      have HRB := Lib.hid hrb
      have HB2 := Lib.hid hb2
      have HDC := Lib.hid hdc
      have HBT := Lib.hid hbt
      have HWL := Lib.hid hwl
      clear hi hs hm hT hu hrt hq hrb hb2 hdc hbt hwl
      go_wp2_with fail
      refine (HI.out _).mono ?_
      rintro e w25 ⟨rfl, hb26⟩
      have b27 := below_then bc (Nat.le_refl _) hb26
      clear bc hb26
      go_wp2_with fail
      refine (HS.out _).mono ?_
      rintro e w28 ⟨rfl, hb29⟩
      have b30 := below_then b27 (Nat.le_refl _) hb29
      clear b27 hb29
      go_wp2_with fail
      refine (HM.out _).mono ?_
      rintro e w31 ⟨rfl, hb32⟩
      have b33 := below_then b30 (Nat.le_refl _) hb32
      clear b30 hb32
      go_wp2_with fail
      refine (HT.out _).mono ?_
      rintro e w6 ⟨lv, rfl, L6, hb⟩
      have b34 := below_then b33 (Nat.le_refl _) hb
      clear b33 hb
      obtain ⟨la, lc, rfl, hla⟩ := L6.form
      obtain ⟨g, rfl, -, hgl, hcc⟩ := hla (by omega)
      have cz := (hcc R hRn).1
      rw [HFU.out] at cz
      have i0 : (0 : Int) ≤ (R : Int) := by omega
      have i1 : (R : Int) < (n : Int) := by omega
      clear L6 hla hcc hgl HI HS HM HT HFU
      go_wp2_with fail
      refine (HU.out _).mono ?_
      rintro e w35 ⟨rfl, hb36⟩
      have b37 := below_then b34 (Nat.le_refl _) hb36
      clear b34 hb36
      clear cz tm z0 z1 z2 i0 i1 HU
      have xsz := HXS.out
      go_wp2_with fail
      go_loopw [14, 15] (fun b i wr => ∃ (k : Nat) (y : Bool), 1 ≤ k ∧ k ≤ N ∧ i = .int .i64 k ∧ b = .bool y ∧ Hid (K0 < k → y = true) ∧ Below w.heap.size w wr) (fun _ i _ => N - (intOf i).toNat)
      case atStart => exact ⟨1, false, by omega, by omega, rfl, rfl, Lib.hid (fun h => by omega), b37⟩
      case round =>
        clear b37
        obtain ⟨k, y, k1, hk, rfl, rfl, hy, rb⟩ := hrel
        have xsz := HXS.out
        by_cases hlt : k < N
        · skip
          have j1 : (k : Int) < (X.size : Int) := by omega
          have hdk := fun w => HDC.out k w (by omega)
          have hbk := fun w => HBT.out k w
          have hyk : k = K0 → (CA k).2 = true := fun h => by rw [h]; exact HBY.out
          obtain ⟨DK, hDK⟩ : ∃ D, DC k = D := ⟨_, rfl⟩
          simp only [hDK] at hdk hbk
          obtain ⟨⟨ci, cb⟩, hci⟩ : ∃ c, CA k = c := ⟨_, rfl⟩
          simp only [hci] at hbk
          rw [hci] at hyk
          dsimp only at hyk
          have HYK := Lib.hid hyk
          clear hDK hci hyk
          have HDK := Lib.hid hdk
          have HBK := Lib.hid hbk
          clear hdk hbk
          go_wp2_with fail
          refine (HDK.out _).mono ?_
          rintro e w38 ⟨rfl, hb39⟩
          have b40 := below_then rb (Nat.le_refl _) hb39
          clear rb hb39
          clear j1
          go_wp2_with fail
          refine (HBK.out _).mono ?_
          rintro e w41 ⟨rfl, hb42⟩
          have b43 := below_then b40 (Nat.le_refl _) hb42
          clear b40 hb42
          cases y with
          | true =>
            have HN9 : Hid (K0 < k + 1 → true = true) := Lib.hid (fun _ => rfl)
            clear hy HYK
            go_wp2
            go_roundw
            case rel => exact ⟨k + 1, true, by omega, by omega, by go_num, rfl, Lib.hid (fun _ => rfl), b43⟩
            case measure => simp [intOf]; omega
          | false =>
            have HN9 : Hid (K0 < k + 1 → cb = true) := Lib.hid (fun h => (Nat.lt_or_ge K0 k).elim (fun h' => absurd (hy.out h') (by simp)) (fun h' => HYK.out (by omega)))
            clear hy HYK
            go_wp2
            go_roundw
            case rel => exact ⟨k + 1, cb, by omega, by omega, by go_num, rfl, HN9, b43⟩
            case measure => simp [intOf]; omega
        · skip
          obtain rfl : k = N := by omega
          obtain rfl := hy.out kN
          have j1 : ¬ ((k : Int) < (X.size : Int)) := by omega
          clear HDC HBT HBY hy
          go_wp2_with fail
          refine (HRB.out _).mono ?_
          rintro e w44 ⟨rfl, hb45⟩
          have b46 := below_then rb (Nat.le_refl _) hb45
          clear rb hb45
          clear j1 xsz
          go_wp2_with fail
          refine (HRT.out _).mono ?_
          rintro e w47 ⟨rfl, hb48⟩
          have b49 := below_then b46 (Nat.le_refl _) hb48
          clear b46 hb48
          go_wp2_with fail
          refine (HQ.out _).mono ?_
          rintro e w50 ⟨rfl, hb51⟩
          have b52 := below_then b49 (Nat.le_refl _) hb51
          clear b49 hb51
          go_wp2_with fail
          refine (HB2.out _).mono ?_
          rintro e w53 ⟨rfl, hb54⟩
          have b55 := below_then b52 (Nat.le_refl _) hb54
          clear b52 hb54
          have s0 : (0 : Int) ≤ (s : Int) := by omega
          have s1 : (s : Int) ≤ (X.size : Int) := by have h1 := HXS.out; omega
          have s3 : (0 : Int) ≤ (s : Int) - 1 := by omega
          have w8 : IntKind.i64.wrap ((s : Int) - 1) = ((s - 1 : Nat) : Int) := by rw [show (s : Int) - 1 = ((s - 1 : Nat) : Int) by omega]; exact IntWalk.i64_in _ (by omega)
          go_wp2_with fail
          refine wp_region_held_drew (S := (fun wx => True)) (by kernel_rfl) trivial (fun hHeld => ?_)
          refine wpAnyH_take (i := 0) (oi := { dst := some 145, op := Go.Op.move (Go.Operand.tmp 14), type := 4, pos := "laws.go:747", after := #[], guard := none }) (v := ?v0) rfl (by kernel_rfl) (by kernel_rfl) (by kernel_rfl) (fun _ _ _ h => h) (Or.inl ⟨by rfl, ?hy0⟩) (by assumption) ?rest0
          case hy0 => (intro w hSw; (try dsimp only at hSw); go_simp; try with_reducible rfl)
          try simp only [Act.put, List.setIfInBounds_toArray, List.set_cons_zero, List.set_cons_succ]
          refine wpAnyH_take (i := 1) (oi := { dst := some 146, op := Go.Op.move (Go.Operand.tmp 145), type := 4, pos := "laws.go:747", after := #[{ on := 0, ground := Go.Ground.data }], guard := none }) (v := ?v1) rfl (by kernel_rfl) (by kernel_rfl) (by kernel_rfl) (fun _ _ _ h => h) (Or.inl ⟨by rfl, ?hy1⟩) (by assumption) ?rest1
          case hy1 => (intro w hSw; (try dsimp only at hSw); go_simp; try with_reducible rfl)
          try simp only [Act.put, List.setIfInBounds_toArray, List.set_cons_zero, List.set_cons_succ]
          refine wpAnyH_take (i := 2) (oi := { dst := some 147, op := Go.Op.move (Go.Operand.tmp 23), type := 4, pos := "laws.go:747", after := #[{ on := 1, ground := Go.Ground.guard }], guard := some (1, true) }) (v := ?v2) rfl (by kernel_rfl) (by kernel_rfl) (by kernel_rfl) (fun _ _ _ h => h) (Or.inl ⟨by rfl, ?hy2⟩) (by assumption) ?rest2
          case hy2 => (intro w hSw; (try dsimp only at hSw); go_simp; try with_reducible rfl)
          try simp only [Act.put, List.setIfInBounds_toArray, List.set_cons_zero, List.set_cons_succ]
          refine wpAnyH_take (i := 3) (oi := { dst := some 148, op := Go.Op.pick (Go.Operand.tmp 146) (Go.Operand.tmp 147) (Go.Operand.const (Go.Value.bool false)), type := 4, pos := "laws.go:747", after := #[{ on := 1, ground := Go.Ground.data }, { on := 2, ground := Go.Ground.data }], guard := none }) (v := ?v3) rfl (by kernel_rfl) (by kernel_rfl) (by kernel_rfl) (fun _ _ _ h => h) (Or.inl ⟨by rfl, ?hy3⟩) (by assumption) ?rest3
          case hy3 => (intro w hSw; (try dsimp only at hSw); go_simp; try with_reducible rfl)
          try simp only [Act.put, List.setIfInBounds_toArray, List.set_cons_zero, List.set_cons_succ]
          refine wpAnyH_take (i := 4) (oi := { dst := some 149, op := Go.Op.move (Go.Operand.tmp 148), type := 4, pos := "laws.go:747", after := #[{ on := 3, ground := Go.Ground.data }, { on := 1, ground := Go.Ground.chain }], guard := none }) (v := ?v4) rfl (by kernel_rfl) (by kernel_rfl) (by kernel_rfl) (fun _ _ _ h => h) (Or.inl ⟨by rfl, ?hy4⟩) (by assumption) ?rest4
          case hy4 => (intro w hSw; (try dsimp only at hSw); go_simp; try with_reducible rfl)
          try simp only [Act.put, List.setIfInBounds_toArray, List.set_cons_zero, List.set_cons_succ]
          refine wpAnyH_take (i := 5) (oi := { dst := some 150, op := Go.Op.move (Go.Operand.tmp 25), type := 4, pos := "laws.go:747", after := #[{ on := 4, ground := Go.Ground.guard }], guard := some (4, true) }) (v := ?v5) rfl (by kernel_rfl) (by kernel_rfl) (by kernel_rfl) (fun _ _ _ h => h) (Or.inl ⟨by rfl, ?hy5⟩) (by assumption) ?rest5
          case hy5 => (intro w hSw; (try dsimp only at hSw); go_simp; try with_reducible rfl)
          try simp only [Act.put, List.setIfInBounds_toArray, List.set_cons_zero, List.set_cons_succ]
          refine wpAnyH_take (i := 6) (oi := { dst := some 151, op := Go.Op.pick (Go.Operand.tmp 149) (Go.Operand.tmp 150) (Go.Operand.const (Go.Value.bool false)), type := 4, pos := "laws.go:747", after := #[{ on := 4, ground := Go.Ground.data }, { on := 5, ground := Go.Ground.data }], guard := none }) (v := ?v6) rfl (by kernel_rfl) (by kernel_rfl) (by kernel_rfl) (fun _ _ _ h => h) (Or.inl ⟨by rfl, ?hy6⟩) (by assumption) ?rest6
          case hy6 => (intro w hSw; (try dsimp only at hSw); go_simp; try with_reducible rfl)
          try simp only [Act.put, List.setIfInBounds_toArray, List.set_cons_zero, List.set_cons_succ]
          refine wpAnyH_take (i := 7) (oi := { dst := some 152, op := Go.Op.move (Go.Operand.tmp 151), type := 4, pos := "laws.go:747", after := #[{ on := 6, ground := Go.Ground.data }, { on := 4, ground := Go.Ground.chain }], guard := none }) (v := ?v7) rfl (by kernel_rfl) (by kernel_rfl) (by kernel_rfl) (fun _ _ _ h => h) (Or.inl ⟨by rfl, ?hy7⟩) (by assumption) ?rest7
          case hy7 => (intro w hSw; (try dsimp only at hSw); go_simp; try with_reducible rfl)
          try simp only [Act.put, List.setIfInBounds_toArray, List.set_cons_zero, List.set_cons_succ]
          refine wpAnyH_take (i := 8) (oi := { dst := some 153, op := Go.Op.move (Go.Operand.tmp 7), type := 9, pos := "laws.go:747", after := #[{ on := 7, ground := Go.Ground.guard }], guard := some (7, true) }) (v := ?v8) rfl (by kernel_rfl) (by kernel_rfl) (by kernel_rfl) (fun _ _ _ h => h) (Or.inl ⟨by rfl, ?hy8⟩) (by assumption) ?rest8
          case hy8 => (intro w hSw; (try dsimp only at hSw); go_simp; try with_reducible rfl)
          try simp only [Act.put, List.setIfInBounds_toArray, List.set_cons_zero, List.set_cons_succ]
          refine wpAnyH_take (i := 9) (oi := { dst := some 154, op := Go.Op.move (Go.Operand.tmp 5), type := 3, pos := "laws.go:747", after := #[{ on := 7, ground := Go.Ground.guard }], guard := some (7, true) }) (v := ?v9) rfl (by kernel_rfl) (by kernel_rfl) (by kernel_rfl) (fun _ _ _ h => h) (Or.inl ⟨by rfl, ?hy9⟩) (by assumption) ?rest9
          case hy9 => (intro w hSw; (try dsimp only at hSw); go_simp; try with_reducible rfl)
          try simp only [Act.put, List.setIfInBounds_toArray, List.set_cons_zero, List.set_cons_succ]
          refine wpAnyH_take (i := 10) (oi := { dst := some 155, op := Go.Op.slice 9 (Go.Operand.tmp 153) none (some (Go.Operand.tmp 154)) none, type := 9, pos := "laws.go:747", after := #[{ on := 8, ground := Go.Ground.data }, { on := 9, ground := Go.Ground.data }, { on := 7, ground := Go.Ground.guard }], guard := some (7, true) }) (v := ?v10) rfl (by kernel_rfl) (by kernel_rfl) (by kernel_rfl) (fun _ _ _ h => h) (Or.inl ⟨by rfl, ?hy10⟩) (by assumption) ?rest10
          case hy10 => (intro w hSw; (try dsimp only at hSw); go_simp; try with_reducible rfl)
          try simp only [Act.put, List.setIfInBounds_toArray, List.set_cons_zero, List.set_cons_succ]
          refine wpAnyH_take (i := 12) (oi := { dst := some 157, op := Go.Op.move (Go.Operand.tmp 5), type := 3, pos := "laws.go:747", after := #[{ on := 7, ground := Go.Ground.guard }], guard := some (7, true) }) (v := ?v12) rfl (by kernel_rfl) (by kernel_rfl) (by kernel_rfl) (fun _ _ _ h => h) (Or.inl ⟨by rfl, ?hy12⟩) (by assumption) ?rest12
          case hy12 => (intro w hSw; (try dsimp only at hSw); go_simp; try with_reducible rfl)
          try simp only [Act.put, List.setIfInBounds_toArray, List.set_cons_zero, List.set_cons_succ]
          refine wpAnyH_take (i := 13) (oi := { dst := some 158, op := Go.Op.binOp Go.BinOp.sub 3 (Go.Operand.tmp 157) (Go.Operand.const (Go.Value.int Go.IntKind.i64 1)) 3, type := 3, pos := "laws.go:747", after := #[{ on := 12, ground := Go.Ground.data }, { on := 7, ground := Go.Ground.guard }], guard := some (7, true) }) (v := ?v13) rfl (by kernel_rfl) (by kernel_rfl) (by kernel_rfl) (fun _ _ _ h => h) (Or.inl ⟨by rfl, ?hy13⟩) (by assumption) ?rest13
          case hy13 => (intro w hSw; (try dsimp only at hSw); go_simp; try with_reducible rfl)
          try simp only [Act.put, List.setIfInBounds_toArray, List.set_cons_zero, List.set_cons_succ]
          refine wpAnyH_ready (rs := [11]) (by kernel_rfl) (by simp) ?_
          refine AllReadyH.cons (o := { dst := some 156, op := Go.Op.call { callee := Go.Callee.value (Go.Operand.func 22), args := #[Go.Operand.const (Go.Value.int Go.IntKind.i64 3), Go.Operand.const (Go.Value.int Go.IntKind.i64 0)], argTypes := #[3, 3] }, type := 9, pos := "laws.go:747", after := #[{ on := 7, ground := Go.Ground.chain }, { on := 7, ground := Go.Ground.guard }], guard := some (7, true) }) rfl (fun K hK => ?_) AllReadyH.nil
          go_simp
          go_at_call 22
          refine (HWL.out _).mono ?_
          rintro e w9 ⟨rfl, hb⟩
          have b9 := below_then (below_drew b55) (Nat.le_refl _) hb
          refine hK.out _ _ trivial (fun hHeld => ?_)
          clear hK K
          try simp only [Act.put, List.setIfInBounds_toArray, List.set_cons_zero, List.set_cons_succ]
          refine wpAnyH_take (i := 14) (oi := { dst := some 159, op := Go.Op.slice 9 (Go.Operand.tmp 156) none (some (Go.Operand.tmp 158)) none, type := 9, pos := "laws.go:747", after := #[{ on := 11, ground := Go.Ground.data }, { on := 13, ground := Go.Ground.data }, { on := 7, ground := Go.Ground.guard }], guard := some (7, true) }) (v := ?v14) rfl (by kernel_rfl) (by kernel_rfl) (by kernel_rfl) (fun _ _ _ h => h) (Or.inl ⟨by rfl, ?hy14⟩) (by assumption) ?rest14
          case hy14 => (intro w hSw; (try dsimp only at hSw); go_simp; try with_reducible rfl)
          try simp only [Act.put, List.setIfInBounds_toArray, List.set_cons_zero, List.set_cons_succ]
          refine wpAnyH_take (i := 15) (oi := { dst := some 160, op := Go.Op.binOp Go.BinOp.add 9 (Go.Operand.const (Go.Value.string { data := #[49] })) (Go.Operand.tmp 159) 9, type := 9, pos := "laws.go:747", after := #[{ on := 14, ground := Go.Ground.data }, { on := 7, ground := Go.Ground.guard }], guard := some (7, true) }) (v := ?v15) rfl (by kernel_rfl) (by kernel_rfl) (by kernel_rfl) (fun _ _ _ h => h) (Or.inl ⟨by rfl, ?hy15⟩) (by assumption) ?rest15
          case hy15 => (intro w hSw; (try dsimp only at hSw); go_simp; try with_reducible rfl)
          try simp only [Act.put, List.setIfInBounds_toArray, List.set_cons_zero, List.set_cons_succ]
          refine wpAnyH_take (i := 16) (oi := { dst := some 161, op := Go.Op.binOp Go.BinOp.eql 9 (Go.Operand.tmp 155) (Go.Operand.tmp 160) 9, type := 4, pos := "laws.go:747", after := #[{ on := 10, ground := Go.Ground.data }, { on := 15, ground := Go.Ground.data }, { on := 7, ground := Go.Ground.guard }], guard := some (7, true) }) (v := ?v16) rfl (by kernel_rfl) (by kernel_rfl) (by kernel_rfl) (fun _ _ _ h => h) (Or.inl ⟨by rfl, ?hy16⟩) (by assumption) ?rest16
          case hy16 => (intro w hSw; (try dsimp only at hSw); go_simp; try with_reducible rfl)
          try simp only [Act.put, List.setIfInBounds_toArray, List.set_cons_zero, List.set_cons_succ]
          refine wpAnyH_take (i := 17) (oi := { dst := some 162, op := Go.Op.pick (Go.Operand.tmp 152) (Go.Operand.tmp 161) (Go.Operand.const (Go.Value.bool false)), type := 4, pos := "laws.go:747", after := #[{ on := 7, ground := Go.Ground.data }, { on := 16, ground := Go.Ground.data }], guard := none }) (v := ?v17) rfl (by kernel_rfl) (by kernel_rfl) (by kernel_rfl) (fun _ _ _ h => h) (Or.inl ⟨by rfl, ?hy17⟩) (by assumption) ?rest17
          case hy17 => (intro w hSw; (try dsimp only at hSw); go_simp; try with_reducible rfl)
          try simp only [Act.put, List.setIfInBounds_toArray, List.set_cons_zero, List.set_cons_succ]
          refine wpAnyH_take (i := 18) (oi := { dst := some 4, op := Go.Op.assign (Go.Operand.tmp 162), type := 4, pos := "laws.go:747", after := #[{ on := 17, ground := Go.Ground.data }, { on := 11, ground := Go.Ground.chain }, { on := 0, ground := Go.Ground.phase }, { on := 1, ground := Go.Ground.phase }, { on := 2, ground := Go.Ground.phase }, { on := 3, ground := Go.Ground.phase }, { on := 4, ground := Go.Ground.phase }, { on := 5, ground := Go.Ground.phase }, { on := 6, ground := Go.Ground.phase }, { on := 7, ground := Go.Ground.phase }, { on := 8, ground := Go.Ground.phase }, { on := 9, ground := Go.Ground.phase }, { on := 10, ground := Go.Ground.phase }, { on := 11, ground := Go.Ground.phase }, { on := 12, ground := Go.Ground.phase }, { on := 13, ground := Go.Ground.phase }, { on := 14, ground := Go.Ground.phase }, { on := 15, ground := Go.Ground.phase }, { on := 16, ground := Go.Ground.phase }, { on := 17, ground := Go.Ground.phase }], guard := none }) (v := ?v18) rfl (by kernel_rfl) (by kernel_rfl) (by kernel_rfl) (fun _ _ _ h => h) (Or.inl ⟨by rfl, ?hy18⟩) (by assumption) ?rest18
          case hy18 => (intro w hSw; (try dsimp only at hSw); go_simp; try with_reducible rfl)
          try simp only [Act.put, List.setIfInBounds_toArray, List.set_cons_zero, List.set_cons_succ]
          refine wpAnyH_done (by kernel_rfl) ?_ _
          go_wp2
          go_ret
          exact ⟨ret_bool (by rw [HFI.out]; simp), b9⟩
end Go.Proofs.Ytmlmpekhcnjehaa
