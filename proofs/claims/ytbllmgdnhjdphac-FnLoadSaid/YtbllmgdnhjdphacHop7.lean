/- Good channels and RemapHops of both sides. -/
import Derived.Test.YtbllmgdnhjdphacHop6
import Derived.Maps.AppendAt
namespace Go.Proofs.Ytbllmgdnhjdphac
open Go.RowKit Go.Maps
set_option linter.unusedVariables false
set_option maxRecDepth 100000
/-- How many of the first c channels are good, and which. -/
def gN (m : Nat) (j : Nat → Int) : Nat → Nat
  | 0 => 0
  | c + 1 => if isJ m j (c : Int) then gN m j c else gN m j c + 1
def gF (m : Nat) (j : Nat → Int) : Nat → Nat → Int
  | 0 => fun _ => 0
  | c + 1 => if isJ m j (c : Int) then gF m j c else fun i => if i < gN m j c then gF m j c i else (c : Int)
theorem gN_le (m : Nat) (j : Nat → Int) : ∀ c, gN m j c ≤ c
  | 0 => Nat.le_refl _
  | c + 1 => by have := gN_le m j c; simp only [gN]; split <;> omega
theorem gN_bad {m : Nat} {j : Nat → Int} {c : Nat} (h : isJ m j (c : Int) = true) : gN m j (c + 1) = gN m j c ∧ gF m j (c + 1) = gF m j c := by simp only [gN, gF]; rw [if_pos h, if_pos h]; exact ⟨rfl, rfl⟩
theorem gN_good {m : Nat} {j : Nat → Int} {c : Nat} (h : isJ m j (c : Int) = false) : gN m j (c + 1) = gN m j c + 1 ∧ gF m j (c + 1) = fun i => if i < gN m j c then gF m j c i else (c : Int) := by simp only [gN, gF]; rw [h]; exact ⟨rfl, rfl⟩
theorem gF_in (m : Nat) (j : Nat → Int) : ∀ c i, i < gN m j c → 0 ≤ gF m j c i ∧ gF m j c i < c ∧ isJ m j (gF m j c i) = false
  | 0, i, h => absurd h (Nat.not_lt_zero i)
  | c + 1, i, h => by
    cases hb : isJ m j (c : Int) with
    | true =>
      obtain ⟨e1, e2⟩ := gN_bad hb
      rw [e1] at h
      have := gF_in m j c i h
      rw [e2]
      exact ⟨this.1, by omega, this.2.2⟩
    | false =>
      obtain ⟨e1, e2⟩ := gN_good hb
      rw [e1] at h
      rw [e2]
      by_cases hi : i < gN m j c
      · have := gF_in m j c i hi
        simp only [if_pos hi]
        exact ⟨this.1, by omega, this.2.2⟩
      · simp only [if_neg hi]
        exact ⟨by omega, by omega, hb⟩
def rmB (n : Nat) (z : Nat → Int) (C : Int) (m : Nat) (j : Nat → Int) : Bool := hopB n z C && (jamB m j && decide (0 < gN m j C.toNat))
theorem rmB_iff (n : Nat) (z : Nat → Int) (C : Int) (m : Nat) (j : Nat → Int) : rmB n z C m j = true ↔ hopB n z C = true ∧ jamB m j = true ∧ 0 < gN m j C.toNat := by unfold rmB; simp only [Bool.and_eq_true, decide_eq_true_eq]
def rmN (n : Nat) (z : Nat → Int) (C : Int) (m : Nat) (j : Nat → Int) : Nat := if rmB n z C m j then n else 0
def rmF (z : Nat → Int) (C : Int) (m : Nat) (j : Nat → Int) (i : Nat) : Int := if isJ m j (z i) then gF m j C.toNat ((z i).toNat % gN m j C.toNat) else z i
theorem rm_no {n : Nat} {z : Nat → Int} {C : Int} {m : Nat} {j : Nat → Int} (h : rmB n z C m j = false) : rmN n z C m j = 0 := by unfold rmN; rw [h]; rfl
theorem rmN_le6 (n : Nat) (z : Nat → Int) (C : Int) (m : Nat) (j : Nat → Int) : rmN n z C m j ≤ 1000000 := by
  unfold rmN
  split
  · rename_i h
    have := (hopB_iff _ _ _).1 ((rmB_iff _ _ _ _ _).1 h).1
    omega
  · omega
theorem rmF_bad {z : Nat → Int} {C : Int} {m : Nat} {j : Nat → Int} {i : Nat} (h : isJ m j (z i) = true) : rmF z C m j i = gF m j C.toNat ((z i).toNat % gN m j C.toNat) := by unfold rmF; rw [if_pos h]
theorem rmF_good {z : Nat → Int} {C : Int} {m : Nat} {j : Nat → Int} {i : Nat} (h : isJ m j (z i) = false) : rmF z C m j i = z i := by unfold rmF; rw [h]; rfl
theorem wpList_append_int_at {w : World} {ops : Array Oper} {rest : List Oper} {o : Oper} {a : Act} {Q : Exit → Act → World → Prop} (hgd : o.guard = none) (s x : Operand)
    (ho : o.op = .call { callee := .builtin .append, args := #[s, x], argTypes := #[26, 26] }) (B : Nat) (v : Value) (n : Nat) (f : Nat → Int) (hs : a.eval s = v) (hown : OF w B v n f)
    (ad c : Nat) (y : Int) (hx : a.eval x = .slice (some ⟨ad, 0, none⟩) 1 c) (hc : w.cell? ⟨ad, 0, none⟩ = some (.int .i64 y)) (hn : n ≤ 1000000) (hB : B ≤ w.heap.size)
    (h : ∀ v' w', OF w' B v' (n + 1) (fun j => if j < n then f j else y) → w.grownBy w' v.ownBlock → (v'.ownBlock = v.ownBlock ∨ v'.ownBlock = some w.heap.size) → wpList Try.prog ops Q rest (a.put o.dst v') w') : wpList Try.prog ops Q (o :: rest) a w := by
  obtain ⟨i0, hi, hzz⟩ := Option.map_eq_some_iff.1 ints_info
  simp only [Prod.mk.injEq] at hzz
  obtain ⟨hz, hsz, hby⟩ := hzz
  obtain ⟨v', w', hr, h1, h2, -, h3⟩ := run_append_own_at (P := Try.prog) w B 26 o.type 3 i0 (.int .i64 0) 1 8 (by kernel_rfl) hi hz hsz hby rfl (by decide) v n _ hown ⟨ad, 0, none⟩ 1 c [.int .i64 y] rfl (by
    intro j u hj
    cases j with
    | zero => simp at hj; subst hj; exact hc
    | succ j => simp at hj) (by intro u hu; simp at hu; subst hu; rfl) (by unfold maxLen; omega) (by omega) hB
  refine wpList_plain hgd fun K hK => ?_
  unfold Oper.wp execOp
  simp only [ho, resolve, invoke, builtin, Sem.run_bind, Sem.run_pure, Result.andThen_ok, List.map_toArray, List.map_cons, List.map_nil, hs, hx, hr]
  refine hK _ _ (h v' w' ?_ h2 h3)
  unfold OF
  have e : ((List.range (n + 1)).map fun j => Value.int .i64 (if j < n then f j else y)) = ((List.range n).map fun j => Value.int .i64 (f j)) ++ [.int .i64 y] := by
    have e1 : (List.range n).map (fun j => Value.int .i64 (if j < n then f j else y)) = (List.range n).map (fun j => Value.int .i64 (f j)) := List.map_congr_left fun j hj => by rw [if_pos (List.mem_range.1 hj)]
    rw [List.range_succ, List.map_append, e1, List.map_cons, List.map_nil, if_neg (Nat.lt_irrefl n)]
  rw [e]; exact h1
theorem index_ints (v : Value) (m : Nat) (j : Nat → Int) (y : Int) (w : World) (h : IntsR w v m j) (hm : m ≤ 1048576) :
    Calls Try.prog 73 #[v, .int .i64 y] w fun e w' => ∃ k : Int, e = .returned (.int .i64 k) ∧ decide (0 ≤ k) = isJ m j y ∧ w = w' := by
  obtain ⟨a, cap, rfl, hc⟩ := h
  have HC := Lib.hid hc
  have HNO := Lib.hid (fun (h : ∀ i, i < m → ¬ j i = y) => (isJ_no h).symm)
  have HYES := Lib.hid (fun i (hi : i < m) (e : j i = y) => (isJ_yes hi e).symm)
  clear hc
  go_enter Try.func73, Try.ntmps73
  go_wp2
  go_loop [8] (fun t => ∃ k : Nat, k ≤ m ∧ t = .int .i64 k ∧ Hid (∀ l, l < k → ¬ j l = y)) (fun t => m - (intOf t).toNat)
  case atStart => exact ⟨0, Nat.zero_le _, rfl, Lib.hid (fun l hl => absurd hl (Nat.not_lt_zero _))⟩
  case round =>
    obtain ⟨k, hk, rfl, rA⟩ := hrel
    by_cases hkl : k < m
    · obtain ⟨x2, rfl, hx2, c1⟩ := HC.out k hkl
      have k0 : (0 : Int) ≤ (k : Int) := by omega
      have k1 : (k : Int) < (m : Int) := by omega
      by_cases he : j k = y
      · have HE := Lib.hid (HYES.out k hkl he)
        rw [he] at c1
        clear he rA hx2
        go_wp2
        go_ret
        exact ⟨_, rfl, by rw [← HE.out]; exact decide_eq_true (by omega), rfl⟩
      · have e2 : ∀ l, l < k + 1 → ¬ j l = y := fun l hl => by
          rcases Nat.lt_or_ge l k with h | h
          · exact rA.out l h
          · rw [show l = k by omega]; exact he
        have nA := Lib.hid e2
        obtain ⟨X, hX⟩ : ∃ X, j k = X := ⟨_, rfl⟩
        rw [hX] at c1 he
        have e3 : (y == X) = false := by simp; exact fun h => he h.symm
        clear hX rA hx2 e2
        go_wp2
        go_round
        case rel => exact ⟨k + 1, by omega, by go_num, nA⟩
        case measure => simp [intOf]; omega
    · obtain rfl : k = m := by omega
      have HE := Lib.hid (HNO.out rA.out)
      clear rA
      go_wp2
      go_ret
      exact ⟨_, rfl, by rw [← HE.out]; rfl, rfl⟩
theorem contains_ints (v : Value) (m : Nat) (j : Nat → Int) (y : Int) (w : World) (h : IntsR w v m j) (hm : m ≤ 1048576) :
    Calls Try.prog 67 #[v, .int .i64 y] w fun e w' => e = .returned (.bool (isJ m j y)) ∧ w = w' := by
  have HI := Lib.hid (index_ints v m j y w h hm)
  go_enter Try.func67, Try.ntmps67
  go_wp2_with fail
  refine HI.out.mono ?_
  rintro e w' ⟨k, rfl, hk, rfl⟩
  have HK := Lib.hid hk
  clear hk
  go_wp2
  go_ret
  exact ⟨ret_bool HK.out, rfl⟩
theorem iGood_any (c : Nat) (v : Value) (m : Nat) (j : Nat → Int) (w : World) (h : IntsR w v m j) (hm : m ≤ 1048576) (hc : c ≤ 16) :
    Calls Try.prog 50 #[.int .i64 (c : Int), v] w fun e w' => ∃ u, e = .returned u ∧ OF w' w.heap.size u (gN m j c) (gF m j c) ∧ Below w.heap.size w w' := by
  have HC := Lib.hid (fun y w h => contains_ints v m j y w h hm)
  have HR := Lib.hid h
  have HB := Lib.hid (fun c h => gN_bad (m := m) (j := j) (c := c) h)
  have HG := Lib.hid (fun c h => gN_good (m := m) (j := j) (c := c) h)
  have HL := Lib.hid (fun c => gN_le m j c)
  have O0 := OF.nil w w.heap.size (gF m j 0)
  clear h
  go_enter Try.func50, Try.ntmps50
  go_wp2
  go_loopw [5, 8] (fun o t wr => ∃ k : Nat, k ≤ c ∧ t = .int .i64 k ∧ OF wr w.heap.size o (gN m j k) (gF m j k) ∧ Below w.heap.size w wr) (fun _ t _ => c - (intOf t).toNat)
  case atStart => exact ⟨0, Nat.zero_le _, rfl, O0, Below.refl _ _⟩
  case round =>
    obtain ⟨k, hk, rfl, rO, rb⟩ := hrel
    clear O0
    by_cases hlt : k < c
    · have k1 : (k : Int) < (c : Int) := by omega
      have hs := HC.out (k : Int) wr (HR.out.below rb)
      cases hq : isJ m j (k : Int) with
      | true =>
        obtain ⟨e1, e2⟩ := HB.out k hq
        rw [hq] at hs
        have HS := Lib.hid hs
        rw [← e1, ← e2] at rO
        clear hs hq e1 e2
        go_wp2_with fail
        refine HS.out.mono ?_
        rintro e w' ⟨rfl, rfl⟩
        go_wp2
        go_roundw
        case rel => exact ⟨k + 1, by omega, by go_num, rO, rb⟩
        case measure => simp [intOf]; omega
      | false =>
        obtain ⟨e1, e2⟩ := HG.out k hq
        rw [hq] at hs
        have HS := Lib.hid hs
        have hl := HL.out k
        have HE : Hid (∀ (w : World) (B : Nat) (v : Value), OF w B v (gN m j k + 1) (fun i => if i < gN m j k then gF m j k i else (k : Int)) → OF w B v (gN m j (k + 1)) (gF m j (k + 1))) := Lib.hid (fun w B v h => by rw [e1, e2]; exact h)
        obtain ⟨G, hG⟩ : ∃ G, gN m j k = G := ⟨_, rfl⟩
        rw [hG] at rO HE hl
        have bs := rb.size
        clear hs hq e1 e2 hG
        go_wp2_with fail
        refine HS.out.mono ?_
        rintro e w' ⟨rfl, rfl⟩
        go_wp2_with (at_builtin; refine wpList_append_int rfl (.tmp 15) (.tmp 17) rfl w.heap.size _ G (gF m j k) rfl (rO.alloc _) wr.heap.size 1 (k : Int) rfl (by simp) (by omega) (by simp; omega) ?_; intro v' w3 O3 g3; have c3 : Below w.heap.size w w3 := (rb.alloc bs _).grown g3 (by simp; omega) (fun q hq => (rO.lt q hq).1); have O4 := HE.out _ _ _ O3; clear rO g3 rb O3)
        go_roundw
        case rel => exact ⟨k + 1, by omega, by go_num, O4, c3⟩
        case measure => simp [intOf]; omega
    · obtain rfl : k = c := by omega
      go_wp2
      go_ret
      exact ⟨_, rfl, rO, rb⟩
end Go.Proofs.Ytbllmgdnhjdphac
