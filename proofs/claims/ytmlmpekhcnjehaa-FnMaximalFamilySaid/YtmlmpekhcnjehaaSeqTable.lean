/- Contracts of CrossTable, of both sides. -/
import Derived.Test.YtmlmpekhcnjehaaSeqFun
import Derived.Test.YtmlmpekhcnjehaaInts
import Derived.WalkLawsBesides
namespace Go.Proofs.Ytmlmpekhcnjehaa
open Go.RowKit
set_option linter.unusedVariables false
theorem OF.at {w : World} {B g n cap : Nat} {f : Nat → Int} (h : OF w B (.slice (some ⟨g, 0, none⟩) n cap) n f) (i : Nat) (hi : i < n) : w.cell? ⟨g, i, none⟩ = some (.int .i64 (f i)) ∧ w.frozen? ⟨g, i, none⟩ = false := by
  obtain ⟨a', cap', hf1, hf2⟩ := h.form
  obtain ⟨g', rfl, _, _, hc⟩ := hf2 (by omega)
  injection hf1 with e1
  injection e1 with e1
  injection e1 with e1
  subst e1
  exact hc i hi
theorem OF.empty (w : World) (f : Nat → Int) : OF (w.alloc (.cells #[] 3)) w.heap.size (.slice (some ⟨w.heap.size, 0, none⟩) 0 0) 0 f := by
  refine ⟨by simp, .inr ⟨w.heap.size, 0, #[], rfl, Nat.le_refl _, ?_, Nat.le_refl _, by unfold maxLen; omega, rfl, rfl⟩⟩
  show (w.heap.push _)[w.heap.size]? = _
  simp
theorem OF.made (w : World) (n : Nat) (hm : n ≤ 1000000) : OF (w.alloc (.cells (madeCells #[.int .i64 0] n) 3)) w.heap.size (.slice (some ⟨w.heap.size, 0, none⟩) n n) n (fun _ => 0) := by
  have hs : (madeCells #[Value.int .i64 0] n).size = n := by simp [madeCells]
  refine ⟨by simp, .inr ⟨w.heap.size, n, madeCells #[.int .i64 0] n, rfl, Nat.le_refl _, ?_, Nat.le_refl _, by unfold maxLen; omega, by rw [hs]; omega, ?_⟩⟩
  · show (w.heap.push _)[w.heap.size]? = _
    simp
  · apply List.ext_getElem?
    intro j
    by_cases hj : j < n
    · simp [madeCells, hj, Nat.mod_one]
    · simp [hj, hs]
theorem make_ints (n : Nat) (h : n ≤ 1000000) (w : World) :
    (Instr.makeSlice 31 (.int .i64 (n : Int)) (.int .i64 (n : Int))).run Try.prog w = .ok (.slice (some ⟨w.heap.size, 0, none⟩) n n) (w.alloc (.cells (madeCells #[.int .i64 0] n) 3)) :=
  run_make_row' (P := Try.prog) 31 3 (.int .i64 0) 8 (by kernel_rfl) (by kernel_rfl) rfl .i64 .i64 n (by omega) (by omega) w
theorem ints_info : (Try.prog.info? 3).map (fun i => (i.zero, i.size, i.bytes)) = some (some (.int .i64 0), 1, 8) := by kernel_rfl
theorem wpList_append_int {w : World} {ops : Array Oper} {rest : List Oper} {o : Oper} {a : Act} {Q : Exit → Act → World → Prop} (hgd : o.guard = none) (s x : Operand)
    (ho : o.op = .call { callee := .builtin .append, args := #[s, x], argTypes := #[31, 31] }) (B : Nat) (v : Value) (n : Nat) (f : Nat → Int) (hs : a.eval s = v) (hown : OF w B v n f)
    (ad c : Nat) (y : Int) (hx : a.eval x = .slice (some ⟨ad, 0, none⟩) 1 c) (hc : w.cell? ⟨ad, 0, none⟩ = some (.int .i64 y)) (hn : n ≤ 1000000) (hB : B ≤ w.heap.size)
    (h : ∀ v' w', OF w' B v' (n + 1) (fun j => if j < n then f j else y) → w.grownBy w' v.ownBlock → wpList Try.prog ops Q rest (a.put o.dst v') w') : wpList Try.prog ops Q (o :: rest) a w := by
  obtain ⟨i0, hi, hzz⟩ := Option.map_eq_some_iff.1 ints_info
  simp only [Prod.mk.injEq] at hzz
  obtain ⟨hz, hsz, hby⟩ := hzz
  refine wpList_append_own w hgd s x 31 ho B 3 i0 (.int .i64 0) 1 8 (by kernel_rfl) hi hz hsz hby rfl (by decide) v n _ hs hown ⟨ad, 0, none⟩ 1 c [.int .i64 y] hx rfl ?_ ?_ ?_ ?_ hB ?_
  · intro j u hj
    cases j with
    | zero => simp at hj; subst hj; exact hc
    | succ j => simp at hj
  · intro u hu; simp at hu; subst hu; rfl
  · unfold maxLen; omega
  · omega
  · intro v' w' h1 h2 _
    refine h v' w' ?_ h2
    unfold OF
    have e : ((List.range (n + 1)).map fun j => Value.int .i64 (if j < n then f j else y)) = ((List.range n).map fun j => Value.int .i64 (f j)) ++ [.int .i64 y] := by
      have e1 : (List.range n).map (fun j => Value.int .i64 (if j < n then f j else y)) = (List.range n).map (fun j => Value.int .i64 (f j)) := List.map_congr_left fun j hj => by rw [if_pos (List.mem_range.1 hj)]
      rw [List.range_succ, List.map_append, e1, List.map_cons, List.map_nil, if_neg (Nat.lt_irrefl n)]
    rw [e]; exact h1
/-- How many correlations CrossTable answers. -/
def tabN (a b : ByteArray) : Nat := if pairB a b then a.size else 0
theorem tabN_le (a b : ByteArray) : tabN a b ≤ 255 := by
  unfold tabN
  split
  · have := size_le ((pairB_iff a b).1 (by assumption)).1; omega
  · omega
theorem tabN_le6 (a b : ByteArray) : tabN a b ≤ 1000000 := Nat.le_trans (tabN_le a b) (by omega)
def tabF (a b : ByteArray) : Nat → Int := fun k => crossN a b k
set_option maxRecDepth 100000 in
theorem iTab_yes (a b : ByteArray) (w : World) (h : pairB a b = true) :
    Calls Try.prog 50 #[.string a, .string b] w fun e w' => ∃ v, e = .returned v ∧ OF w' w.heap.size v a.size (fun k => crossN a b k) ∧ Below w.heap.size w w' := by
  obtain ⟨h1, h2, h3⟩ := (pairB_iff a b).1 h
  have a12 := size_le h1
  have b12 := size_le h2
  have hmk := make_ints a.size (by omega)
  have HT := Lib.hid (fun (k : Nat) w => turned_any b (k : Int) w b12.1 b12.2)
  have HC := Lib.hid (fun (k : Nat) (w' : World) (g : Nat) (hR : Bytes w' g 5 (2 * b.size) (fun i => zb b (i % b.size))) => turned_cells hR (k : Int) b12.1)
  have HK := Lib.hid (fun (k : Nat) (w : World) (g off cap : Nat) (hc : ∀ i, i < a.size → w.cell? ⟨g, off + i, none⟩ = some (.int .u8 (shB b k i : Nat))) => corrB_any a g off cap (shB b k) w a12.2 hc)
  have HN := Lib.hid h3
  clear h1 h2 h3
  go_enter Try.func50, Try.ntmps50
  go_wp2_with (first | (go_at_call 40; refine (iPair_yes a b _ h).mono ?_; rintro e w1 ⟨rfl, rfl⟩))
  go_loopw [16] (fun i wr => ∃ k : Nat, k ≤ a.size ∧ i = .int .i64 k ∧ OF wr w.heap.size (.slice (some ⟨w.heap.size, 0, none⟩) a.size a.size) a.size (fun j => if j < k then crossN a b j else 0) ∧ Below w.heap.size w wr) (fun i _ => a.size - (intOf i).toNat)
  case atStart => exact ⟨0, by omega, rfl, (OF.made w a.size (by omega)).congr (fun j _ => by simp), (Below.refl _ _).alloc (Nat.le_refl _) _⟩
  case round =>
    obtain ⟨k, hk, rfl, rO, rb⟩ := hrel
    clear hmk h
    by_cases hlt : k < a.size
    · have i0 : (0 : Int) ≤ (k : Int) := by omega
      have i1 : (k : Int) < (a.size : Int) := by omega
      have hmod : modN (k : Int) b.size = k := by rw [modN_of_nat, ← HN.out]; exact Nat.mod_eq_of_lt hlt
      have hT := HT.out k
      rw [hmod, ← HN.out] at hT
      have hCC := HC.out k
      rw [hmod] at hCC
      have HCC := Lib.hid hCC
      have HT' := Lib.hid hT
      clear hT hCC hmod
      go_wp2_with fail
      refine (HT'.out _).mono ?_
      rintro e w1 ⟨rfl, hR, hB⟩
      have hc := HCC.out w1 wr.heap.size (by rw [← HN.out]; exact hR)
      have HR := Lib.hid (HK.out k w1 wr.heap.size k a.size (fun i hi => hc i (by rw [← HN.out]; exact hi)))
      have O1 := rO.below hB
      have b1 := below_then rb (Nat.le_refl _) hB
      clear hR hc rO rb hB
      go_wp2_with fail
      refine HR.out.mono ?_
      rintro e w2 ⟨rfl, n, rfl⟩
      have O2 := O1.drewN n
      have b2 := below_drewN b1 n
      obtain ⟨W, hW⟩ : ∃ W, w1.drewN n = W := ⟨_, rfl⟩
      rw [hW] at O2 b2 ⊢
      clear hW O1 b1 HR
      obtain ⟨c1, c2⟩ := O2.at k hlt
      obtain ⟨X, hX⟩ : ∃ X, sumI (fun i => agr (zb a i) (shB b k i)) a.size = X := ⟨_, rfl⟩
      rw [hX]
      have nO : Hid (OF (W.setCell ⟨w.heap.size, k, none⟩ (.int .i64 X)) w.heap.size (.slice (some ⟨w.heap.size, 0, none⟩) a.size a.size) a.size (fun j => if j < k + 1 then crossN a b j else 0)) :=
        Lib.hid (O2.set k X hlt (fun j hj => by
          by_cases e : j = k
          · subst e; rw [if_pos (by omega), if_pos rfl]; exact hX
          · rw [if_neg e]
            by_cases e' : j < k
            · rw [if_pos (by omega), if_pos e']
            · rw [if_neg (by omega), if_neg e']))
      have nb : Hid (Below w.heap.size w (W.setCell ⟨w.heap.size, k, none⟩ (.int .i64 X))) := Lib.hid (bytes_below b2 (Nat.le_refl _) _ _)
      clear hX O2 b2
      go_wp2
      go_roundw
      case rel => exact ⟨k + 1, by omega, by go_num, nO.out, nb.out⟩
      case measure => simp [intOf]; omega
    · obtain rfl : k = a.size := by omega
      have nO := Lib.hid (rO.congr (g := fun k => crossN a b k) (fun j hj => by rw [if_pos hj]))
      clear rO
      go_wp2
      go_ret
      exact ⟨_, rfl, nO.out, rb⟩
set_option maxRecDepth 100000 in
theorem iTab_any (a b : ByteArray) (w : World) (ha : a.size ≤ 9223372036854775807) (hb : b.size ≤ 9223372036854775807) :
    Calls Try.prog 50 #[.string a, .string b] w fun e w' => ∃ v, e = .returned v ∧ OF w' w.heap.size v (tabN a b) (tabF a b) ∧ Below w.heap.size w w' := by
  cases h : pairB a b with
  | true => rw [show tabN a b = a.size by unfold tabN; rw [h]; rfl]; exact iTab_yes a b w h
  | false =>
    rw [show tabN a b = 0 by unfold tabN; rw [h]; rfl]
    go_enter Try.func50, Try.ntmps50
    go_wp2_with (first | (go_at_call 40; refine (iPair_no a b _ ha hb h).mono ?_; rintro e w1 ⟨rfl, rfl⟩))
    go_ret
    exact ⟨_, rfl, OF.nil _ _ _, Below.refl _ _⟩
set_option maxRecDepth 100000 in
theorem sTab_yes (a b : ByteArray) (w : World) (h : pairB a b = true) :
    Calls Try.prog 66 #[.string a, .string b] w fun e w' => ∃ v, e = .returned v ∧ OF w' w.heap.size v a.size (fun k => crossN a b k) ∧ Below w.heap.size w w' := by
  obtain ⟨h1, h2, h3⟩ := (pairB_iff a b).1 h
  have a12 := size_le h1
  have HN := Lib.hid h3
  have HX := Lib.hid (fun (k : Nat) w => l2Cross_any a b (k : Int) w h)
  have HP := Lib.hid (fun w => sPair_yes a b w h)
  clear h1 h2 h3 h
  go_enter Try.func66, Try.ntmps66
  go_wp2
  go_loopw [5, 6] (fun v i wr => ∃ k : Nat, k ≤ a.size ∧ i = .int .i64 k ∧ OF wr w.heap.size v k (fun j => crossN a b j) ∧ Below w.heap.size w wr) (fun _ i _ => a.size - (intOf i).toNat)
  case atStart => exact ⟨0, by omega, rfl, OF.empty w _, (Below.refl _ _).alloc (Nat.le_refl _) _⟩
  case round =>
    rename_i v i
    obtain ⟨k, hk, rfl, rO, rb⟩ := hrel
    by_cases hlt : k < a.size
    · have hmod : modN (k : Int) b.size = k := by rw [modN_of_nat, ← HN.out]; exact Nat.mod_eq_of_lt hlt
      have hX := HX.out k
      rw [hmod] at hX
      obtain ⟨X, hXX⟩ : ∃ X, crossN a b k = X := ⟨_, rfl⟩
      rw [hXX] at hX
      have HX' := Lib.hid hX
      have HXX := Lib.hid hXX
      clear hX hmod hXX
      go_wp2_with fail
      refine (HP.out _).mono ?_
      rintro e w1 ⟨rfl, rfl⟩
      go_wp2_with fail
      refine (HX'.out _).mono ?_
      rintro e w1 ⟨rfl, hB⟩
      have O1 := rO.below hB
      have b1 := below_then rb (Nat.le_refl _) hB
      clear rO rb hB
      go_wp2_with (at_builtin; refine wpList_append_int rfl _ _ rfl w.heap.size _ k (fun j => crossN a b j) rfl (O1.alloc _) w1.heap.size 1 X rfl ?c1 ?c2 ?c3 ?_; rotate_left 3; intro v' w' O2 g2)
      case c1 => simp
      case c2 => omega
      case c3 => have := b1.size; simp; omega
      have hO := O2.congr (g := fun j => crossN a b j) (fun j hj => by
        by_cases e : j < k
        · rw [if_pos e]
        · obtain rfl : j = k := by omega
          rw [if_neg e]; exact HXX.out.symm)
      have hb' : Below w.heap.size w w' := (b1.alloc b1.size _).grown g2 (by have := b1.size; simp; omega) (fun q hq => (O1.lt q hq).1)
      clear O1 b1 O2 g2
      go_wp2
      go_roundw
      case rel => exact ⟨k + 1, by omega, by go_num, hO, hb'⟩
      case measure => simp [intOf]; omega
    · obtain rfl : k = a.size := by omega
      go_wp2
      go_ret
      exact ⟨_, rfl, rO, rb⟩
set_option maxRecDepth 100000 in
theorem sTab_any (a b : ByteArray) (w : World) (ha : a.size ≤ 9223372036854775807) (hb : b.size ≤ 9223372036854775807) :
    Calls Try.prog 66 #[.string a, .string b] w fun e w' => ∃ v, e = .returned v ∧ OF w' w.heap.size v (tabN a b) (tabF a b) ∧ Below w.heap.size w w' := by
  cases h : pairB a b with
  | true => rw [show tabN a b = a.size by unfold tabN; rw [h]; rfl]; exact sTab_yes a b w h
  | false =>
    rw [show tabN a b = 0 by unfold tabN; rw [h]; rfl]
    by_cases hp : 0 < a.size
    · go_enter Try.func66, Try.ntmps66
      go_wp2
      go_loop [5, 6] (fun v i => v = .slice (some ⟨w.heap.size, 0, none⟩) 0 0 ∧ i = .int .i64 (0 : Nat)) (fun _ i => (intOf i).toNat)
      case atStart => exact ⟨rfl, rfl⟩
      case round =>
        obtain ⟨rfl, rfl⟩ := hrel
        go_wp2_with (first | (go_at_call 79; refine (sPair_no a b _ ha hb h).mono ?_; rintro e w1 ⟨rfl, rfl⟩))
        go_ret
        exact ⟨_, rfl, OF.empty w _, (Below.refl _ _).alloc (Nat.le_refl _) _⟩
    · have hp2 : ¬ ((0 : Int) < (a.size : Int)) := by omega
      go_enter Try.func66, Try.ntmps66
      go_wp2
      go_loop [5, 6] (fun v i => v = .slice (some ⟨w.heap.size, 0, none⟩) 0 0 ∧ i = .int .i64 (0 : Nat)) (fun _ i => (intOf i).toNat)
      case atStart => exact ⟨rfl, rfl⟩
      case round =>
        obtain ⟨rfl, rfl⟩ := hrel
        go_wp2
        go_ret
        exact ⟨_, rfl, OF.empty w _, (Below.refl _ _).alloc (Nat.le_refl _) _⟩
end Go.Proofs.Ytmlmpekhcnjehaa
