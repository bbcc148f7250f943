/- Differences, of both sides; bytes appended to a slice that may grow. -/
import Derived.Test.YtdmpbcbbbjceiabFrm2
import Derived.Laws.AppendOwn
import Derived.StillTailTactics
import Derived.Deep.RegionHeld3
namespace Go.Proofs.Ytdmpbcbbbjceiab
open Go.RowKit Go.Shelf
set_option linter.unusedVariables false
set_option maxRecDepth 100000
theorem BO.form {w : World} {B : Nat} {v : Value} {n : Nat} {f : Nat → Nat} (h : BO w B v n f) : ∃ a cap, v = .slice a n cap ∧ (0 < n → ∃ g, a = some ⟨g, 0, none⟩ ∧ B ≤ g ∧ g < w.heap.size ∧
    ∀ i, i < n → w.cell? ⟨g, i, none⟩ = some (.int .u8 (f i : Nat)) ∧ w.frozen? ⟨g, i, none⟩ = false) := by
  have hc := fun g hg => World.ownsRow.cells h (g := g) hg
  obtain ⟨h1, ⟨rfl, rfl⟩ | ⟨g, cap, cur, rfl, hB, hg, hn, hm, hs, ht⟩⟩ := h
  · exact ⟨none, 0, rfl, fun h => absurd h (Nat.lt_irrefl 0)⟩
  · refine ⟨_, cap, rfl, fun _ => ⟨g, rfl, hB, (Array.getElem?_eq_some_iff.1 hg).1, fun i hi => ⟨?_, by simp [World.frozen?, hg]⟩⟩⟩
    have := hc g rfl i (.int .u8 (f i : Nat)) (by simp [hi])
    have e : (⟨g, 0, none⟩ : Addr).add i = ⟨g, i, none⟩ := by unfold Addr.add; split <;> simp_all
    rw [e] at this; exact this
theorem BO.lt {w : World} {B : Nat} {v : Value} {n : Nat} {f : Nat → Nat} (h : BO w B v n f) : ∀ k, v.ownBlock = some k → B ≤ k ∧ k < w.heap.size := World.ownsRow.lt h
theorem BO.nil (w : World) (B : Nat) (f : Nat → Nat) : BO w B (.slice none 0 0) 0 f := World.ownsRow_nil w B _ 1
theorem BO.below {w w' : World} {B : Nat} {v : Value} {n : Nat} {f : Nat → Nat} (h : BO w B v n f) (hb : Below w.heap.size w w') : BO w' B v n f :=
  h.kept (grown_of_below hb) (by cases v.ownBlock <;> simp)
theorem BO.one (w : World) (x : Nat) (f : Nat → Nat) (hf : f 0 = x) : BO (w.alloc (.cells #[.int .u8 (x : Nat)] 5)) w.heap.size (.slice (some ⟨w.heap.size, 0, none⟩) 1 1) 1 f := by
  subst hf
  refine ⟨by simp, .inr ⟨w.heap.size, 1, #[.int .u8 (f 0 : Nat)], rfl, Nat.le_refl _, ?_, Nat.le_refl _, by unfold maxLen; omega, by simp, by simp⟩⟩
  show (w.heap.push _)[w.heap.size]? = _
  simp
theorem bo_join (n m : Nat) (f y : Nat → Nat) : ((List.range (n + m)).map fun j => Value.int .u8 ((if j < n then f j else y (j - n) : Nat) : Int)) = ((List.range n).map fun j => Value.int .u8 (f j : Nat)) ++ ((List.range m).map fun j => Value.int .u8 (y j : Nat)) := by
  apply List.ext_getElem (by simp)
  intro i h3 h4
  simp only [List.length_map, List.length_range] at h3
  rw [List.getElem_map, List.getElem_range]
  by_cases e : i < n
  · rw [if_pos e, List.getElem_append_left (by simp; exact e), List.getElem_map, List.getElem_range]
  · rw [if_neg e, List.getElem_append_right (by simp; omega), List.getElem_map, List.getElem_range]
    simp
theorem wpList_append_bytes {w : World} {ops : Array Oper} {rest : List Oper} {o : Oper} {a : Act} {Q : Exit → Act → World → Prop} (hgd : o.guard = none) (s x : Operand)
    (ho : o.op = .call { callee := .builtin .append, args := #[s, x], argTypes := #[34, 34] }) (B : Nat) (v : Value) (n : Nat) (f : Nat → Nat) (hs : a.eval s = v) (hown : BO w B v n f)
    (ad off m c : Nat) (y : Nat → Nat) (hx : a.eval x = .slice (some ⟨ad, off, none⟩) m c) (hc : ∀ j, j < m → w.cell? ⟨ad, off + j, none⟩ = some (.int .u8 (y j : Nat))) (hn : n + m ≤ 1000000) (hB : B ≤ w.heap.size)
    (h : ∀ v' w', BO w' B v' (n + m) (fun j => if j < n then f j else y (j - n)) → w.grownBy w' v.ownBlock → wpList Try.prog ops Q rest (a.put o.dst v') w') : wpList Try.prog ops Q (o :: rest) a w := by
  obtain ⟨i0, hi, hzz⟩ := Option.map_eq_some_iff.1 bytes_own_info
  simp only [Prod.mk.injEq] at hzz
  obtain ⟨hz, hsz, hby⟩ := hzz
  refine wpList_append_own w hgd s x 34 ho B 5 i0 (.int .u8 0) 1 1 (by kernel_rfl) hi hz hsz hby rfl (by decide) v n _ hs hown ⟨ad, off, none⟩ m c ((List.range m).map fun j => Value.int .u8 (y j : Nat)) hx (by simp) ?_ ?_ ?_ ?_ hB ?_
  · intro j u hj
    rw [List.getElem?_map] at hj
    by_cases hjm : j < m
    · rw [List.getElem?_range hjm] at hj
      simp only [Option.map_some, Option.some.injEq] at hj
      rw [show (⟨ad, off, none⟩ : Addr).add j = ⟨ad, off + j, none⟩ by unfold Addr.add; split <;> simp_all, hc j hjm, hj]
    · rw [List.getElem?_eq_none (by simp; omega)] at hj; cases hj
  · intro u hu
    simp at hu
    obtain ⟨j, _, rfl⟩ := hu
    rfl
  · unfold maxLen; omega
  · omega
  · intro v' w' h1 h2 _
    refine h v' w' ?_ h2
    unfold BO
    rw [bo_join n m f y]; exact h1
theorem step_append_bytes {w : World} {ops : Array Oper} {o : Oper} {a : Act} {K : Act → World → Prop} {Q : Exit → Act → World → Prop} {E : Prop} (hgd : o.guard = none) (s x : Operand)
    (ho : o.op = .call { callee := .builtin .append, args := #[s, x], argTypes := #[34, 34] }) (B : Nat) (v : Value) (n : Nat) (f : Nat → Nat) (hs : a.eval s = v) (hown : BO w B v n f)
    (ad off m c : Nat) (y : Nat → Nat) (hx : a.eval x = .slice (some ⟨ad, off, none⟩) m c) (hc : ∀ j, j < m → w.cell? ⟨ad, off + j, none⟩ = some (.int .u8 (y j : Nat))) (hn : n + m ≤ 1000000) (hB : B ≤ w.heap.size)
    (h : ∀ v' w', BO w' B v' (n + m) (fun j => if j < n then f j else y (j - n)) → w.grownBy w' v.ownBlock → K (a.put o.dst v') w') :
    if Region.wanted o (yielded ops a.tmps) = true then Oper.wp Try.prog o a w K Q else E := by
  have hw : Region.wanted o (yielded ops a.tmps) = true := by simp [Region.wanted, hgd]
  rw [if_pos hw]
  obtain ⟨i0, hi, hzz⟩ := Option.map_eq_some_iff.1 bytes_own_info
  simp only [Prod.mk.injEq] at hzz
  obtain ⟨hz, hsz, hby⟩ := hzz
  refine wp_append_own w s x 34 ho B 5 i0 (.int .u8 0) 1 1 (by kernel_rfl) hi hz hsz hby rfl (by decide) v n _ hs hown ⟨ad, off, none⟩ m c ((List.range m).map fun j => Value.int .u8 (y j : Nat)) hx (by simp) ?_ ?_ ?_ ?_ hB ?_
  · intro j u hj
    rw [List.getElem?_map] at hj
    by_cases hjm : j < m
    · rw [List.getElem?_range hjm] at hj
      simp only [Option.map_some, Option.some.injEq] at hj
      rw [show (⟨ad, off, none⟩ : Addr).add j = ⟨ad, off + j, none⟩ by unfold Addr.add; split <;> simp_all, hc j hjm, hj]
    · rw [List.getElem?_eq_none (by simp; omega)] at hj; cases hj
  · intro u hu
    simp at hu
    obtain ⟨j, _, rfl⟩ := hu
    rfl
  · unfold maxLen; omega
  · omega
  · intro v' w' h1 h2 _
    refine h v' w' ?_ h2
    unfold BO
    rw [bo_join n m f y]; exact h1
/-- The bits that change where a bit is 1. -/
def dE (z : ByteArray) : Nat → Nat
  | 0 => 48
  | k + 1 => addB (dE z k) (zb z k)
theorem dE_bit (z : ByteArray) : ∀ k, dE z k = 48 ∨ dE z k = 49
  | 0 => .inl rfl
  | k + 1 => addB_bit _ _
theorem dE_lt (z : ByteArray) (k : Nat) : dE z k < 256 := by rcases dE_bit z k with h | h <;> omega
theorem addB_comm (x y : Nat) : addB x y = addB y x := by
  unfold addB
  by_cases e : x = y
  · rw [if_pos e, if_pos e.symm]
  · rw [if_neg e, if_neg (fun h => e h.symm)]
def denS (z : ByteArray) : ByteArray := strF (z.size + 1) (dE z)
def denAns (z : ByteArray) : ByteArray × Bool := if bitsB z = true ∧ z.size < 600 then (denS z, true) else noS
def ddF (z : ByteArray) (i : Nat) : Nat := addB (zb z i) (zb z (i + 1))
theorem ddF_lt (z : ByteArray) (i : Nat) : ddF z i < 256 := by rcases addB_bit (zb z i) (zb z (i + 1)) with h | h <;> (unfold ddF; omega)
def ddS (z : ByteArray) : ByteArray := strF (z.size - 1) (ddF z)
def ddAns (z : ByteArray) : ByteArray × Bool := if bitsB z = true ∧ 0 < z.size then (ddS z, true) else noS
theorem ok_cut {z : ByteArray} (h : okB z z.size = true) (a b : Nat) (hb : b ≤ z.size) : okB (z.extract a b) (z.extract a b).size = true := okB_of_zb _ fun i hi => by
  rw [size_extract _ _ _ hb] at hi
  rw [zb_extract _ _ _ _ hb (by omega)]
  exact okB_zb z h _ (by omega)
theorem not_empty {z : ByteArray} (h : 0 < z.size) : z.toList.isEmpty = false := by
  have t0 := str_ne (y := z) (z := ⟨#[]⟩) (fun e => by rw [e] at h; exact absurd h (by decide))
  have e : ByteArray.toList ⟨#[]⟩ = [] := by rw [ByteArray.toList_eq]
  rw [e] at t0
  cases hl : z.toList with
  | nil => rw [hl] at t0; exact absurd t0 (by decide)
  | cons => rfl
theorem dd1_any (z : ByteArray) (bx i : Nat) (w : World) (h0 : w.cell? ⟨bx, 0, none⟩ = some (.string z)) (hz : z.size ≤ 600) (hok : okB z z.size = true) (hi : i + 1 < z.size) :
    Calls Try.prog 60 #[.int .i64 i, .pointer (some ⟨bx, 0, none⟩)] w fun e w' => e = .returned (.int .u8 (ddF z i : Nat)) ∧ Below w.heap.size w w' := by
  have hi0 : i < z.size := by omega
  have hb := fun w => bitSum_any (zb z i) (zb z (i + 1)) w (okB_zb z hok i hi0) (okB_zb z hok (i + 1) hi)
  rw [← zb_at z i hi0, ← zb_at z (i + 1) hi] at hb
  have HD : Hid (ddF z i = addB (z[i].toNat) (z[i + 1].toNat)) := Lib.hid (by unfold ddF; rw [zb_at z i hi0, zb_at z (i + 1) hi])
  obtain ⟨J, hJ⟩ : ∃ J, i + 1 = J := ⟨_, rfl⟩
  have hJ2 : J < z.size := by omega
  have v1 : IntKind.i64.wrap ((i : Int) + 1) = (J : Int) := by rw [show (i : Int) + 1 = (J : Int) by omega]; exact IntWalk.i64_in _ (by omega)
  have i0 : (0 : Int) ≤ (i : Int) := by omega
  have i1 : (i : Int) < (z.size : Int) := by omega
  have i2 : (0 : Int) ≤ (J : Int) := by omega
  have i3 : (J : Int) < (z.size : Int) := by omega
  have hb2 : ∀ w, Calls Try.prog 47 #[.int .u8 (z[i].toNat : Nat), .int .u8 (z[J].toNat : Nat)] w fun e w' => e = .returned (.int .u8 (ddF z i : Nat)) ∧ w = w' := by
    subst hJ; rw [HD.out]; exact hb
  obtain ⟨V, hV⟩ : ∃ V, ddF z i = V := ⟨_, rfl⟩
  rw [hV] at hb2 ⊢
  have HB := Lib.hid hb2
  clear hb hb2 HD hJ hV hok hi
  go_enter Try.func60, Try.ntmps60
  go_wp2_with fail
  go_quiet ((go_at_call 47; exact quiet_same (HB.out _)))
  go_wp2
  go_ret
  exact ⟨rfl, below_drewN (Below.refl _ _) _⟩
theorem iDd_any (z : ByteArray) (w : World) (hs : z.size ≤ 1048576) :
    Calls Try.prog 25 #[.string z] w fun e w' => e = .returned (.tuple #[.string (ddAns z).1, .bool (ddAns z).2]) ∧ Below w.heap.size w w' := by
  have hv := fun w => bitsValid_any z w (by omega)
  have b0 := (Below.refl w.heap.size w).alloc (Nat.le_refl _) (.cells #[.string z] 9)
  cases hb : bitsB z with
  | false =>
    rw [hb] at hv
    have HX : Hid (ddAns z = noS) := Lib.hid (by unfold ddAns; rw [if_neg (by rw [hb]; simp)])
    have HV := Lib.hid hv
    clear hb hv
    go_enter Try.func25, Try.ntmps25
    go_wp2_with fail
    refine (HV.out _).mono ?_
    rintro e w1 ⟨rfl, rfl⟩
    go_wp2
    go_ret2
    exact ⟨ret_sA HX.out, b0⟩
  | true =>
    rw [hb] at hv
    have HV := Lib.hid hv
    by_cases h0 : 0 < z.size
    · have HX : Hid (ddAns z = (ddS z, true)) := Lib.hid (by unfold ddAns; rw [if_pos ⟨hb, h0⟩])
      obtain ⟨ho, h6⟩ := bits_of2 hb
      have t1 : ((z.size : Int) == 0) = false := beq_eq_false_iff_ne.2 (by omega)
      have cs : (w.alloc (.cells #[.string z] 9)).heap.size = w.heap.size + 1 := World.size_alloc _ _
      have c0 := box_new w (.string z) 9
      have hcall : ∀ W, W = w.alloc (.cells #[.string z] 9) → Calls Try.prog 45 #[.int .i64 (z.size - 1 : Nat), .func (.func 60) #[] #[.pointer (some ⟨w.heap.size, 0, none⟩)]] W
          fun e w' => e = .returned (.string (ddS z)) ∧ Below W.heap.size W w' := fun W hW => by
        refine bitsOf_any (z.size - 1) (ddF z) 60 _ W (by omega) (enters_of Try.func60 (by kernel_rfl) rfl) ?_
        intro V i hV hi
        subst hW
        exact dd1_any z w.heap.size i V (box_kept c0 (by rw [cs]; omega) hV) h6 ho (by omega)
      obtain ⟨N, hN⟩ : ∃ N, z.size - 1 = N := ⟨_, rfl⟩
      have v1 : (z.size : Int) - 1 = (N : Int) := by omega
      rw [hN] at hcall
      obtain ⟨y, hy⟩ : ∃ y, ddS z = y := ⟨_, rfl⟩
      rw [hy] at hcall HX
      have HC := Lib.hid hcall
      have HB := Lib.hid b0
      clear hb hv h0 ho cs c0 hcall hN hy b0
      go_enter Try.func25, Try.ntmps25
      go_wp2_with fail
      refine (HV.out _).mono ?_
      rintro e w1 ⟨rfl, rfl⟩
      go_wp2_with fail
      refine (HC.out _ rfl).mono ?_
      rintro e w1 ⟨rfl, hb1⟩
      have b1 := below_then HB.out (by simp) hb1
      clear hb1
      go_wp2
      go_ret2
      exact ⟨ret_sA HX.out, b1⟩
    · have HX : Hid (ddAns z = noS) := Lib.hid (by unfold ddAns; rw [if_neg (fun h => h0 h.2)])
      have t1 : ((z.size : Int) == 0) = true := beq_iff_eq.2 (by omega)
      clear hb hv h0
      go_enter Try.func25, Try.ntmps25
      go_wp2_with fail
      refine (HV.out _).mono ?_
      rintro e w1 ⟨rfl, rfl⟩
      go_wp2
      go_ret2
      exact ⟨ret_sA HX.out, b0⟩
theorem sDd_any (z : ByteArray) (w : World) (hs : z.size ≤ 1048576) :
    Calls Try.prog 27 #[.string z] w fun e w' => e = .returned (.tuple #[.string (ddAns z).1, .bool (ddAns z).2]) ∧ Below w.heap.size w w' := by
  have hv := fun w => l1Bits_any z w (by omega)
  cases hb : bitsB z with
  | false =>
    rw [hb] at hv
    have HX : Hid (ddAns z = noS) := Lib.hid (by unfold ddAns; rw [if_neg (by rw [hb]; simp)])
    have HV := Lib.hid hv
    clear hb hv
    go_enter Try.func27, Try.ntmps27
    go_wp2_with fail
    refine (HV.out _).mono ?_
    rintro e w1 ⟨rfl, rfl⟩
    go_wp2
    go_ret2
    exact ⟨ret_sA HX.out, Below.refl _ _⟩
  | true =>
    rw [hb] at hv
    have HV := Lib.hid hv
    by_cases h0 : 0 < z.size
    · obtain ⟨ho, h6⟩ := bits_of2 hb
      obtain ⟨N, hN⟩ : ∃ N, z.size - 1 = N := ⟨_, rfl⟩
      have x1 := size_extract z 1 z.size (Nat.le_refl _)
      have x2 := size_extract z 0 N (by omega)
      have hadd : addS (z.extract 1 z.size) (z.extract 0 N) = ddS z := by
        unfold addS ddS
        rw [x1, ← hN]
        refine strF_congr fun i hi => ?_
        rw [zb_extract _ _ _ _ (Nat.le_refl _) (by omega), zb_extract _ _ _ _ (by omega) (by omega), addB_comm, Nat.zero_add, Nat.add_comm 1 i]; rfl
      have hA := fun w => l2Add_big (z.extract 1 z.size) (z.extract 0 N) w (ok_cut ho _ _ (Nat.le_refl _)) (ok_cut ho _ _ (by omega)) (by rw [x1, x2]; omega) (by rw [x1]; omega)
      rw [hadd] at hA
      have HX : Hid (ddAns z = (ddS z, true)) := Lib.hid (by unfold ddAns; rw [if_pos ⟨hb, h0⟩])
      have t1 : z.toList.isEmpty = false := not_empty h0
      have t2 : IntKind.i64.wrap ((z.size : Int) - 1) = (N : Int) := by rw [show (z.size : Int) - 1 = (N : Int) by omega]; exact IntWalk.i64_in _ (by omega)
      have i0 : (1 : Int) ≤ (z.size : Int) := by omega
      have i1 : (N : Int) ≤ (z.size : Int) := by omega
      have i2 : (0 : Int) ≤ (N : Int) := by omega
      obtain ⟨y, hy⟩ : ∃ y, ddS z = y := ⟨_, rfl⟩
      rw [hy] at hA HX
      have HA := Lib.hid hA
      have hbr := Below.refl w.heap.size w
      clear hb hv h0 ho hN hA hadd x1 x2 hy
      go_enter Try.func27, Try.ntmps27
      go_wp2_with fail
      refine (HV.out _).mono ?_
      rintro e w1 ⟨rfl, rfl⟩
      go_wp2_with fail
      go_still_tail 7, (by kernel_rfl)
      repeat still_step
      try refine wpStill_nil ?_
      change wpList _ _ _ _ _ w.drew
      have rb2 := below_drew hbr
      obtain ⟨W, hW⟩ : ∃ W, w.drew = W := ⟨_, rfl⟩
      rw [hW] at rb2 ⊢
      clear hW hbr
      go_wp2_with fail
      refine (HA.out _).mono ?_
      rintro e w5 ⟨rfl, hB⟩
      have c1 := below_then rb2 (Nat.le_refl _) hB
      clear hB rb2
      go_wp2
      go_ret2
      exact ⟨ret_sA HX.out, c1⟩
    · have hz0 : z = ⟨#[]⟩ := by
        apply ba_ext
        · show z.size = 0; omega
        · intro i hi; omega
      have HX : Hid (ddAns z = noS) := Lib.hid (by unfold ddAns; rw [if_neg (fun h => h0 h.2)])
      clear hb hv h0
      subst hz0
      go_enter Try.func27, Try.ntmps27
      go_wp2_with fail
      refine (HV.out _).mono ?_
      rintro e w1 ⟨rfl, rfl⟩
      go_wp2
      go_ret2
      exact ⟨ret_sA HX.out, Below.refl _ _⟩
theorem den_next (z : ByteArray) (k : Nat) (hk : k < z.size) : addS ((strF (k + 1) (dE z)).extract k (k + 1)) (z.extract k (k + 1)) = strF 1 (fun _ => dE z (k + 1)) := by
  have x1 := size_extract (strF (k + 1) (dE z)) k (k + 1) (by rw [strF_size]; omega)
  unfold addS
  rw [x1, show k + 1 - k = 1 by omega]
  refine strF_congr fun i hi => ?_
  obtain rfl : i = 0 := by omega
  rw [zb_extract _ _ _ _ (by rw [strF_size]; omega) (by omega), zb_extract _ _ _ _ (by omega) (by omega)]
  simp only [Nat.add_zero]
  rw [zb_strF (by omega) (dE_lt z k)]
  rfl
theorem sDen_any (z : ByteArray) (w : World) (hs : z.size ≤ 1048576) :
    Calls Try.prog 24 #[.string z] w fun e w' => e = .returned (.tuple #[.string (denAns z).1, .bool (denAns z).2]) ∧ Below w.heap.size w w' := by
  have hv := fun w => l1Bits_any z w (by omega)
  cases hb : bitsB z with
  | false =>
    rw [hb] at hv
    have HX : Hid (denAns z = noS) := Lib.hid (by unfold denAns; rw [if_neg (by rw [hb]; simp)])
    have HV := Lib.hid hv
    clear hb hv
    go_enter Try.func24, Try.ntmps24
    go_wp2_with fail
    refine (HV.out _).mono ?_
    rintro e w1 ⟨rfl, rfl⟩
    go_wp2
    go_ret2
    exact ⟨ret_sA HX.out, Below.refl _ _⟩
  | true =>
    rw [hb] at hv
    have HV := Lib.hid hv
    by_cases h6 : z.size < 600
    · have HX : Hid (denAns z = (denS z, true)) := Lib.hid (by unfold denAns; rw [if_pos ⟨hb, h6⟩])
      have HO := Lib.hid (bits_of2 hb).1
      have g1 : ¬ (600 : Int) ≤ (z.size : Int) := by omega
      clear hb hv
      go_enter Try.func24, Try.ntmps24
      go_wp2_with fail
      refine (HV.out _).mono ?_
      rintro e w1 ⟨rfl, rfl⟩
      go_wp2
      clear g1
      go_loopw [4, 5] (fun s i wr => ∃ k : Nat, k ≤ z.size ∧ i = .int .i64 k ∧ s = .string (strF (k + 1) (dE z)) ∧ Below w.heap.size w wr) (fun _ i _ => z.size - (intOf i).toNat)
      case atStart => exact ⟨0, by omega, rfl, rfl, Below.refl _ _⟩
      case round =>
        obtain ⟨k, hk, rfl, rfl, rb⟩ := hrel
        by_cases hlt : k < z.size
        · have hnx := den_next z k hlt
          have hsn := strF_snoc' (k + 1) (dE z) (dE z (k + 1)) rfl (dE_lt z)
          have hsz := strF_size (k + 1) (dE z)
          have q1 := strF_size 1 (fun _ => dE z (k + 1))
          have x1 := size_extract (strF (k + 1) (dE z)) k (k + 1) (by rw [hsz]; omega)
          have x2 := size_extract z k (k + 1) (by omega)
          have hA := fun w => l2Add_big ((strF (k + 1) (dE z)).extract k (k + 1)) (z.extract k (k + 1)) w (ok_cut (okB_of_zb _ fun i hi => by rw [hsz] at hi; rw [zb_strF hi (dE_lt z i)]; exact dE_bit z i) _ _ (by rw [hsz]; omega)) (ok_cut HO.out _ _ (by omega)) (by rw [x1, x2]) (by rw [x1]; omega)
          rw [hnx] at hA
          obtain ⟨S, hS⟩ : ∃ S, strF (k + 1) (dE z) = S := ⟨_, rfl⟩
          rw [hS] at hsn hsz hA ⊢
          obtain ⟨Y, hY⟩ : ∃ S, strF 1 (fun _ => dE z (k + 1)) = S := ⟨_, rfl⟩
          rw [hY] at hsn hA q1
          obtain ⟨J, hJ⟩ : ∃ J, k + 1 = J := ⟨_, rfl⟩
          rw [hJ] at hA hsn hsz
          have hq : S.size + Y.size ≤ 9223372036854775807 := by omega
          have hq2 : ¬ (9223372036854775807 < S.size + Y.size) := by omega
          have hq3 : (S.size : Int) ≤ 8388608 := by omega
          have hq4 : (Y.size : Int) ≤ 8388608 := by omega
          have hq5 : ¬ ((9223372036854775807 : Int) < (S.size : Int) + (Y.size : Int)) := by omega
          have hq6 := fun w => run_string_add_sum (P := Try.prog) w S Y hq
          have v1 : IntKind.i64.wrap ((k : Int) + 1) = (J : Int) := by rw [show (k : Int) + 1 = (J : Int) by omega]; exact IntWalk.i64_in _ (by omega)
          have i0 : (0 : Int) ≤ (k : Int) := by omega
          have i1 : (k : Int) ≤ (J : Int) := by omega
          have i2 : (J : Int) ≤ (z.size : Int) := by omega
          have i3 : (J : Int) ≤ (S.size : Int) := by omega
          have HA := Lib.hid hA
          have HS := Lib.hid hsn
          have HJ := Lib.hid hJ
          clear hnx hA hsn hS hY x1 x2 hJ
          go_wp2_with fail
          go_region_held3 (fun wx => Below w.heap.size w wx) (first | exact c1 | exact rb.drew) (first | (go_at_call 42; refine (HA.out _).mono ?_; rintro e w5 ⟨rfl, hB⟩; have c1 := below_then rb.drew (Nat.le_refl _) hB))
          all_goals
            clear v1
            go_wp2
            go_roundw
            case rel => exact ⟨k + 1, by omega, by go_num, by rw [HJ.out, ← HS.out], c1⟩
            case measure => simp [intOf]; omega
        · obtain rfl : k = z.size := by omega
          go_wp2
          go_ret2
          exact ⟨ret_sA HX.out, rb⟩
    · have HX : Hid (denAns z = noS) := Lib.hid (by unfold denAns; rw [if_neg (fun h => h6 h.2)])
      have g1 : (600 : Int) ≤ (z.size : Int) := by omega
      clear hb hv h6
      go_enter Try.func24, Try.ntmps24
      go_wp2_with fail
      refine (HV.out _).mono ?_
      rintro e w1 ⟨rfl, rfl⟩
      go_wp2
      go_ret2
      exact ⟨ret_sA HX.out, Below.refl _ _⟩
theorem iDen_any (z : ByteArray) (w : World) (hs : z.size ≤ 1048576) :
    Calls Try.prog 23 #[.string z] w fun e w' => e = .returned (.tuple #[.string (denAns z).1, .bool (denAns z).2]) ∧ Below w.heap.size w w' := by
  have hv := fun w => bitsValid_any z w (by omega)
  cases hb : bitsB z with
  | false =>
    rw [hb] at hv
    have HX : Hid (denAns z = noS) := Lib.hid (by unfold denAns; rw [if_neg (by rw [hb]; simp)])
    have HV := Lib.hid hv
    clear hb hv
    go_enter Try.func23, Try.ntmps23
    go_wp2_with fail
    refine (HV.out _).mono ?_
    rintro e w1 ⟨rfl, rfl⟩
    go_wp2
    go_ret2
    exact ⟨ret_sA HX.out, Below.refl _ _⟩
  | true =>
    rw [hb] at hv
    have HV := Lib.hid hv
    by_cases h6 : z.size < 600
    · have HX : Hid (denAns z = (denS z, true)) := Lib.hid (by unfold denAns; rw [if_pos ⟨hb, h6⟩])
      have HO := Lib.hid (bits_of2 hb).1
      have g1 : ¬ (600 : Int) < (z.size : Int) + 1 := by omega
      have O0 := BO.one w 48 (dE z) rfl
      have b0 := (Below.refl w.heap.size w).alloc (Nat.le_refl _) (.cells #[.int .u8 (48 : Nat)] 5)
      clear hb hv
      go_enter Try.func23, Try.ntmps23
      go_wp2_with fail
      refine (HV.out _).mono ?_
      rintro e w1 ⟨rfl, rfl⟩
      go_wp2
      clear g1
      go_loopw [4, 18] (fun v i wr => ∃ k : Nat, k ≤ z.size ∧ i = .int .i64 k ∧ BO wr w.heap.size v (k + 1) (dE z) ∧ Below w.heap.size w wr) (fun _ i _ => z.size - (intOf i).toNat)
      case atStart => exact ⟨0, by omega, rfl, O0, b0⟩
      case round =>
        clear O0 b0
        obtain ⟨k, hk, rfl, rO, rb⟩ := hrel
        obtain ⟨a, cap, rfl, hf⟩ := rO.form
        obtain ⟨g, rfl, _, hgl, hcl⟩ := hf (by omega)
        clear hf
        by_cases hlt : k < z.size
        · have c1 := (hcl k (by omega)).1
          have hbs := fun w => bitSum_any (zb z k) (dE z k) w (okB_zb z HO.out k hlt) (dE_bit z k)
          rw [← zb_at z k hlt] at hbs
          have hnx : addB (z[k].toNat) (dE z k) = dE z (k + 1) := by rw [zb_at z k hlt, addB_comm]; rfl
          rw [hnx] at hbs
          obtain ⟨V, hV⟩ : ∃ V, dE z (k + 1) = V := ⟨_, rfl⟩
          obtain ⟨U, hU⟩ : ∃ V, dE z k = V := ⟨_, rfl⟩
          rw [hV] at hbs
          rw [hU] at hbs c1
          have HBS := Lib.hid hbs
          have HVV := Lib.hid hV
          have i0 : (0 : Int) ≤ (k : Int) := by omega
          have i1 : (k : Int) < (z.size : Int) := by omega
          have i2 : (k : Int) < (k : Int) + 1 := by omega
          have O1 := rO.drew
          have b1 := below_drew rb
          have c2 : wr.drew.cell? ⟨g, k, none⟩ = some (.int .u8 (U : Nat)) := c1
          have c3 : (wr.alloc (.cells #[.int .u8 (V : Nat)] 5)).drew.cell? ⟨g, k, none⟩ = some (.int .u8 (U : Nat)) := (((Below.refl wr.heap.size wr).alloc (Nat.le_refl _) _).cell (p := ⟨g, k, none⟩) hgl).trans c1
          clear hcl hbs hnx hV hU rO rb
          go_wp2_with fail
          go_region_law (first | (go_simp; go_at_call 47; refine (HBS.out _).mono ?_; rintro e w5 ⟨rfl, rfl⟩) | (refine step_append_bytes rfl (.tmp 21) (.tmp 30) rfl w.heap.size _ (k + 1) (dE z) (by simp [Act.eval]) (O1.alloc _) wr.heap.size 0 1 1 (fun _ => V) (by simp [Act.eval]) (fun j hj => by obtain rfl : j = 0 := (by omega); simp) (by omega) (by have := b1.size; simp at this ⊢; omega) (fun v' w' O2 g2 => ?_)))
          all_goals
            have hO := Lib.hid (O2.congr (g := dE z) (fun j hj => by
              by_cases e : j < k + 1
              · rw [if_pos e]
              · obtain rfl : j = k + 1 := by omega
                rw [if_neg e]; exact HVV.out.symm))
            have hb' : Hid (Below w.heap.size w w') := Lib.hid ((b1.alloc b1.size _).grown g2 (by have := b1.size; simp; omega) (fun q hq => (O1.lt q hq).1))
            clear O1 b1 O2 g2
            go_wp2
            go_roundw
            case rel => exact ⟨k + 1, by omega, by go_num, hO.out, hb'.out⟩
            case measure => simp [intOf]; omega
        · obtain rfl : k = z.size := by omega
          have hst := rO.text
          have HS : Hid (strF (z.size + 1) (dE z) = denS z) := Lib.hid rfl
          obtain ⟨y, hy⟩ : ∃ y, strF (z.size + 1) (dE z) = y := ⟨_, rfl⟩
          rw [hy] at hst HS
          clear hy rO hcl
          go_wp2
          go_ret2
          exact ⟨ret_sA (by rw [HX.out, HS.out]), rb⟩
    · have HX : Hid (denAns z = noS) := Lib.hid (by unfold denAns; rw [if_neg (fun h => h6 h.2)])
      have g1 : (600 : Int) < (z.size : Int) + 1 := by omega
      clear hb hv h6
      go_enter Try.func23, Try.ntmps23
      go_wp2_with fail
      refine (HV.out _).mono ?_
      rintro e w1 ⟨rfl, rfl⟩
      go_wp2
      go_ret2
      exact ⟨ret_sA HX.out, Below.refl _ _⟩
end Go.Proofs.Ytdmpbcbbbjceiab
