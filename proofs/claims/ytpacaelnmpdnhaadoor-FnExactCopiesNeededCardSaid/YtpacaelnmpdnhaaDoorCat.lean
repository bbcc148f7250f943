/- slices.Grow and slices.Concat of two slices of numbers, at the program. -/
import Derived.Test.YtpacaelnmpdnhaaDoorSig4
namespace Go.Proofs.YtpacaelnmpdnhaaDoor
open Go.RowKit
set_option linter.unusedVariables false
set_option maxRecDepth 100000
/-- The first m numbers of a slice, by x[:m]. -/
theorem headI {w : World} {a : Option Addr} {n cap : Nat} {f : Nat → Int} (h : IntsC w (.slice a n cap) n f) (m : Nat) (hm : m ≤ n) : (∀ w1, (Instr.sliceAt 31 (.slice a n cap) none (some (.int .i64 (m : Int))) none).run Tryd.prog w1 = .ok (.slice a m cap) w1) ∧
    IntsC w (.slice a m cap) m f := by
  obtain ⟨a', cap', e, hcap, hc⟩ := h
  injection e with e1 e2 e3
  subst e1 e3
  refine ⟨fun w1 => ?_, ⟨a, cap, rfl, by omega, fun i hi => hc i (by omega)⟩⟩
  rw [run_sliceAt_slice w1 31 _ _ _ _ (by kernel_rfl), run_slice_h w1 31 a n cap (by kernel_rfl) .i64 _ (by omega) (by omega), ints_elem]
  simp [Result.andThen, sliced]
  intro _
  cases a with
  | none => rfl
  | some x =>
    show some (x.add 0) = some x
    congr 1
/-- An append of n noughts to nothing. -/
theorem run_append_zeros {P : Program} (w : World) (t u ty e : TypeId) (i : TypeInfo) (z : Value) (ht : P.underlying t = some (.slice e)) (hu : P.underlying u = some (.int .i64)) (hi : P.info? e = some i) (hz : i.zero = some z)
    (n : Nat) (h0 : 0 < n) (hs : 0 < i.size) (h63 : n ≤ 1000000) (h48 : i.bytes ≤ 8) :
    (Builtin.append_ #[t, u] ty #[.slice none 0 0, .int .i64 (n : Int)]).run P w =
      .ok (.slice (some ⟨w.heap.size, 0, none⟩) n (grownCap w n 0 e)) (w.drew.alloc (.cells (Builtin.zeroCells z.cells n ++ Builtin.zeroCells z.cells (grownCap w n 0 e - n)) e)) := by
  have hn : n ≠ 0 := by omega
  have hw : IntKind.i64.wrap (n : Int) = (n : Int) := IntWalk.i64_in _ (by omega)
  have h63' : ¬ (9223372036854775807 < (n : Int)) := by omega
  have hb : n * i.bytes ≤ 1000000 * 8 := Nat.mul_le_mul h63 h48
  have h48' : ¬ (281474976710656 < Builtin.nextslicecap n 0 * i.bytes) := by rw [nextslicecap_zero h0]; omega
  have h48i : ¬ (281474976710656 < (n : Int) * (i.bytes : Int)) := by rw [← Int.natCast_mul]; omega
  have hneg : ¬ ((n : Int) < 0) := by omega
  have ha : (asIntOf (.int .i64 (n : Int))).run P w = .ok (.i64, (n : Int)) w := rfl
  simp [Builtin.append_, run_underlying ht, run_underlying hu, sizeOf, typeInfo, zeroValue, hi, hz, hn, hw, hneg, ha, h63', h48', h48i, asInt, Question.forced, run_firstCells_none, newRow, grownCap]
  intro h
  have := Nat.mul_pos h0 hs
  omega
theorem wpList_append_zeros {w : World} {ops : Array Oper} {rest : List Oper} {o : Oper} {a : Act} {Q : Exit → Act → World → Prop} (hgd : o.guard = none) (s x : Operand)
    (ho : o.op = .call { callee := .builtin .append, args := #[s, x], argTypes := #[31, 3] }) (n : Nat) (hs : a.eval s = .slice none 0 0) (hx : a.eval x = .int .i64 (n : Int)) (h0 : 0 < n) (hn : n ≤ 1000000)
    (h : ∀ cap w', (∀ m, m ≤ n → OF w' w.heap.size (.slice (some ⟨w.heap.size, 0, none⟩) m cap) m (fun _ => 0)) → n ≤ cap → Below w.heap.size w w' → wpList Tryd.prog ops Q rest (a.put o.dst (.slice (some ⟨w.heap.size, 0, none⟩) n cap)) w') : wpList Tryd.prog ops Q (o :: rest) a w := by
  obtain ⟨i0, hi, hzz⟩ := Option.map_eq_some_iff.1 ints_info
  simp only [Prod.mk.injEq] at hzz
  obtain ⟨hz, hsz, hby⟩ := hzz
  have hr := run_append_zeros (P := Tryd.prog) w 31 3 o.type 3 i0 (.int .i64 0) (by kernel_rfl) (by kernel_rfl) hi hz n h0 (by omega) hn (by omega)
  have hge := grownCap_ge w n 0 3
  have hcm := grownCap_le_maxLen w n 0 3 (by unfold maxLen; omega)
  refine wpList_plain hgd fun K hK => ?_
  unfold Oper.wp execOp
  simp only [ho, resolve, invoke, builtin, Sem.run_bind, Sem.run_pure, Result.andThen_ok, List.map_toArray, List.map_cons, List.map_nil, hs, hx, hr]
  refine hK _ _ (h _ _ (fun m hm => ?_) hge ?_)
  · have hcs : (Builtin.zeroCells (Value.int .i64 0).cells n ++ Builtin.zeroCells (Value.int .i64 0).cells (grownCap w n 0 3 - n)).size = grownCap w n 0 3 := by
      rw [Array.size_append, size_zeroCells, size_zeroCells]
      show n * 1 + _ * 1 = _
      omega
    refine ⟨by simp, .inr ⟨w.heap.size, _, _, rfl, Nat.le_refl _, heap_alloc_new w.drew _, by omega, hcm, by rw [hcs, Nat.mul_one], ?_⟩⟩
    have hzc : ∀ k, (Builtin.zeroCells (Value.int .i64 0).cells k).toList = List.replicate k (Value.int .i64 0) := fun k => by
      apply List.ext_getElem
      · rw [Array.length_toList, size_zeroCells, List.length_replicate]; exact Nat.mul_one k
      · intro j h1 h2
        simp [Builtin.zeroCells, Value.cells, Nat.mod_one]
    rw [Array.toList_append, hzc, hzc, List.replicate_append_replicate, Nat.mul_one, List.take_replicate, Nat.min_eq_left (by omega), List.map_const', List.length_range]
  · exact (Below.refl w.heap.size w).drew.alloc (Nat.le_refl _) _
theorem grow_any (n : Nat) (w : World) (h0 : 0 < n) (hn : n ≤ 1000000) (f : Nat → Int) :
    Calls Tryd.prog 78 #[.slice none 0 0, .int .i64 (n : Int)] w fun e w' => ∃ v, e = .returned v ∧ OF w' w.heap.size v 0 f ∧ Below w.heap.size w w' := by
  have l0 : ¬ ((n : Int) < 0) := by omega
  have l1 : (0 : Int) < (n : Int) := by omega
  go_enter Tryd.func78, Tryd.ntmps78
  go_wp2_with (at_builtin; refine wpList_append_zeros rfl (.tmp 20) (.tmp 21) rfl n rfl rfl h0 hn ?_; intro cap w1 hO hc hb; have hO0 := (hO 0 (Nat.zero_le _)).congr (g := f) (fun j hj => absurd hj (Nat.not_lt_zero j)); have hh := (headI (hO n (Nat.le_refl _)).intsC 0 (Nat.zero_le _)).1; clear hO)
  go_ret
  exact ⟨_, rfl, hO0, hb⟩
theorem grow_none (w : World) (f : Nat → Int) :
    Calls Tryd.prog 78 #[.slice none 0 0, .int .i64 0] w fun e w' => ∃ v, e = .returned v ∧ OF w' w.heap.size v 0 f ∧ Below w.heap.size w w' := by
  go_enter Tryd.func78, Tryd.ntmps78
  go_wp2
  go_ret
  exact ⟨_, rfl, OF.nil _ _ _, Below.refl _ _⟩
set_option maxHeartbeats 1600000 in
theorem concat_all (b n1 n2 : Nat) (v1 v2 : Value) (f1 f2 F : Nat → Int) (w : World) (hb : b < w.heap.size) (h1 : w.cell? ⟨b, 0, none⟩ = some v1) (h2 : w.cell? ⟨b, 1, none⟩ = some v2)
    (r1 : IntsR w v1 n1 f1) (r2 : IntsR w v2 n2 f2) (s1 : v1 = .slice none 0 0 ∨ ∃ x c, v1 = .slice (some x) n1 c) (s2 : v2 = .slice none 0 0 ∨ ∃ x c, v2 = .slice (some x) n2 c) (hn : n1 + n2 ≤ 1000000)
    (e1 : ∀ j, j < n1 → f1 j = F j) (e2 : ∀ j, j < n2 → f2 j = F (n1 + j)) :
    Calls Tryd.prog 69 #[.slice (some ⟨b, 0, none⟩) 2 2] w fun e w' => ∃ v, e = .returned v ∧ OF w' w.heap.size v (n1 + n2) F ∧ Below w.heap.size w w' := by
  obtain ⟨a1, c1, rfl, q1⟩ := id r1
  obtain ⟨a2, c2, rfl, q2⟩ := id r2
  clear q1 q2
  have R1 := Lib.hid r1
  have R2 := Lib.hid r2
  have S1 := Lib.hid s1
  have S2 := Lib.hid s2
  have E1 := Lib.hid e1
  have E2 := Lib.hid e2
  obtain ⟨M, hM⟩ : ∃ M, n1 + n2 = M := ⟨_, rfl⟩
  have HG : Hid (∀ w, Calls Tryd.prog 78 #[.slice none 0 0, .int .i64 (M : Int)] w fun e w' => ∃ v, e = .returned v ∧ OF w' w.heap.size v 0 F ∧ Below w.heap.size w w') := Lib.hid (fun w => by
    by_cases h : 0 < M
    · exact grow_any M w h (by omega) F
    · obtain rfl : M = 0 := by omega
      exact grow_none w F)
  have HM := Lib.hid hM
  have H1 := Lib.hid h1
  have H2 := Lib.hid h2
  have HB := Lib.hid hb
  have b1 : n1 ≤ 1000000 := by omega
  have b2 : n2 ≤ 1000000 := by omega
  have b3 : M ≤ 1000000 := by omega
  have l1 : ¬ ((n1 : Int) < 0) := by omega
  have l2 : ¬ ((M : Int) < 0) := by omega
  have l3 : IntKind.i64.wrap ((n1 : Int) + (n2 : Int)) = (M : Int) := by rw [← hM, Int.natCast_add]; exact IntWalk.i64_in _ (by omega)
  have l4 : (n1 : Int) + (n2 : Int) = (M : Int) := by rw [← hM, Int.natCast_add]
  rw [hM]
  clear r1 r2 s1 s2 e1 e2 hn hM hb
  go_enter Tryd.func69, Tryd.ntmps69
  go_wp2
  go_loop [3, 11] (fun s i => (i = .int .i64 0 ∧ s = .int .i64 0) ∨ (i = .int .i64 1 ∧ s = .int .i64 n1) ∨ (i = .int .i64 2 ∧ s = .int .i64 M)) (fun _ i => 2 - (intOf i).toNat)
  case atStart => exact .inl ⟨rfl, rfl⟩
  case round =>
    rcases hrel with ⟨rfl, rfl⟩ | ⟨rfl, rfl⟩ | ⟨rfl, rfl⟩
    · go_wp2
      go_round
      case rel => exact .inr (.inl ⟨rfl, by go_num⟩)
      case measure => simp [intOf]
    · go_wp2
      go_round
      case rel => exact .inr (.inr ⟨rfl, by go_num⟩)
      case measure => simp [intOf]
    · go_wp2_with fail
      refine (HG.out _).mono ?_
      rintro e w1 ⟨v, rfl, O1, n1'⟩
      clear h1 h2
      go_wp2
      go_loopw [6, 27] (fun v i wr => (∃ k : Nat, (i = .int .i64 0 ∧ k = 0 ∨ i = .int .i64 1 ∧ k = n1 ∨ i = .int .i64 2 ∧ k = M) ∧ OF wr w.heap.size v k F) ∧ Below w.heap.size w wr) (fun _ i _ => 2 - (intOf i).toNat)
      case atStart => exact ⟨⟨0, .inl ⟨rfl, rfl⟩, O1⟩, n1'⟩
      case round =>
        obtain ⟨⟨k, hk, rO⟩, rb⟩ := hrel
        clear O1 n1'
        have c1' := (rb.cell (p := ⟨b, 0, none⟩) HB.out).trans H1.out
        have c2' := (rb.cell (p := ⟨b, 1, none⟩) HB.out).trans H2.out
        have t1 := Lib.hid (R1.out.below rb)
        have t2 := Lib.hid (R2.out.below rb)
        have bs := rb.size
        rcases hk with ⟨rfl, rfl⟩ | ⟨rfl, rfl⟩ | ⟨rfl, rfl⟩
        · go_wp2_with (at_builtin; refine wpList_append_ints rfl (.tmp 31) (.tmp 32) rfl w.heap.size _ 0 F rfl rO _ n1 f1 rfl t1.out S1.out (by omega) bs ?_; intro v' w3 O3 g3; have c3 : Below w.heap.size w w3 := rb.grown g3 bs (fun q hq => (rO.lt q hq).1); have O4 := Lib.hid (O3.congr (g := F) (fun j hj => by rw [if_neg (Nat.not_lt_zero j), Nat.sub_zero]; exact E1.out j (by omega))); clear O3 g3 rO c1' c2' rb)
          go_roundw
          case rel => exact ⟨⟨n1, .inr (.inl ⟨rfl, rfl⟩), by have := O4.out; rwa [Nat.zero_add] at this⟩, c3⟩
          case measure => simp [intOf]
        · go_wp2_with (at_builtin; refine wpList_append_ints rfl (.tmp 31) (.tmp 32) rfl w.heap.size _ k F rfl rO _ n2 f2 rfl t2.out S2.out (by have := HM.out; omega) bs ?_; intro v' w3 O3 g3; have c3 : Below w.heap.size w w3 := rb.grown g3 bs (fun q hq => (rO.lt q hq).1); have O4 := Lib.hid (O3.congr (g := F) (fun j hj => by split; rfl; rename_i h; rw [E2.out (j - k) (by omega)]; congr 1; omega)); clear O3 g3 rO c1' c2' rb)
          go_roundw
          case rel => exact ⟨⟨M, .inr (.inr ⟨rfl, rfl⟩), by have := O4.out; rwa [HM.out] at this⟩, c3⟩
          case measure => simp [intOf]
        · go_wp2
          go_ret
          exact ⟨_, rfl, rO, rb⟩
theorem concat_any (b n1 n2 : Nat) (v1 v2 : Value) (f1 f2 F : Nat → Int) (w : World) (hb : b < w.heap.size) (h1 : w.cell? ⟨b, 0, none⟩ = some v1) (h2 : w.cell? ⟨b, 1, none⟩ = some v2)
    (r1 : IntsR w v1 n1 f1) (r2 : IntsR w v2 n2 f2) (s1 : v1 = .slice none 0 0 ∨ ∃ x c, v1 = .slice (some x) n1 c) (s2 : v2 = .slice none 0 0 ∨ ∃ x c, v2 = .slice (some x) n2 c) (hn : n1 + n2 ≤ 1000000) (h0 : 0 < n1 + n2)
    (e1 : ∀ j, j < n1 → f1 j = F j) (e2 : ∀ j, j < n2 → f2 j = F (n1 + j)) :
    Calls Tryd.prog 69 #[.slice (some ⟨b, 0, none⟩) 2 2] w fun e w' => ∃ v, e = .returned v ∧ OF w' w.heap.size v (n1 + n2) F ∧ Below w.heap.size w w' :=
  concat_all b n1 n2 v1 v2 f1 f2 F w hb h1 h2 r1 r2 s1 s2 hn e1 e2
end Go.Proofs.YtpacaelnmpdnhaaDoor
