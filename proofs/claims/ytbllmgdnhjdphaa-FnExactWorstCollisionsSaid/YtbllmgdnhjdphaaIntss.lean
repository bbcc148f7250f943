/- Slices of slices of numbers: what came in, the laws' own helpers on them. -/
import Derived.Test.YtbllmgdnhjdphaaSig4
import Derived.Test.YtbllmgdnhjdphaaRegFrame
import Derived.Test.YtbllmgdnhjdphaaStrFrame
import Derived.Deep.Slices
import Derived.Deep.OwnRows
namespace Go.Proofs.Ytbllmgdnhjdphaa
open Go.ChangeShapes Go.WideShapes Go.ChangeAt Go.RowKit Go.Joins
set_option linter.unusedVariables false
set_option maxRecDepth 100000
/-- A slice of L slices of numbers that can be read: the i-th has N i numbers, F i j. -/
def IIR (w : World) (v : Value) (L : Nat) (N : Nat → Nat) (F : Nat → Nat → Int) : Prop :=
  ∃ a cap, v = .slice a L cap ∧ L ≤ cap ∧ ∀ i, i < L → ∃ (x : Addr) (u : Value), a = some x ∧ x.block < w.heap.size ∧ w.cell? (x.add i) = some u ∧ IntsC w u (N i) (F i)
theorem IIR.below {w w' : World} {v : Value} {L : Nat} {N : Nat → Nat} {F : Nat → Nat → Int} (h : IIR w v L N F) (hb : Below w.heap.size w w') : IIR w' v L N F := by
  obtain ⟨a, cap, rfl, hl, hc⟩ := h
  refine ⟨a, cap, rfl, hl, fun i hi => ?_⟩
  obtain ⟨x, u, rfl, h1, h2, h3⟩ := hc i hi
  exact ⟨x, u, rfl, Nat.lt_of_lt_of_le h1 hb.size, (hb.cell (p := x.add i) (by rw [add_block]; exact h1)).trans h2, h3.below hb⟩
/-- A slice of slices of numbers that came in. -/
def IntssIn (W : World) (a : Option Addr) (len cap : Nat) (Z : (Nat → Nat) × (Nat → Nat → Int)) : Prop := IIR W (.slice a len cap) len Z.1 Z.2 ∧ len ≤ maxLen ∧ ∀ i, i < len → Z.1 i ≤ maxLen
theorem frame_intss {H : Type} {enc : TypeId × Value → H} {W : World} {a : Option Addr} {len cap : Nat} {d : DataW H} {p : List MemPlace}
    (h : DataW.Trod enc Try.prog W 0 (fun _ => true) true 42 (.slice a len cap) d p) : ∃ Z, IntssIn W a len cap Z := by
  obtain ⟨fuel, hf⟩ := h
  rcases Go.Deep.open_slice1 Try.underlying42 (by kernel_rfl) hf with ⟨hcs, _⟩ | ⟨x, l, c, m, n, V, D, Pl, hcs, _, hl, hm, hmm, _, hc⟩
  · simp [Value.cells] at hcs
    obtain ⟨rfl, rfl, rfl⟩ := hcs
    exact ⟨(fun _ => 0, fun _ _ => 0), ⟨none, 0, rfl, Nat.le_refl _, fun i hi => absurd hi (Nat.not_lt_zero i)⟩, Nat.zero_le _, fun i hi => absurd hi (Nat.not_lt_zero i)⟩
  · simp [Value.cells] at hcs
    obtain ⟨rfl, rfl, rfl⟩ := hcs
    have hm2 : len ≤ m := by rw [hmm]; simpa using hl
    have each : ∀ i, ∃ q : Nat × (Nat → Int), i < len → IntsC W (V i) q.1 q.2 ∧ q.1 ≤ maxLen := by
      intro i
      by_cases hi : i < len
      · obtain ⟨h1, h2⟩ := hc i (by omega)
        rcases open_ints Try.underlying22 Try.underlying3 (by kernel_rfl) h2 with ⟨hcs, _⟩ | ⟨x2, l2, c2, zs, hcs, _, hl2, hm2', hz, _, hcell, hwz⟩
        · simp at hcs
          exact ⟨(0, fun _ => 0), fun _ => ⟨by rw [hcs]; exact ⟨none, 0, rfl, Nat.le_refl _, fun j hj => absurd hj (Nat.not_lt_zero j)⟩, Nat.zero_le _⟩⟩
        · simp at hcs
          refine ⟨(l2, fun j => zs.getD j 0), fun _ => ⟨?_, Nat.le_trans hl2 hm2'⟩⟩
          have hz' : zs.length = c2 := by simpa using hz
          rw [hcs]
          refine ⟨some x2, c2, rfl, hl2, fun j hj => ⟨x2, rfl, ?_, hcell j (by omega)⟩⟩
          have := block_lt_of_cell (hcell j (by omega))
          rwa [add_block] at this
      · exact ⟨(0, fun _ => 0), fun h => absurd h hi⟩
    obtain ⟨q, hq⟩ := Classical.axiomOfChoice each
    refine ⟨(fun i => (q i).1, fun i => (q i).2), ⟨some x, cap, rfl, hl, fun i hi => ⟨x, V i, rfl, ?_, (hc i (by omega)).1, (hq i hi).1⟩⟩, Nat.le_trans hl hm, fun i hi => (hq i hi).2⟩
    have := block_lt_of_cell (hc i (by omega)).1
    rwa [add_block] at this
/-- A slice of n values of slices, of the call's own. -/
def XF (w : World) (B : Nat) (v : Value) (n : Nat) (f : Nat → Value) : Prop := w.ownsRow B 22 1 v n ((List.range n).map f)
theorem XF.below {w w' : World} {B : Nat} {v : Value} {n : Nat} {f : Nat → Value} (h : XF w B v n f) (hb : Below w.heap.size w w') : XF w' B v n f :=
  World.ownsRow.kept h (grown_of_below hb) (by cases v.ownBlock <;> simp)
theorem XF.at {w : World} {B g n cap : Nat} {f : Nat → Value} (h : XF w B (.slice (some ⟨g, 0, none⟩) n cap) n f) (i : Nat) (hi : i < n) : w.cell? ⟨g, i, none⟩ = some (f i) := by
  rw [World.ownsRow.cellAt h i (by omega), List.getElem?_map, List.getElem?_range hi]; rfl
theorem XF.free {w : World} {B g n cap : Nat} {f : Nat → Value} (h : XF w B (.slice (some ⟨g, 0, none⟩) n cap) n f) (j : Nat) : w.frozen? ⟨g, j, none⟩ = false := World.ownsRow.frozenAt h j
theorem XF.set {w : World} {B g cap n : Nat} {f : Nat → Value} (h : XF w B (.slice (some ⟨g, 0, none⟩) n cap) n f) (k : Nat) (y : Value) (hk : k < n) : XF (w.setCell ⟨g, k, none⟩ y) B (.slice (some ⟨g, 0, none⟩) n cap) n (fun i => if i = k then y else f i) ∧ w.grownBy (w.setCell ⟨g, k, none⟩ y) (some g) := by
  have := World.ownsRow.stored h k y
  refine ⟨?_, this.2⟩
  have e : ((List.range n).map f).set k y = (List.range n).map fun i => if i = k then y else f i := by
    apply List.ext_getElem?
    intro t
    by_cases ht : t < n
    · rw [List.getElem?_set]
      by_cases q : k = t
      · subst q; simp [ht]
      · rw [if_neg q, List.getElem?_map, List.getElem?_map, List.getElem?_range ht]; simp [show ¬ t = k from fun x => q x.symm]
    · rw [List.getElem?_eq_none (by simp; omega), List.getElem?_eq_none (by simp; omega)]
  unfold XF
  rw [← e]; exact this.1
theorem XF.made (w : World) (n : Nat) (hm : n ≤ 1048576) : XF (w.alloc (.cells (madeCells #[.slice none 0 0] n) 22)) w.heap.size (.slice (some ⟨w.heap.size, 0, none⟩) n n) n (fun _ => .slice none 0 0) := by
  have hs : (madeCells #[Value.slice none 0 0] n).size = n := by simp [madeCells]
  refine ⟨by simp, .inr ⟨w.heap.size, n, madeCells #[.slice none 0 0] n, rfl, Nat.le_refl _, ?_, Nat.le_refl _, by unfold maxLen; omega, by rw [hs]; omega, ?_⟩⟩
  · show (w.heap.push _)[w.heap.size]? = _
    simp
  · apply List.ext_getElem?
    intro j
    by_cases hj : j < n
    · simp [madeCells, hj, Nat.mod_one]
    · simp [hj, hs]
theorem make_intss (n : Nat) (h : n ≤ 1048576) (w : World) :
    (Instr.makeSlice 42 (.int .i64 (n : Int)) (.int .i64 (n : Int))).run Try.prog w = .ok (.slice (some ⟨w.heap.size, 0, none⟩) n n) (w.alloc (.cells (madeCells #[.slice none 0 0] n) 22)) :=
  run_make_row' (P := Try.prog) 42 22 (.slice none 0 0) 24 (by kernel_rfl) (by kernel_rfl) rfl .i64 .i64 n (by omega) (by omega) w
theorem OF.aSlice {w : World} {B : Nat} {v : Value} {n : Nat} {f : Nat → Int} (h : OF w B v n f) : ∃ a cap, v = .slice a n cap := by
  obtain ⟨a, cap, e, _⟩ := h.form
  exact ⟨a, cap, e⟩
set_option maxHeartbeats 1600000 in
theorem toIntSS_any (v : Value) (L : Nat) (N : Nat → Nat) (F : Nat → Nat → Int) (w : World) (h : IIR w v L N F) (hL : L ≤ 1048576) (hN : ∀ i, i < L → N i ≤ 1048576) :
    Calls Try.prog 34 #[v] w fun e w' => ∃ u, e = .returned u ∧ IIR w' u L N F ∧ Below w.heap.size w w' := by
  have hmk := make_intss L hL
  have O0 := XF.made w L hL
  have B0 := (Below.refl w.heap.size w).alloc (Nat.le_refl _) (.cells (madeCells #[.slice none 0 0] L) 22)
  have hg0 : w.heap.size < (w.alloc (.cells (madeCells #[.slice none 0 0] L) 22)).heap.size := by simp
  obtain ⟨g, hg⟩ : ∃ g, w.heap.size = g := ⟨_, rfl⟩
  have Hg := Lib.hid hg
  obtain ⟨a, cap, rfl, hcap, hc⟩ := h
  have HC := Lib.hid hc
  have HT := Lib.hid (fun i (hi : i < L) u w h => toIntS_any u (N i) (F i) w h (hN i hi))
  have HGW : Hid (w.heap.size ≤ g) := Lib.hid (by omega)
  rw [hg] at O0 hg0
  clear hc hg hN
  go_enter Try.func34, Try.ntmps34
  go_wp2
  rw [Hg.out]
  go_loopw [4] (fun i wr => ∃ (k : Nat) (vs : Nat → Value), k ≤ L ∧ i = .int .i64 k ∧ XF wr g (.slice (some ⟨g, 0, none⟩) L L) L vs ∧ g < wr.heap.size ∧ Hid (∀ i, i < k → OF wr (g + 1) (vs i) (N i) (F i)) ∧ Below w.heap.size w wr) (fun i _ => L - (intOf i).toNat)
  case atStart => exact ⟨0, _, Nat.zero_le _, rfl, O0, hg0, Lib.hid (fun i hi => absurd hi (Nat.not_lt_zero i)), B0⟩
  case round =>
    obtain ⟨k, vs, hk, rfl, rO, rg, rH, rb⟩ := hrel
    clear hmk O0 B0 hg0
    by_cases hlt : k < L
    · obtain ⟨x, u, rfl, hx, hcc, hin⟩ := HC.out k hlt
      have c0 := (rb.cell (p := x.add k) (by rw [add_block]; exact hx)).trans hcc
      have i0 : (0 : Int) ≤ (k : Int) := by omega
      have i1 : (k : Int) < (L : Int) := by omega
      have hT := HT.out k hlt u wr (hin.below rb).ints
      obtain ⟨n, hn⟩ : ∃ n, N k = n := ⟨_, rfl⟩
      obtain ⟨f, hf⟩ : ∃ f, F k = f := ⟨_, rfl⟩
      rw [hn, hf] at hT
      have HN := Lib.hid hn
      have HF := Lib.hid hf
      have HTT := Lib.hid hT
      clear hT hn hf hin hcc hx
      go_wp2_with fail
      refine HTT.out.mono ?_
      rintro e w5 ⟨y, rfl, O5, hb⟩
      have V5 := rO.below hb
      have H5 := Lib.hid (fun i hi => (rH.out i hi).below hb)
      have O6 := O5.mono (show g + 1 ≤ wr.heap.size by omega)
      have g5 : g < w5.heap.size := Nat.lt_of_lt_of_le rg hb.size
      have r5 := below_then rb (Nat.le_refl _) hb
      clear rO rH rb rg O5 hb HTT c0
      obtain ⟨ya, yc, rfl⟩ := O6.aSlice
      have d0 := V5.at k hlt
      have fr := V5.free k
      obtain ⟨V6, gr⟩ := V5.set k (.slice ya n yc) hlt
      have off : ∀ {v : Value} {m : Nat} {z : Nat → Int}, OF w5 (g + 1) v m z → OF (w5.setCell ⟨g, k, none⟩ (.slice ya n yc)) (g + 1) v m z := fun h => h.kept gr (by
        rename_i v m z
        cases hv : v.ownBlock with
        | none => exact .inl rfl
        | some q => right; intro e; cases e; have := (h.lt _ hv).1; omega)
      have H6 : Hid (∀ i, i < k + 1 → OF (w5.setCell ⟨g, k, none⟩ (.slice ya n yc)) (g + 1) (if i = k then .slice ya n yc else vs i) (N i) (F i)) := Lib.hid (fun i hi => by
        by_cases e : i = k
        · rw [if_pos e, e, HN.out, HF.out]; exact off O6
        · rw [if_neg e]; exact off (H5.out i (by omega)))
      have V7 := Lib.hid V6
      have r6 := Lib.hid (r5.grown gr r5.size (fun q hq => by cases hq; exact HGW.out))
      have g6 : Hid (g < (w5.setCell ⟨g, k, none⟩ (.slice ya n yc)).heap.size) := Lib.hid (Nat.lt_of_lt_of_le g5 gr.size)
      clear V5 V6 H5 O6 r5 g5 gr off
      go_wp2
      go_roundw
      case rel => exact ⟨k + 1, _, by omega, by go_num, V7.out, g6.out, H6, r6.out⟩
      case measure => simp [intOf]; omega
    · obtain rfl : k = L := by omega
      have HX := Lib.hid rO
      clear rO
      go_wp2
      go_ret
      refine ⟨_, rfl, ⟨some ⟨g, 0, none⟩, k, rfl, Nat.le_refl _, fun i hi => ⟨⟨g, 0, none⟩, vs i, rfl, rg, ?_, (rH.out i hi).intsC⟩⟩, rb⟩
      have e : (⟨g, 0, none⟩ : Addr).add i = ⟨g, i, none⟩ := by unfold Addr.add; split <;> simp_all
      rw [e]; exact HX.out.at i hi
theorem szIntS_any (v : Value) (n : Nat) (z : Nat → Int) (left : Int) (w : World) (h : IntsR w v n z) (hn : n ≤ 9223372036854775807) (h0 : 0 ≤ left) (h1 : left ≤ 1048576) :
    Calls Try.prog 57 #[v, .int .i64 left] w fun e w' => e = .returned (.int .i64 (if left - (n : Int) < 0 then -1 else left - n)) ∧ w = w' := by
  obtain ⟨a, cap, rfl, -⟩ := h
  have u1 : IntKind.i64.wrap (left - (n : Int)) = left - n := IntWalk.i64_in _ (by omega)
  by_cases hl : left - (n : Int) < 0
  · rw [if_pos hl]
    go_enter Try.func57, Try.ntmps57
    go_wp2
    go_ret
    exact ⟨rfl, rfl⟩
  · rw [if_neg hl]
    go_enter Try.func57, Try.ntmps57
    go_wp2
    go_ret
    exact ⟨rfl, rfl⟩
theorem szIntSS_any (v : Value) (L : Nat) (N : Nat → Nat) (F : Nat → Nat → Int) (w : World) (h : IIR w v L N F) (hL : L ≤ 9223372036854775807) (hN : ∀ i, i < L → N i ≤ 9223372036854775807) :
    Calls Try.prog 32 #[v, .int .i64 1048576] w fun e w' => ∃ r : Int, e = .returned (.int .i64 r) ∧ (r < 0 ∨ (0 ≤ r ∧ L ≤ 1048576 ∧ ∀ i, i < L → N i ≤ 1048576)) ∧ w = w' := by
  obtain ⟨a, cap, rfl, hcap, hc⟩ := h
  have HC := Lib.hid hc
  have HS := Lib.hid (fun i (hi : i < L) left u w h h0 h1 => szIntS_any u (N i) (F i) left w h (hN i hi) h0 h1)
  have u1 : IntKind.i64.wrap ((1048576 : Int) - (L : Int)) = 1048576 - L := IntWalk.i64_in _ (by omega)
  clear hc hN
  by_cases hl : (1048576 : Int) - (L : Int) < 0
  · go_enter Try.func32, Try.ntmps32
    go_wp2
    go_ret
    exact ⟨_, rfl, .inl (by omega), rfl⟩
  · have hL2 : Hid (L ≤ 1048576) := Lib.hid (by omega)
    go_enter Try.func32, Try.ntmps32
    go_wp2
    go_loop [1, 5] (fun l t => ∃ (k : Nat) (left : Int), k ≤ L ∧ t = .int .i64 k ∧ l = .int .i64 left ∧ 0 ≤ left ∧ left ≤ 1048576 ∧ Hid (∀ i, i < k → N i ≤ 1048576)) (fun _ t => L - (intOf t).toNat)
    case atStart => exact ⟨0, _, Nat.zero_le _, rfl, rfl, by omega, by omega, Lib.hid (fun i hi => absurd hi (Nat.not_lt_zero i))⟩
    case round =>
      obtain ⟨k, left, hk, rfl, rfl, h0, h1, rA⟩ := hrel
      by_cases hlt : k < L
      · obtain ⟨x, u, rfl, hx, hcc, hin⟩ := HC.out k hlt
        have i0 : (0 : Int) ≤ (k : Int) := by omega
        have i1 : (k : Int) < (L : Int) := by omega
        have hs := HS.out k hlt left u w hin.ints h0 h1
        by_cases hr : left - (N k : Int) < 0
        · rw [if_pos hr] at hs
          have HSS := Lib.hid hs
          clear hs hr hin hx
          go_wp2_with fail
          refine HSS.out.mono ?_
          rintro e w' ⟨rfl, rfl⟩
          go_wp2
          go_ret
          exact ⟨_, rfl, .inl (by omega), rfl⟩
        · rw [if_neg hr] at hs
          have nA : Hid (∀ i, i < k + 1 → N i ≤ 1048576) := Lib.hid (fun i hi => by
            rcases Nat.lt_or_ge i k with h | h
            · exact rA.out i h
            · rw [show i = k by omega]; omega)
          obtain ⟨Y, hY⟩ : ∃ Y, left - (N k : Int) = Y := ⟨_, rfl⟩
          rw [hY] at hs hr
          have y1 : Y ≤ 1048576 := by omega
          have y2 : 0 ≤ Y := by omega
          have HSS := Lib.hid hs
          clear hs hY hin hx rA
          go_wp2_with fail
          refine HSS.out.mono ?_
          rintro e w' ⟨rfl, rfl⟩
          go_wp2
          go_round
          case rel => exact ⟨k + 1, Y, by omega, by go_num, rfl, y2, y1, nA⟩
          case measure => simp [intOf]; omega
      · obtain rfl : k = L := by omega
        go_wp2
        go_ret
        exact ⟨_, rfl, .inr ⟨h0, hL2.out, rA.out⟩, rfl⟩
/-- Two slices of numbers that can be read, with the same numbers, are equal. -/
theorem eqIntS_read (v u : Value) (n : Nat) (f : Nat → Int) (w : World) (hv : IntsR w v n f) (hu : IntsR w u n f) (hn : n ≤ 1048576) :
    Calls Try.prog 16 #[v, u] w fun e w' => e = .returned (.bool true) ∧ ∃ m, w' = w.drewN m := by
  obtain ⟨a, cap, rfl, ha⟩ := hv
  obtain ⟨b, cap', rfl, hb⟩ := hu
  have HA := Lib.hid ha
  have HB := Lib.hid hb
  clear ha hb
  go_enter Try.func16, Try.ntmps16
  go_wp2
  go_loopw [5] (fun i wr => ∃ k m : Nat, k ≤ n ∧ i = .int .i64 k ∧ wr = w.drewN m) (fun i _ => n - (intOf i).toNat)
  case atStart => exact ⟨0, 0, by omega, rfl, rfl⟩
  case round =>
    obtain ⟨k, m, hk, rfl, rfl⟩ := hrel
    by_cases hlt : k < n
    · obtain ⟨x, rfl, -, h1⟩ := HA.out k hlt
      obtain ⟨y, rfl, -, h2⟩ := HB.out k hlt
      have c1 : (w.drewN m).cell? (x.add k) = some (.int .i64 (f k)) := h1
      have c2 : (w.drewN m).cell? (y.add k) = some (.int .i64 (f k)) := h2
      obtain ⟨W, hW⟩ : ∃ W, w.drewN m = W := ⟨_, rfl⟩
      rw [hW] at c1 c2 ⊢
      have HW := Lib.hid hW
      have i0 : (0 : Int) ≤ (k : Int) := by omega
      have i1 : (k : Int) < (n : Int) := by omega
      clear hW h1 h2
      go_wp2_with fail
      go_quiet (fail)
      clear c1 c2
      go_wp2
      go_roundw
      case rel => exact ⟨k + 1, m + nq, by omega, by go_num, by rw [← HW.out, World.drewN_drewN]⟩
      case measure => simp [intOf]; omega
    · obtain rfl : k = n := by omega
      go_wp2
      go_ret
      exact ⟨rfl, m, rfl⟩
theorem eqIntSS_read (v u : Value) (L : Nat) (N : Nat → Nat) (F : Nat → Nat → Int) (w : World) (hv : IIR w v L N F) (hu : IIR w u L N F) (hL : L ≤ 1048576) (hN : ∀ i, i < L → N i ≤ 1048576) :
    Calls Try.prog 36 #[v, u] w fun e w' => e = .returned (.bool true) ∧ ∃ m, w' = w.drewN m := by
  obtain ⟨a, cap, rfl, hcap, ha⟩ := hv
  obtain ⟨b, cap', rfl, hcap', hb⟩ := hu
  have HA := Lib.hid ha
  have HB := Lib.hid hb
  have HE := Lib.hid (fun i (hi : i < L) v u w h1 h2 => eqIntS_read v u (N i) (F i) w h1 h2 (hN i hi))
  clear ha hb hN
  go_enter Try.func36, Try.ntmps36
  go_wp2
  go_loopw [5] (fun i wr => ∃ k m : Nat, k ≤ L ∧ i = .int .i64 k ∧ wr = w.drewN m) (fun i _ => L - (intOf i).toNat)
  case atStart => exact ⟨0, 0, by omega, rfl, rfl⟩
  case round =>
    obtain ⟨k, m, hk, rfl, rfl⟩ := hrel
    by_cases hlt : k < L
    · obtain ⟨x, p, rfl, -, h1, h1'⟩ := HA.out k hlt
      obtain ⟨y, q, rfl, -, h2, h2'⟩ := HB.out k hlt
      have c1 : (w.drewN m).cell? (x.add k) = some p := h1
      have c2 : (w.drewN m).cell? (y.add k) = some q := h2
      have e1 : IntsR (w.drewN m) p (N k) (F k) := (h1'.below (below_drewN (Below.refl _ _) m)).ints
      have e2 : IntsR (w.drewN m) q (N k) (F k) := (h2'.below (below_drewN (Below.refl _ _) m)).ints
      have hE := fun W h1 h2 => HE.out k hlt p q W h1 h2
      obtain ⟨W, hW⟩ : ∃ W, w.drewN m = W := ⟨_, rfl⟩
      rw [hW] at c1 c2 e1 e2 ⊢
      have HEE : Hid (∀ j, Calls Try.prog 16 #[p, q] (W.drewN j) fun e w'' => e = .returned (.bool true) ∧ ∃ m, w'' = W.drewN m) := Lib.hid (fun j => (hE (W.drewN j) (e1.below (below_drewN (Below.refl _ _) j)) (e2.below (below_drewN (Below.refl _ _) j))).mono fun e w'' ⟨he, mm, hm⟩ => ⟨he, j + mm, by rw [hm, World.drewN_drewN]⟩)
      have HW := Lib.hid hW
      have i0 : (0 : Int) ≤ (k : Int) := by omega
      have i1 : (k : Int) < (L : Int) := by omega
      clear hW h1 h2 hE e1 e2 h1' h2'
      go_wp2_with fail
      go_quiet ((go_at_call 16; exact HEE.out _))
      clear c1 c2
      go_wp2
      go_roundw
      case rel => exact ⟨k + 1, m + nq, by omega, by go_num, by rw [← HW.out, World.drewN_drewN]⟩
      case measure => simp [intOf]; omega
    · obtain rfl : k = L := by omega
      go_wp2
      go_ret
      exact ⟨rfl, m, rfl⟩
end Go.Proofs.Ytbllmgdnhjdphaa
