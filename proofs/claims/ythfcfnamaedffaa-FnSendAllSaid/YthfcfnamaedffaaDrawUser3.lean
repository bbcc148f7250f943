/- Contracts of l4List and l4Heard. -/
import Derived.Test.YthfcfnamaedffaaDrawUser2
namespace Go.Proofs.Ythfcfnamaedffaa
open Go.RowKit
set_option linter.unusedVariables false
set_option maxRecDepth 100000
theorem UF.off {w : World} {B b : Nat} {v : Value} {n : Nat} {f : Nat → Usr} (h : UF w B v n f) (hb : b < B) : v.ownBlock = none ∨ v.ownBlock ≠ some b := by
  cases hv : v.ownBlock with
  | none => exact .inl rfl
  | some q => right; intro e; cases e; have := (h.lt _ hv).1; omega
theorem OF.offb {w : World} {B b : Nat} {v : Value} {n : Nat} {f : Nat → Int} (h : OF w B v n f) (hb : b < B) : v.ownBlock = none ∨ v.ownBlock ≠ some b := by
  cases hv : v.ownBlock with
  | none => exact .inl rfl
  | some q => right; intro e; cases e; have := (h.lt _ hv).1; omega
theorem tw3 : tw 3 = 8 := by decide
theorem gold335_size (k : Int) : (goldS 3 3 5 k).size = 7 := by
  have h : ∀ T : Int, (perS 3 T).size = 7 := fun T => by
    unfold perS
    rw [runS_size]
    decide
  unfold goldS
  split
  · exact h 3
  · split
    · exact h 5
    · rw [addS_size]; exact h 3
/-- Users were drawn. -/
def ListPost (b p : Nat) (zs : List Int) (w : World) (e : Ending) (w' : World) : Prop :=
  ∃ (v : Value) (n : Nat) (f : Nat → Usr) (q : Nat), e = .returned v ∧ UF w' w.heap.size v n f ∧ n ≤ 4 ∧ (∀ i, i < n → DrU (f i)) ∧ q ≤ p + 700 ∧ RdAt w' b q zs ∧ w.grownBy w' (some b)

set_option maxHeartbeats 6400000 in
theorem l4List_any (b p : Nat) (zs : List Int) (w : World) (hr : RdAt w b p zs) (hp : p ≤ 600000) :
    Calls Try.prog 74 #[.pointer (some ⟨b, 0, none⟩)] w (ListPost b p zs w) := by
  have hbl := hr.1
  have O0 := UF.empty0 w (fun _ => ⟨⟨#[]⟩, ⟨#[]⟩, 0, 0⟩)
  have r0 := hr.alloc (.cells #[] 30)
  have g0 := World.grownBy_alloc w (.cells #[] 30) (some b)
  clear hr
  go_enter Try.func74, Try.ntmps74
  go_wp2_with fail
  refine (pick_any b p 2 zs _ r0 (by omega) (by omega) (by omega)).mono ?_
  rintro e w5 ⟨k1, hk2, rfl, hr3, h4⟩
  have g6 := g0.trans h4
  have O7 := O0.kept h4 (O0.off hbl)
  clear O0
  clear r0 h4 g0
  go_wp2_with fail
  refine (pick_any b (p + 1) 2 zs _ hr3 (by omega) (by omega) (by omega)).mono ?_
  rintro e w12 ⟨k8, hk9, rfl, hr10, h11⟩
  have g13 := g6.trans h11
  have O14 := O7.kept h11 (O7.off hbl)
  clear O7
  clear hr3 h11 g6
  have ks : (k1 = 0 ∨ k1 = 1) ∧ (k8 = 0 ∨ k8 = 1) := by omega
  clear hk2 hk9
  obtain ⟨ka | ka, kb | kb⟩ := ks
  · skip
    subst ka kb
    go_wp2_with fail
    refine (num_any b ((p + 1) + 1) zs _ w12.heap.size 5 [2, 3, 1, 4, 0] (hr10.alloc _) (IntsAt.new w12 _ [2, 3, 1, 4, 0]) rfl hr10.1 (by omega) (by omega) (by omega)).mono ?_
    rintro e w19 ⟨y15, hy16, rfl, hr17, h18⟩
    have h20 := (World.grownBy_alloc w12 (.cells #[.int .i64 2, .int .i64 3, .int .i64 1, .int .i64 4, .int .i64 0] 3) (some b)).trans h18
    clear h18
    have g21 := g13.trans h20
    have O22 := O14.kept h20 (O14.off hbl)
    clear O14
    clear hr10 h20 g13
    obtain ⟨J, rfl, hJ⟩ : ∃ s : Nat, y15 = s ∧ s ≤ 4 := by
      simp only [List.mem_cons, List.not_mem_nil, or_false] at hy16
      exact ⟨y15.toNat, by omega, by omega⟩
    clear hy16
    obtain ⟨q23, hq⟩ : ∃ q, (((p + 1) + 1) + 1) = q := ⟨_, rfl⟩
    have hqb : q23 ≤ p + 3 := by omega
    rw [hq] at hr17
    clear hq
    go_wp2
    go_loopw [3, 6] (fun v i wr => ∃ (j n : Nat) (F : Nat → Usr) (q : Nat), n + j ≤ 4 ∧ i = .int .i64 j ∧ UF wr w.heap.size v n F ∧ Hid (∀ i, i < n → DrU (F i)) ∧ q + 150 * j ≤ p + 700 ∧ RdAt wr b q zs ∧ w.grownBy wr (some b)) (fun _ i _ => (intOf i).toNat)
    case atStart => exact ⟨J, 0, _, q23, by omega, rfl, O22, Lib.hid (fun t ht => absurd ht (Nat.not_lt_zero t)), by omega, hr17, g21⟩
    case round =>
      obtain ⟨j, n, F, q, hjn, rfl, rO, rF, rq, rR, rg⟩ := hrel
      clear O22 hr17 g21 hqb
      by_cases h0 : 0 < j
      · skip
        go_wp2_with fail
        refine (pick_any b q 8 zs _ rR (by omega) (by omega) (by omega)).mono ?_
        rintro e w28 ⟨k24, hk25, rfl, hr26, h27⟩
        have g29 := rg.trans h27
        have O30 := rO.kept h27 (rO.off hbl)
        clear rO
        clear rR h27 rg
        have hW : Calls Try.prog 123 #[.int .i64 3, .int .i64 (k24 : Int)] w28 fun e w' => e = .returned (.string (walshB (tw 3) k24)) ∧ Below w28.heap.size w28 w' := l3Walsh_any 3 k24 w28 (by omega) (by omega)
        have hZ1 : seqB (walshB (tw 3) k24) = true := walshB_seq _ _ (by rw [tw3]; omega) (by rw [tw3]; omega)
        have hZ2 : (walshB (tw 3) k24).size ≤ 8 := by rw [walshB_size, tw3]; omega
        obtain ⟨Z, hZ⟩ : ∃ Z, walshB (tw 3) k24 = Z := ⟨_, rfl⟩
        rw [hZ] at hW hZ1 hZ2
        have HZ := Lib.hid (And.intro hZ1 hZ2)
        clear hZ hZ1 hZ2
        go_wp2_with fail
        refine (hW).mono ?_
        rintro e w33 ⟨rfl, h32⟩
        have g34 := g29.trans (grown_any (grown_of_below h32) (some b))
        have O35 := O30.below h32
        clear O30
        have hr31 := hr26.below h32
        clear hr26 h32 g29
        clear hW
        go_wp2_with fail
        refine (pick_any b (q + 1) 9 zs _ hr31 (by omega) (by omega) (by omega)).mono ?_
        rintro e w40 ⟨k36, hk37, rfl, hr38, h39⟩
        have g41 := g34.trans h39
        have O42 := O35.kept h39 (O35.off hbl)
        clear O35
        clear hr31 h39 g34
        have hW := l3Gold_any 3 3 5 ((k36 : Int) - 2) w40 taps33 taps35
        have hZ1 : seqB (goldS 3 3 5 ((k36 : Int) - 2)) = true := goldS_seq taps33 taps35
        have hZ2 : (goldS 3 3 5 ((k36 : Int) - 2)).size ≤ 8 := by rw [gold335_size]; omega
        obtain ⟨Y, hY⟩ : ∃ Z, goldS 3 3 5 ((k36 : Int) - 2) = Z := ⟨_, rfl⟩
        rw [hY] at hW hZ1 hZ2
        have HY := Lib.hid (And.intro hZ1 hZ2)
        clear hY hZ1 hZ2
        go_wp2_with fail
        refine (hW).mono ?_
        rintro e w45 ⟨rfl, h44⟩
        have g46 := g41.trans (grown_any (grown_of_below h44) (some b))
        have O47 := O42.below h44
        clear O42
        have hr43 := hr38.below h44
        clear hr38 h44 g41
        clear hW
        go_wp2_with fail
        refine (l4User_any b ((q + 1) + 1) Y zs _ hr43 (by omega)).mono ?_
        rintro e w50 ⟨D, x, y, q5, rfl, hD, hD8, hx1, hx4, hy0, hy6, hq5, hr48, h49⟩
        have g51 := g46.trans h49
        have O52 := O47.kept h49 (O47.off hbl)
        clear O47
        clear hr43 h49 g46
        have HF : Hid (∀ i, i < n + 1 → DrU (if i < n then F i else ⟨Y, D, x, 0⟩)) := Lib.hid (fun i hi => by
          by_cases e : i < n
          · rw [if_pos e]; exact rF.out i e
          · rw [if_neg e]; exact ⟨HY.out.1, HY.out.2, hD, hD8, hx1, hx4, (show (0 : Int) ≤ 0 by decide), (show (0 : Int) ≤ 6 by decide)⟩)
        have hsz : w.heap.size ≤ w50.heap.size := g51.size
        have HO := Lib.hid O52
        go_wp2_with (at_builtin; refine wpList_append_user rfl (.tmp 36) (.tmp 38) rfl w.heap.size _ n F rfl ((O52.alloc _).alloc _) _ 1 ⟨Y, D, x, 0⟩ rfl ⟨by simp, by simp, by simp, by simp⟩ (by omega) (by simp; omega) ?_; intro v' w' O3 g3)
        have hr3 := ((hr48.alloc _).alloc _).kept g3 (fun q hq => by have := (HO.out.lt q hq).1; omega)
        have hg3 : w.grownBy w' (some b) := grown_own ((g51.trans (World.grownBy_alloc w50 _ (some b))).trans (World.grownBy_alloc _ _ (some b))) g3 (fun q hq => (HO.out.lt q hq).1)
        clear hr48 g51 O52 g3 HO hsz rF
        go_wp2
        go_roundw
        case rel => exact ⟨j - 1, n + 1, _, q5, by omega, by rw [show ((j - 1 : Nat) : Int) = (j : Int) - 1 by omega], O3, HF, by omega, hr3, hg3⟩
        case measure => simp [intOf]; omega
      · skip
        obtain rfl : j = 0 := by omega
        have HH := Lib.hid rF.out
        clear rF
        go_wp2
        go_ret
        exact ⟨_, n, F, q, rfl, rO, by omega, HH.out, by omega, rR, rg⟩
  · skip
    subst ka kb
    go_wp2_with fail
    refine (num_any b ((p + 1) + 1) zs _ w12.heap.size 5 [2, 3, 1, 4, 0] (hr10.alloc _) (IntsAt.new w12 _ [2, 3, 1, 4, 0]) rfl hr10.1 (by omega) (by omega) (by omega)).mono ?_
    rintro e w57 ⟨y53, hy54, rfl, hr55, h56⟩
    have h58 := (World.grownBy_alloc w12 (.cells #[.int .i64 2, .int .i64 3, .int .i64 1, .int .i64 4, .int .i64 0] 3) (some b)).trans h56
    clear h56
    have g59 := g13.trans h58
    have O60 := O14.kept h58 (O14.off hbl)
    clear O14
    clear hr10 h58 g13
    obtain ⟨J, rfl, hJ⟩ : ∃ s : Nat, y53 = s ∧ s ≤ 4 := by
      simp only [List.mem_cons, List.not_mem_nil, or_false] at hy54
      exact ⟨y53.toNat, by omega, by omega⟩
    clear hy54
    obtain ⟨q61, hq⟩ : ∃ q, (((p + 1) + 1) + 1) = q := ⟨_, rfl⟩
    have hqb : q61 ≤ p + 3 := by omega
    rw [hq] at hr55
    clear hq
    go_wp2
    go_loopw [3, 6] (fun v i wr => ∃ (j n : Nat) (F : Nat → Usr) (q : Nat), n + j ≤ 4 ∧ i = .int .i64 j ∧ UF wr w.heap.size v n F ∧ Hid (∀ i, i < n → DrU (F i)) ∧ q + 150 * j ≤ p + 700 ∧ RdAt wr b q zs ∧ w.grownBy wr (some b)) (fun _ i _ => (intOf i).toNat)
    case atStart => exact ⟨J, 0, _, q61, by omega, rfl, O60, Lib.hid (fun t ht => absurd ht (Nat.not_lt_zero t)), by omega, hr55, g59⟩
    case round =>
      obtain ⟨j, n, F, q, hjn, rfl, rO, rF, rq, rR, rg⟩ := hrel
      clear O60 hr55 g59 hqb
      by_cases h0 : 0 < j
      · skip
        go_wp2_with fail
        refine (pick_any b q 8 zs _ rR (by omega) (by omega) (by omega)).mono ?_
        rintro e w66 ⟨k62, hk63, rfl, hr64, h65⟩
        have g67 := rg.trans h65
        have O68 := rO.kept h65 (rO.off hbl)
        clear rO
        clear rR h65 rg
        have hW : Calls Try.prog 123 #[.int .i64 3, .int .i64 (k62 : Int)] w66 fun e w' => e = .returned (.string (walshB (tw 3) k62)) ∧ Below w66.heap.size w66 w' := l3Walsh_any 3 k62 w66 (by omega) (by omega)
        have hZ1 : seqB (walshB (tw 3) k62) = true := walshB_seq _ _ (by rw [tw3]; omega) (by rw [tw3]; omega)
        have hZ2 : (walshB (tw 3) k62).size ≤ 8 := by rw [walshB_size, tw3]; omega
        obtain ⟨Z, hZ⟩ : ∃ Z, walshB (tw 3) k62 = Z := ⟨_, rfl⟩
        rw [hZ] at hW hZ1 hZ2
        have HZ := Lib.hid (And.intro hZ1 hZ2)
        clear hZ hZ1 hZ2
        go_wp2_with fail
        refine (hW).mono ?_
        rintro e w71 ⟨rfl, h70⟩
        have g72 := g67.trans (grown_any (grown_of_below h70) (some b))
        have O73 := O68.below h70
        clear O68
        have hr69 := hr64.below h70
        clear hr64 h70 g67
        clear hW
        go_wp2_with fail
        refine (pick_any b (q + 1) 9 zs _ hr69 (by omega) (by omega) (by omega)).mono ?_
        rintro e w78 ⟨k74, hk75, rfl, hr76, h77⟩
        have g79 := g72.trans h77
        have O80 := O73.kept h77 (O73.off hbl)
        clear O73
        clear hr69 h77 g72
        have hW := l3Gold_any 3 3 5 ((k74 : Int) - 2) w78 taps33 taps35
        have hZ1 : seqB (goldS 3 3 5 ((k74 : Int) - 2)) = true := goldS_seq taps33 taps35
        have hZ2 : (goldS 3 3 5 ((k74 : Int) - 2)).size ≤ 8 := by rw [gold335_size]; omega
        obtain ⟨Y, hY⟩ : ∃ Z, goldS 3 3 5 ((k74 : Int) - 2) = Z := ⟨_, rfl⟩
        rw [hY] at hW hZ1 hZ2
        have HY := Lib.hid (And.intro hZ1 hZ2)
        clear hY hZ1 hZ2
        go_wp2_with fail
        refine (hW).mono ?_
        rintro e w83 ⟨rfl, h82⟩
        have g84 := g79.trans (grown_any (grown_of_below h82) (some b))
        have O85 := O80.below h82
        clear O80
        have hr81 := hr76.below h82
        clear hr76 h82 g79
        clear hW
        go_wp2_with fail
        refine (l4User_any b ((q + 1) + 1) Y zs _ hr81 (by omega)).mono ?_
        rintro e w88 ⟨D, x, y, q5, rfl, hD, hD8, hx1, hx4, hy0, hy6, hq5, hr86, h87⟩
        have g89 := g84.trans h87
        have O90 := O85.kept h87 (O85.off hbl)
        clear O85
        clear hr81 h87 g84
        have HF : Hid (∀ i, i < n + 1 → DrU (if i < n then F i else ⟨Y, D, x, y⟩)) := Lib.hid (fun i hi => by
          by_cases e : i < n
          · rw [if_pos e]; exact rF.out i e
          · rw [if_neg e]; exact ⟨HY.out.1, HY.out.2, hD, hD8, hx1, hx4, hy0, hy6⟩)
        have hsz : w.heap.size ≤ w88.heap.size := g89.size
        have HO := Lib.hid O90
        go_wp2_with (at_builtin; refine wpList_append_user rfl (.tmp 36) (.tmp 38) rfl w.heap.size _ n F rfl ((O90.alloc _).alloc _) _ 1 ⟨Y, D, x, y⟩ rfl ⟨by simp, by simp, by simp, by simp⟩ (by omega) (by simp; omega) ?_; intro v' w' O3 g3)
        have hr3 := ((hr86.alloc _).alloc _).kept g3 (fun q hq => by have := (HO.out.lt q hq).1; omega)
        have hg3 : w.grownBy w' (some b) := grown_own ((g89.trans (World.grownBy_alloc w88 _ (some b))).trans (World.grownBy_alloc _ _ (some b))) g3 (fun q hq => (HO.out.lt q hq).1)
        clear hr86 g89 O90 g3 HO hsz rF
        go_wp2
        go_roundw
        case rel => exact ⟨j - 1, n + 1, _, q5, by omega, by rw [show ((j - 1 : Nat) : Int) = (j : Int) - 1 by omega], O3, HF, by omega, hr3, hg3⟩
        case measure => simp [intOf]; omega
      · skip
        obtain rfl : j = 0 := by omega
        have HH := Lib.hid rF.out
        clear rF
        go_wp2
        go_ret
        exact ⟨_, n, F, q, rfl, rO, by omega, HH.out, by omega, rR, rg⟩
  · skip
    subst ka kb
    go_wp2_with fail
    refine (num_any b ((p + 1) + 1) zs _ w12.heap.size 5 [2, 3, 1, 4, 0] (hr10.alloc _) (IntsAt.new w12 _ [2, 3, 1, 4, 0]) rfl hr10.1 (by omega) (by omega) (by omega)).mono ?_
    rintro e w95 ⟨y91, hy92, rfl, hr93, h94⟩
    have h96 := (World.grownBy_alloc w12 (.cells #[.int .i64 2, .int .i64 3, .int .i64 1, .int .i64 4, .int .i64 0] 3) (some b)).trans h94
    clear h94
    have g97 := g13.trans h96
    have O98 := O14.kept h96 (O14.off hbl)
    clear O14
    clear hr10 h96 g13
    obtain ⟨J, rfl, hJ⟩ : ∃ s : Nat, y91 = s ∧ s ≤ 4 := by
      simp only [List.mem_cons, List.not_mem_nil, or_false] at hy92
      exact ⟨y91.toNat, by omega, by omega⟩
    clear hy92
    obtain ⟨q99, hq⟩ : ∃ q, (((p + 1) + 1) + 1) = q := ⟨_, rfl⟩
    have hqb : q99 ≤ p + 3 := by omega
    rw [hq] at hr93
    clear hq
    go_wp2
    go_loopw [3, 6] (fun v i wr => ∃ (j n : Nat) (F : Nat → Usr) (q : Nat), n + j ≤ 4 ∧ i = .int .i64 j ∧ UF wr w.heap.size v n F ∧ Hid (∀ i, i < n → DrU (F i)) ∧ q + 150 * j ≤ p + 700 ∧ RdAt wr b q zs ∧ w.grownBy wr (some b)) (fun _ i _ => (intOf i).toNat)
    case atStart => exact ⟨J, 0, _, q99, by omega, rfl, O98, Lib.hid (fun t ht => absurd ht (Nat.not_lt_zero t)), by omega, hr93, g97⟩
    case round =>
      obtain ⟨j, n, F, q, hjn, rfl, rO, rF, rq, rR, rg⟩ := hrel
      clear O98 hr93 g97 hqb
      by_cases h0 : 0 < j
      · skip
        go_wp2_with fail
        refine (pick_any b q 8 zs _ rR (by omega) (by omega) (by omega)).mono ?_
        rintro e w104 ⟨k100, hk101, rfl, hr102, h103⟩
        have g105 := rg.trans h103
        have O106 := rO.kept h103 (rO.off hbl)
        clear rO
        clear rR h103 rg
        have hW : Calls Try.prog 123 #[.int .i64 3, .int .i64 (k100 : Int)] w104 fun e w' => e = .returned (.string (walshB (tw 3) k100)) ∧ Below w104.heap.size w104 w' := l3Walsh_any 3 k100 w104 (by omega) (by omega)
        have hZ1 : seqB (walshB (tw 3) k100) = true := walshB_seq _ _ (by rw [tw3]; omega) (by rw [tw3]; omega)
        have hZ2 : (walshB (tw 3) k100).size ≤ 8 := by rw [walshB_size, tw3]; omega
        obtain ⟨Z, hZ⟩ : ∃ Z, walshB (tw 3) k100 = Z := ⟨_, rfl⟩
        rw [hZ] at hW hZ1 hZ2
        have HZ := Lib.hid (And.intro hZ1 hZ2)
        clear hZ hZ1 hZ2
        go_wp2_with fail
        refine (hW).mono ?_
        rintro e w109 ⟨rfl, h108⟩
        have g110 := g105.trans (grown_any (grown_of_below h108) (some b))
        have O111 := O106.below h108
        clear O106
        have hr107 := hr102.below h108
        clear hr102 h108 g105
        clear hW
        go_wp2_with fail
        refine (l4User_any b (q + 1) Z zs _ hr107 (by omega)).mono ?_
        rintro e w114 ⟨D, x, y, q5, rfl, hD, hD8, hx1, hx4, hy0, hy6, hq5, hr112, h113⟩
        have g115 := g110.trans h113
        have O116 := O111.kept h113 (O111.off hbl)
        clear O111
        clear hr107 h113 g110
        have HF : Hid (∀ i, i < n + 1 → DrU (if i < n then F i else ⟨Z, D, x, 0⟩)) := Lib.hid (fun i hi => by
          by_cases e : i < n
          · rw [if_pos e]; exact rF.out i e
          · rw [if_neg e]; exact ⟨HZ.out.1, HZ.out.2, hD, hD8, hx1, hx4, (show (0 : Int) ≤ 0 by decide), (show (0 : Int) ≤ 6 by decide)⟩)
        have hsz : w.heap.size ≤ w114.heap.size := g115.size
        have HO := Lib.hid O116
        go_wp2_with (at_builtin; refine wpList_append_user rfl (.tmp 36) (.tmp 38) rfl w.heap.size _ n F rfl ((O116.alloc _).alloc _) _ 1 ⟨Z, D, x, 0⟩ rfl ⟨by simp, by simp, by simp, by simp⟩ (by omega) (by simp; omega) ?_; intro v' w' O3 g3)
        have hr3 := ((hr112.alloc _).alloc _).kept g3 (fun q hq => by have := (HO.out.lt q hq).1; omega)
        have hg3 : w.grownBy w' (some b) := grown_own ((g115.trans (World.grownBy_alloc w114 _ (some b))).trans (World.grownBy_alloc _ _ (some b))) g3 (fun q hq => (HO.out.lt q hq).1)
        clear hr112 g115 O116 g3 HO hsz rF
        go_wp2
        go_roundw
        case rel => exact ⟨j - 1, n + 1, _, q5, by omega, by rw [show ((j - 1 : Nat) : Int) = (j : Int) - 1 by omega], O3, HF, by omega, hr3, hg3⟩
        case measure => simp [intOf]; omega
      · skip
        obtain rfl : j = 0 := by omega
        have HH := Lib.hid rF.out
        clear rF
        go_wp2
        go_ret
        exact ⟨_, n, F, q, rfl, rO, by omega, HH.out, by omega, rR, rg⟩
  · skip
    subst ka kb
    go_wp2_with fail
    refine (num_any b ((p + 1) + 1) zs _ w12.heap.size 5 [2, 3, 1, 4, 0] (hr10.alloc _) (IntsAt.new w12 _ [2, 3, 1, 4, 0]) rfl hr10.1 (by omega) (by omega) (by omega)).mono ?_
    rintro e w121 ⟨y117, hy118, rfl, hr119, h120⟩
    have h122 := (World.grownBy_alloc w12 (.cells #[.int .i64 2, .int .i64 3, .int .i64 1, .int .i64 4, .int .i64 0] 3) (some b)).trans h120
    clear h120
    have g123 := g13.trans h122
    have O124 := O14.kept h122 (O14.off hbl)
    clear O14
    clear hr10 h122 g13
    obtain ⟨J, rfl, hJ⟩ : ∃ s : Nat, y117 = s ∧ s ≤ 4 := by
      simp only [List.mem_cons, List.not_mem_nil, or_false] at hy118
      exact ⟨y117.toNat, by omega, by omega⟩
    clear hy118
    obtain ⟨q125, hq⟩ : ∃ q, (((p + 1) + 1) + 1) = q := ⟨_, rfl⟩
    have hqb : q125 ≤ p + 3 := by omega
    rw [hq] at hr119
    clear hq
    go_wp2
    go_loopw [3, 6] (fun v i wr => ∃ (j n : Nat) (F : Nat → Usr) (q : Nat), n + j ≤ 4 ∧ i = .int .i64 j ∧ UF wr w.heap.size v n F ∧ Hid (∀ i, i < n → DrU (F i)) ∧ q + 150 * j ≤ p + 700 ∧ RdAt wr b q zs ∧ w.grownBy wr (some b)) (fun _ i _ => (intOf i).toNat)
    case atStart => exact ⟨J, 0, _, q125, by omega, rfl, O124, Lib.hid (fun t ht => absurd ht (Nat.not_lt_zero t)), by omega, hr119, g123⟩
    case round =>
      obtain ⟨j, n, F, q, hjn, rfl, rO, rF, rq, rR, rg⟩ := hrel
      clear O124 hr119 g123 hqb
      by_cases h0 : 0 < j
      · skip
        go_wp2_with fail
        refine (pick_any b q 8 zs _ rR (by omega) (by omega) (by omega)).mono ?_
        rintro e w130 ⟨k126, hk127, rfl, hr128, h129⟩
        have g131 := rg.trans h129
        have O132 := rO.kept h129 (rO.off hbl)
        clear rO
        clear rR h129 rg
        have hW : Calls Try.prog 123 #[.int .i64 3, .int .i64 (k126 : Int)] w130 fun e w' => e = .returned (.string (walshB (tw 3) k126)) ∧ Below w130.heap.size w130 w' := l3Walsh_any 3 k126 w130 (by omega) (by omega)
        have hZ1 : seqB (walshB (tw 3) k126) = true := walshB_seq _ _ (by rw [tw3]; omega) (by rw [tw3]; omega)
        have hZ2 : (walshB (tw 3) k126).size ≤ 8 := by rw [walshB_size, tw3]; omega
        obtain ⟨Z, hZ⟩ : ∃ Z, walshB (tw 3) k126 = Z := ⟨_, rfl⟩
        rw [hZ] at hW hZ1 hZ2
        have HZ := Lib.hid (And.intro hZ1 hZ2)
        clear hZ hZ1 hZ2
        go_wp2_with fail
        refine (hW).mono ?_
        rintro e w135 ⟨rfl, h134⟩
        have g136 := g131.trans (grown_any (grown_of_below h134) (some b))
        have O137 := O132.below h134
        clear O132
        have hr133 := hr128.below h134
        clear hr128 h134 g131
        clear hW
        go_wp2_with fail
        refine (l4User_any b (q + 1) Z zs _ hr133 (by omega)).mono ?_
        rintro e w140 ⟨D, x, y, q5, rfl, hD, hD8, hx1, hx4, hy0, hy6, hq5, hr138, h139⟩
        have g141 := g136.trans h139
        have O142 := O137.kept h139 (O137.off hbl)
        clear O137
        clear hr133 h139 g136
        have HF : Hid (∀ i, i < n + 1 → DrU (if i < n then F i else ⟨Z, D, x, y⟩)) := Lib.hid (fun i hi => by
          by_cases e : i < n
          · rw [if_pos e]; exact rF.out i e
          · rw [if_neg e]; exact ⟨HZ.out.1, HZ.out.2, hD, hD8, hx1, hx4, hy0, hy6⟩)
        have hsz : w.heap.size ≤ w140.heap.size := g141.size
        have HO := Lib.hid O142
        go_wp2_with (at_builtin; refine wpList_append_user rfl (.tmp 36) (.tmp 38) rfl w.heap.size _ n F rfl ((O142.alloc _).alloc _) _ 1 ⟨Z, D, x, y⟩ rfl ⟨by simp, by simp, by simp, by simp⟩ (by omega) (by simp; omega) ?_; intro v' w' O3 g3)
        have hr3 := ((hr138.alloc _).alloc _).kept g3 (fun q hq => by have := (HO.out.lt q hq).1; omega)
        have hg3 : w.grownBy w' (some b) := grown_own ((g141.trans (World.grownBy_alloc w140 _ (some b))).trans (World.grownBy_alloc _ _ (some b))) g3 (fun q hq => (HO.out.lt q hq).1)
        clear hr138 g141 O142 g3 HO hsz rF
        go_wp2
        go_roundw
        case rel => exact ⟨j - 1, n + 1, _, q5, by omega, by rw [show ((j - 1 : Nat) : Int) = (j : Int) - 1 by omega], O3, HF, by omega, hr3, hg3⟩
        case measure => simp [intOf]; omega
      · skip
        obtain rfl : j = 0 := by omega
        have HH := Lib.hid rF.out
        clear rF
        go_wp2
        go_ret
        exact ⟨_, n, F, q, rfl, rO, by omega, HH.out, by omega, rR, rg⟩
/-- A signal, a code, a delay and a number of bits were drawn. -/
def HeardPost (b p : Nat) (zs : List Int) (w : World) (e : Ending) (w' : World) : Prop :=
  ∃ (v : Value) (n : Nat) (f : Nat → Int) (z : ByteArray) (d c : Int) (q : Nat), e = .returned (.tuple #[v, .string z, .int .i64 d, .int .i64 c]) ∧ OF w' w.heap.size v n f ∧ n ≤ 3001 ∧ (∀ j, j < n → FitsI (f j)) ∧ z.size ≤ 1000 ∧ FitsI d ∧ FitsI c ∧ q ≤ p + 2500 ∧ RdAt w' b q zs ∧ w.grownBy w' (some b)
theorem smp_fits {n : Nat} {f : Nat → Int} (h : ∀ j, -100000 ≤ smp n f j ∧ smp n f j ≤ 100000) : ∀ j, j < n → FitsI (f j) := fun j hj => by
  have := h j
  unfold smp at this
  rw [if_pos hj] at this
  unfold FitsI; omega
set_option maxHeartbeats 12800000 in
theorem l4Heard_any (b p : Nat) (zs : List Int) (w : World) (hr : RdAt w b p zs) (hp : p ≤ 500000) :
    Calls Try.prog 92 #[.pointer (some ⟨b, 0, none⟩)] w (HeardPost b p zs w) := by
  have hbl := hr.1
  go_enter Try.func92, Try.ntmps92
  go_wp2_with fail
  refine (l4List_any b p zs _ hr (by omega)).mono ?_
  rintro e w145 ⟨v, n, f, q1, rfl, O0, hn, hD, hq1, hr143, h144⟩
  clear hr
  obtain ⟨va, vc, rfl, -⟩ := O0.form
  have HD := Lib.hid hD
  have hM : mxN (usN f) n ≤ 70 := mxN_le n (fun i hi => (hD i hi).len)
  have hG := fun j => smF_k (ns := usN f) (fs := usF f) j n (fun i hi => (us_bd (hD i hi).ok).2.2 j)
  have hG2 : ∀ j, -100000 ≤ smp (mxN (usN f) n) (smF (usN f) (usF f) n) j ∧ smp (mxN (usN f) n) (smF (usN f) (usF f) n) j ≤ 100000 := fun j => by have := hG j; rw [smF_smp]; omega
  have hS := l4Send_any _ n f w145 O0.users (DrU.oks n hD) (by omega)
  obtain ⟨M, hMM⟩ : ∃ M, mxN (usN f) n = M := ⟨_, rfl⟩
  obtain ⟨G, hGG⟩ : ∃ M, smF (usN f) (usF f) n = M := ⟨_, rfl⟩
  rw [hMM] at hS hM hG2
  rw [hGG] at hS hG2
  have HG := Lib.hid hG2
  have HS : Hid (∀ j, -90000 ≤ smp M G j ∧ smp M G j ≤ 90000) := Lib.hid (fun j => by have := hG j; rw [← hMM, ← hGG, smF_smp]; omega)
  clear hMM hGG hG hG2 hD
  go_wp2_with fail
  refine hS.mono ?_
  rintro e w147 ⟨s, rfl, P0, h146⟩
  have P1 := P0.mono h144.size
  clear hS P0
  have g149 := h144.trans (grown_any (grown_of_below h146) (some b))
  have O150 := O0.below h146
  clear O0
  have hr148 := hr143.below h146
  clear hr143 h146 h144
  go_wp2_with fail
  refine (l4Code_any b q1 zs _ hr148 (by omega)).mono ?_
  rintro e w153 ⟨z, q2, rfl, hz, hq2, hr151, h152⟩
  have g154 := g149.trans h152
  have O155 := O150.kept h152 (O150.off hbl)
  clear O150
  have P156 := P1.kept h152 (P1.offb hbl)
  clear P1
  clear hr148 h152 g149
  go_wp2_with fail
  refine (pick_any b q2 5 zs _ hr151 (by omega) (by omega) (by omega)).mono ?_
  rintro e w161 ⟨k157, hk158, rfl, hr159, h160⟩
  have g162 := g154.trans h160
  have O163 := O155.kept h160 (O155.off hbl)
  clear O155
  have P164 := P156.kept h160 (P156.offb hbl)
  clear P156
  clear hr151 h160 g154
  go_wp2_with fail
  refine (pick_any b (q2 + 1) 8 zs _ hr159 (by omega) (by omega) (by omega)).mono ?_
  rintro e w169 ⟨k165, hk166, rfl, hr167, h168⟩
  have g170 := g162.trans h168
  have O171 := O163.kept h168 (O163.off hbl)
  clear O163
  have P172 := P164.kept h168 (P164.offb hbl)
  clear P164
  clear hr159 h168 g162
  by_cases n0 : n = 0
  · skip
    subst n0
    clear O171 HD
    obtain ⟨q173, hqq173⟩ : ∃ q, ((q2 + 1) + 1) = q := ⟨_, rfl⟩
    have hbq173 : q173 ≤ p + 1100 := by omega
    rw [hqq173] at hr167
    clear hqq173
    go_wp2_with fail
    refine (pick_any b q173 3 zs _ hr167 (by omega) (by omega) (by omega)).mono ?_
    rintro e w178 ⟨k174, hk175, rfl, hr176, h177⟩
    have g179 := g170.trans h177
    have P180 := P172.kept h177 (P172.offb hbl)
    clear P172
    clear hr167 h177 g170
    by_cases c3 : k174 = 0
    · skip
      subst c3
      clear hk175
      go_wp2_with fail
      refine (l4Some_any b (q173 + 1) 30 zs _ hr176 (by omega) (by omega)).mono ?_
      rintro e w191 ⟨tv181, tn182, tf183, q184, rfl, T185, hn186, hf187, hq188, hr189, h190⟩
      have g192 := g179.trans h190
      have P193 := P180.kept h190 (P180.offb hbl)
      clear P180
      clear hr176 h190 g179
      have hsm : ∀ j, -10 ≤ smp tn182 tf183 j ∧ smp tn182 tf183 j ≤ 10 := fun j => by unfold smp; split <;> first | exact hf187 j (by assumption) | omega
      have hA := l4Add_any _ _ M tn182 G tf183 w191 P193.ints T185.ints (by omega) (by omega) (fun j => by have := HG.out j; omega) (fun j => by have := hsm j; omega)
      have hG9 : ∀ j, -100000 ≤ smp (max M tn182) (agF M G tn182 tf183) j ∧ smp (max M tn182) (agF M G tn182 tf183) j ≤ 100000 := fun j => by
        have h1 := HS.out j
        have h2 := hsm j
        unfold smp
        split
        · unfold agF; omega
        · omega
      obtain ⟨M9, hM9⟩ : ∃ X, max M tn182 = X := ⟨_, rfl⟩
      have hM9b : M9 ≤ 70 := by omega
      obtain ⟨G9, hGG9⟩ : ∃ X, agF M G tn182 tf183 = X := ⟨_, rfl⟩
      rw [hM9, hGG9] at hA hG9
      have HG9 := Lib.hid hG9
      clear hM9 hGG9 hG9 hsm hf187 T185
      go_wp2_with fail
      refine hA.mono ?_
      rintro e w195 ⟨s9, rfl, P9, h194⟩
      have P8 := P9.mono g192.size
      clear hA P9 P193
      have g197 := g192.trans (grown_any (grown_of_below h194) (some b))
      have hr196 := hr189.below h194
      clear hr189 h194 g192
      obtain ⟨q198, hqq198⟩ : ∃ q, q184 = q := ⟨_, rfl⟩
      have hbq198 : q198 ≤ p + 1300 := by omega
      rw [hqq198] at hr196
      clear hqq198
      go_wp2_with fail
      refine (pick_any b q198 24 zs _ hr196 (by omega) (by omega) (by omega)).mono ?_
      rintro e w203 ⟨k199, hk200, rfl, hr201, h202⟩
      have g204 := g197.trans h202
      have P205 := P8.kept h202 (P8.offb hbl)
      clear P8
      clear hr196 h202 g197
      by_cases c0 : k199 = 0
      · skip
        subst c0
        clear hk200
        go_wp2_with fail
        refine (num_any b (q198 + 1) zs _ w203.heap.size 4 [-1, 3000, 3001, 9223372036854775807] (hr201.alloc _) (IntsAt.new w203 _ [-1, 3000, 3001, 9223372036854775807]) rfl hr201.1 (by omega) (by omega) (by omega)).mono ?_
        rintro e w210 ⟨y206, hy207, rfl, hr208, h209⟩
        have h211 := (World.grownBy_alloc w203 (.cells #[.int .i64 (-1), .int .i64 3000, .int .i64 3001, .int .i64 9223372036854775807] 3) (some b)).trans h209
        clear h209
        have g212 := g204.trans h211
        have P213 := P205.kept h211 (P205.offb hbl)
        clear P205
        clear hr201 h211 g204
        have fy : FitsI y206 := by simp only [List.mem_cons, List.not_mem_nil, or_false] at hy207; unfold FitsI; omega
        clear hy207
        go_wp2_with fail
        have hsz := g212.size
        refine (l4Bad_any b ((q198 + 1) + 1) w.heap.size zs _ M9 G9 _ hr208 (by omega) P213 (by omega) (smp_fits HG9.out) hbl hsz).mono ?_
        rintro e w224 ⟨x214, m215, u216, q217, rfl, O218, hm219, hg220, hq221, hr222, h223⟩
        have g225 := h223 w g212 (Nat.le_refl _)
        have H226 := Lib.hid hg220
        clear hsz hr208 g212 h223 P213 hg220
        go_wp2_with fail
        refine (l2Bad_big b q217 zs z _ hr222 (by omega) (by omega)).mono ?_
        rintro e w229 ⟨zz, q9, rfl, hzz, hq9, hr227, h228⟩
        have g230 := g225.trans h228
        have P231 := O218.kept h228 (O218.offb hbl)
        clear O218
        clear hr222 h228 g225
        go_wp2
        try simp only [Exit.inBlock, Exit.then]
        refine bodyPost_ret (results_tmp4 rfl _ _ _) rfl ?_
        exact ⟨x214, m215, u216, zz, _, _, q9, rfl, P231, hm219, H226.out, hzz, fy, FitsI.nat _ (by omega), by omega, hr227, g230⟩
      · skip
        by_cases c1 : k199 = 1
        · skip
          subst c1
          clear hk200 c0
          go_wp2_with fail
          refine (num_any b (q198 + 1) zs _ w203.heap.size 4 [-1, 600, 601, 9223372036854775807] (hr201.alloc _) (IntsAt.new w203 _ [-1, 600, 601, 9223372036854775807]) rfl hr201.1 (by omega) (by omega) (by omega)).mono ?_
          rintro e w236 ⟨y232, hy233, rfl, hr234, h235⟩
          have h237 := (World.grownBy_alloc w203 (.cells #[.int .i64 (-1), .int .i64 600, .int .i64 601, .int .i64 9223372036854775807] 3) (some b)).trans h235
          clear h235
          have g238 := g204.trans h237
          have P239 := P205.kept h237 (P205.offb hbl)
          clear P205
          clear hr201 h237 g204
          have fy : FitsI y232 := by simp only [List.mem_cons, List.not_mem_nil, or_false] at hy233; unfold FitsI; omega
          clear hy233
          go_wp2_with fail
          have hsz := g238.size
          refine (l4Bad_any b ((q198 + 1) + 1) w.heap.size zs _ M9 G9 _ hr234 (by omega) P239 (by omega) (smp_fits HG9.out) hbl hsz).mono ?_
          rintro e w250 ⟨x240, m241, u242, q243, rfl, O244, hm245, hg246, hq247, hr248, h249⟩
          have g251 := h249 w g238 (Nat.le_refl _)
          have H252 := Lib.hid hg246
          clear hsz hr234 g238 h249 P239 hg246
          go_wp2_with fail
          refine (l2Bad_big b q243 zs z _ hr248 (by omega) (by omega)).mono ?_
          rintro e w255 ⟨zz, q9, rfl, hzz, hq9, hr253, h254⟩
          have g256 := g251.trans h254
          have P257 := O244.kept h254 (O244.offb hbl)
          clear O244
          clear hr248 h254 g251
          go_wp2
          try simp only [Exit.inBlock, Exit.then]
          refine bodyPost_ret (results_tmp4 rfl _ _ _) rfl ?_
          exact ⟨x240, m241, u242, zz, _, _, q9, rfl, P257, hm245, H252.out, hzz, FitsI.nat _ (by omega), fy, by omega, hr253, g256⟩
        · skip
          have e0 : ((k199 : Int) == 0) = false := by rw [beq_eq_false_iff_ne]; omega
          have e1 : ((k199 : Int) == 1) = false := by rw [beq_eq_false_iff_ne]; omega
          go_wp2_with fail
          have hsz := g204.size
          refine (l4Bad_any b (q198 + 1) w.heap.size zs _ M9 G9 _ hr201 (by omega) P205 (by omega) (smp_fits HG9.out) hbl hsz).mono ?_
          rintro e w268 ⟨x258, m259, u260, q261, rfl, O262, hm263, hg264, hq265, hr266, h267⟩
          have g269 := h267 w g204 (Nat.le_refl _)
          have H270 := Lib.hid hg264
          clear hsz hr201 g204 h267 P205 hg264
          go_wp2_with fail
          refine (l2Bad_big b q261 zs z _ hr266 (by omega) (by omega)).mono ?_
          rintro e w273 ⟨zz, q9, rfl, hzz, hq9, hr271, h272⟩
          have g274 := g269.trans h272
          have P275 := O262.kept h272 (O262.offb hbl)
          clear O262
          clear hr266 h272 g269
          go_wp2
          try simp only [Exit.inBlock, Exit.then]
          refine bodyPost_ret (results_tmp4 rfl _ _ _) rfl ?_
          exact ⟨x258, m259, u260, zz, _, _, q9, rfl, P275, hm263, H270.out, hzz, FitsI.nat _ (by omega), FitsI.nat _ (by omega), by omega, hr271, g274⟩
    · skip
      have e3 : ((k174 : Int) == 0) = false := by rw [beq_eq_false_iff_ne]; omega
      obtain ⟨q276, hqq276⟩ : ∃ q, (q173 + 1) = q := ⟨_, rfl⟩
      have hbq276 : q276 ≤ p + 1300 := by omega
      rw [hqq276] at hr176
      clear hqq276
      go_wp2_with fail
      refine (pick_any b q276 24 zs _ hr176 (by omega) (by omega) (by omega)).mono ?_
      rintro e w281 ⟨k277, hk278, rfl, hr279, h280⟩
      have g282 := g179.trans h280
      have P283 := P180.kept h280 (P180.offb hbl)
      clear P180
      clear hr176 h280 g179
      by_cases c0 : k277 = 0
      · skip
        subst c0
        clear hk278
        go_wp2_with fail
        refine (num_any b (q276 + 1) zs _ w281.heap.size 4 [-1, 3000, 3001, 9223372036854775807] (hr279.alloc _) (IntsAt.new w281 _ [-1, 3000, 3001, 9223372036854775807]) rfl hr279.1 (by omega) (by omega) (by omega)).mono ?_
        rintro e w288 ⟨y284, hy285, rfl, hr286, h287⟩
        have h289 := (World.grownBy_alloc w281 (.cells #[.int .i64 (-1), .int .i64 3000, .int .i64 3001, .int .i64 9223372036854775807] 3) (some b)).trans h287
        clear h287
        have g290 := g282.trans h289
        have P291 := P283.kept h289 (P283.offb hbl)
        clear P283
        clear hr279 h289 g282
        have fy : FitsI y284 := by simp only [List.mem_cons, List.not_mem_nil, or_false] at hy285; unfold FitsI; omega
        clear hy285
        go_wp2_with fail
        have hsz := g290.size
        refine (l4Bad_any b ((q276 + 1) + 1) w.heap.size zs _ M G _ hr286 (by omega) P291 (by omega) (smp_fits HG.out) hbl hsz).mono ?_
        rintro e w302 ⟨x292, m293, u294, q295, rfl, O296, hm297, hg298, hq299, hr300, h301⟩
        have g303 := h301 w g290 (Nat.le_refl _)
        have H304 := Lib.hid hg298
        clear hsz hr286 g290 h301 P291 hg298
        go_wp2_with fail
        refine (l2Bad_big b q295 zs z _ hr300 (by omega) (by omega)).mono ?_
        rintro e w307 ⟨zz, q9, rfl, hzz, hq9, hr305, h306⟩
        have g308 := g303.trans h306
        have P309 := O296.kept h306 (O296.offb hbl)
        clear O296
        clear hr300 h306 g303
        go_wp2
        try simp only [Exit.inBlock, Exit.then]
        refine bodyPost_ret (results_tmp4 rfl _ _ _) rfl ?_
        exact ⟨x292, m293, u294, zz, _, _, q9, rfl, P309, hm297, H304.out, hzz, fy, FitsI.nat _ (by omega), by omega, hr305, g308⟩
      · skip
        by_cases c1 : k277 = 1
        · skip
          subst c1
          clear hk278 c0
          go_wp2_with fail
          refine (num_any b (q276 + 1) zs _ w281.heap.size 4 [-1, 600, 601, 9223372036854775807] (hr279.alloc _) (IntsAt.new w281 _ [-1, 600, 601, 9223372036854775807]) rfl hr279.1 (by omega) (by omega) (by omega)).mono ?_
          rintro e w314 ⟨y310, hy311, rfl, hr312, h313⟩
          have h315 := (World.grownBy_alloc w281 (.cells #[.int .i64 (-1), .int .i64 600, .int .i64 601, .int .i64 9223372036854775807] 3) (some b)).trans h313
          clear h313
          have g316 := g282.trans h315
          have P317 := P283.kept h315 (P283.offb hbl)
          clear P283
          clear hr279 h315 g282
          have fy : FitsI y310 := by simp only [List.mem_cons, List.not_mem_nil, or_false] at hy311; unfold FitsI; omega
          clear hy311
          go_wp2_with fail
          have hsz := g316.size
          refine (l4Bad_any b ((q276 + 1) + 1) w.heap.size zs _ M G _ hr312 (by omega) P317 (by omega) (smp_fits HG.out) hbl hsz).mono ?_
          rintro e w328 ⟨x318, m319, u320, q321, rfl, O322, hm323, hg324, hq325, hr326, h327⟩
          have g329 := h327 w g316 (Nat.le_refl _)
          have H330 := Lib.hid hg324
          clear hsz hr312 g316 h327 P317 hg324
          go_wp2_with fail
          refine (l2Bad_big b q321 zs z _ hr326 (by omega) (by omega)).mono ?_
          rintro e w333 ⟨zz, q9, rfl, hzz, hq9, hr331, h332⟩
          have g334 := g329.trans h332
          have P335 := O322.kept h332 (O322.offb hbl)
          clear O322
          clear hr326 h332 g329
          go_wp2
          try simp only [Exit.inBlock, Exit.then]
          refine bodyPost_ret (results_tmp4 rfl _ _ _) rfl ?_
          exact ⟨x318, m319, u320, zz, _, _, q9, rfl, P335, hm323, H330.out, hzz, FitsI.nat _ (by omega), fy, by omega, hr331, g334⟩
        · skip
          have e0 : ((k277 : Int) == 0) = false := by rw [beq_eq_false_iff_ne]; omega
          have e1 : ((k277 : Int) == 1) = false := by rw [beq_eq_false_iff_ne]; omega
          go_wp2_with fail
          have hsz := g282.size
          refine (l4Bad_any b (q276 + 1) w.heap.size zs _ M G _ hr279 (by omega) P283 (by omega) (smp_fits HG.out) hbl hsz).mono ?_
          rintro e w346 ⟨x336, m337, u338, q339, rfl, O340, hm341, hg342, hq343, hr344, h345⟩
          have g347 := h345 w g282 (Nat.le_refl _)
          have H348 := Lib.hid hg342
          clear hsz hr279 g282 h345 P283 hg342
          go_wp2_with fail
          refine (l2Bad_big b q339 zs z _ hr344 (by omega) (by omega)).mono ?_
          rintro e w351 ⟨zz, q9, rfl, hzz, hq9, hr349, h350⟩
          have g352 := g347.trans h350
          have P353 := O340.kept h350 (O340.offb hbl)
          clear O340
          clear hr344 h350 g347
          go_wp2
          try simp only [Exit.inBlock, Exit.then]
          refine bodyPost_ret (results_tmp4 rfl _ _ _) rfl ?_
          exact ⟨x336, m337, u338, zz, _, _, q9, rfl, P353, hm341, H348.out, hzz, FitsI.nat _ (by omega), FitsI.nat _ (by omega), by omega, hr349, g352⟩
  · skip
    have n1 : (0 : Int) < (n : Int) := by omega
    go_wp2_with fail
    refine (pick_any b ((q2 + 1) + 1) 4 zs _ hr167 (by omega) (by omega) (by omega)).mono ?_
    rintro e w358 ⟨k354, hk355, rfl, hr356, h357⟩
    have g359 := g170.trans h357
    have O360 := O171.kept h357 (O171.off hbl)
    clear O171
    have P361 := P172.kept h357 (P172.offb hbl)
    clear P172
    clear hr167 h357 g170
    by_cases c9 : k354 = 0
    · skip
      subst c9
      clear hk355 O360 HD
      obtain ⟨q362, hqq362⟩ : ∃ q, (((q2 + 1) + 1) + 1) = q := ⟨_, rfl⟩
      have hbq362 : q362 ≤ p + 1100 := by omega
      rw [hqq362] at hr356
      clear hqq362
      go_wp2_with fail
      refine (pick_any b q362 3 zs _ hr356 (by omega) (by omega) (by omega)).mono ?_
      rintro e w367 ⟨k363, hk364, rfl, hr365, h366⟩
      have g368 := g359.trans h366
      have P369 := P361.kept h366 (P361.offb hbl)
      clear P361
      clear hr356 h366 g359
      by_cases c3 : k363 = 0
      · skip
        subst c3
        clear hk364
        go_wp2_with fail
        refine (l4Some_any b (q362 + 1) 30 zs _ hr365 (by omega) (by omega)).mono ?_
        rintro e w380 ⟨tv370, tn371, tf372, q373, rfl, T374, hn375, hf376, hq377, hr378, h379⟩
        have g381 := g368.trans h379
        have P382 := P369.kept h379 (P369.offb hbl)
        clear P369
        clear hr365 h379 g368
        have hsm : ∀ j, -10 ≤ smp tn371 tf372 j ∧ smp tn371 tf372 j ≤ 10 := fun j => by unfold smp; split <;> first | exact hf376 j (by assumption) | omega
        have hA := l4Add_any _ _ M tn371 G tf372 w380 P382.ints T374.ints (by omega) (by omega) (fun j => by have := HG.out j; omega) (fun j => by have := hsm j; omega)
        have hG9 : ∀ j, -100000 ≤ smp (max M tn371) (agF M G tn371 tf372) j ∧ smp (max M tn371) (agF M G tn371 tf372) j ≤ 100000 := fun j => by
          have h1 := HS.out j
          have h2 := hsm j
          unfold smp
          split
          · unfold agF; omega
          · omega
        obtain ⟨M9, hM9⟩ : ∃ X, max M tn371 = X := ⟨_, rfl⟩
        have hM9b : M9 ≤ 70 := by omega
        obtain ⟨G9, hGG9⟩ : ∃ X, agF M G tn371 tf372 = X := ⟨_, rfl⟩
        rw [hM9, hGG9] at hA hG9
        have HG9 := Lib.hid hG9
        clear hM9 hGG9 hG9 hsm hf376 T374
        go_wp2_with fail
        refine hA.mono ?_
        rintro e w384 ⟨s9, rfl, P9, h383⟩
        have P8 := P9.mono g381.size
        clear hA P9 P382
        have g386 := g381.trans (grown_any (grown_of_below h383) (some b))
        have hr385 := hr378.below h383
        clear hr378 h383 g381
        obtain ⟨q387, hqq387⟩ : ∃ q, q373 = q := ⟨_, rfl⟩
        have hbq387 : q387 ≤ p + 1300 := by omega
        rw [hqq387] at hr385
        clear hqq387
        go_wp2_with fail
        refine (pick_any b q387 24 zs _ hr385 (by omega) (by omega) (by omega)).mono ?_
        rintro e w392 ⟨k388, hk389, rfl, hr390, h391⟩
        have g393 := g386.trans h391
        have P394 := P8.kept h391 (P8.offb hbl)
        clear P8
        clear hr385 h391 g386
        by_cases c0 : k388 = 0
        · skip
          subst c0
          clear hk389
          go_wp2_with fail
          refine (num_any b (q387 + 1) zs _ w392.heap.size 4 [-1, 3000, 3001, 9223372036854775807] (hr390.alloc _) (IntsAt.new w392 _ [-1, 3000, 3001, 9223372036854775807]) rfl hr390.1 (by omega) (by omega) (by omega)).mono ?_
          rintro e w399 ⟨y395, hy396, rfl, hr397, h398⟩
          have h400 := (World.grownBy_alloc w392 (.cells #[.int .i64 (-1), .int .i64 3000, .int .i64 3001, .int .i64 9223372036854775807] 3) (some b)).trans h398
          clear h398
          have g401 := g393.trans h400
          have P402 := P394.kept h400 (P394.offb hbl)
          clear P394
          clear hr390 h400 g393
          have fy : FitsI y395 := by simp only [List.mem_cons, List.not_mem_nil, or_false] at hy396; unfold FitsI; omega
          clear hy396
          go_wp2_with fail
          have hsz := g401.size
          refine (l4Bad_any b ((q387 + 1) + 1) w.heap.size zs _ M9 G9 _ hr397 (by omega) P402 (by omega) (smp_fits HG9.out) hbl hsz).mono ?_
          rintro e w413 ⟨x403, m404, u405, q406, rfl, O407, hm408, hg409, hq410, hr411, h412⟩
          have g414 := h412 w g401 (Nat.le_refl _)
          have H415 := Lib.hid hg409
          clear hsz hr397 g401 h412 P402 hg409
          go_wp2_with fail
          refine (l2Bad_big b q406 zs z _ hr411 (by omega) (by omega)).mono ?_
          rintro e w418 ⟨zz, q9, rfl, hzz, hq9, hr416, h417⟩
          have g419 := g414.trans h417
          have P420 := O407.kept h417 (O407.offb hbl)
          clear O407
          clear hr411 h417 g414
          go_wp2
          try simp only [Exit.inBlock, Exit.then]
          refine bodyPost_ret (results_tmp4 rfl _ _ _) rfl ?_
          exact ⟨x403, m404, u405, zz, _, _, q9, rfl, P420, hm408, H415.out, hzz, fy, FitsI.nat _ (by omega), by omega, hr416, g419⟩
        · skip
          by_cases c1 : k388 = 1
          · skip
            subst c1
            clear hk389 c0
            go_wp2_with fail
            refine (num_any b (q387 + 1) zs _ w392.heap.size 4 [-1, 600, 601, 9223372036854775807] (hr390.alloc _) (IntsAt.new w392 _ [-1, 600, 601, 9223372036854775807]) rfl hr390.1 (by omega) (by omega) (by omega)).mono ?_
            rintro e w425 ⟨y421, hy422, rfl, hr423, h424⟩
            have h426 := (World.grownBy_alloc w392 (.cells #[.int .i64 (-1), .int .i64 600, .int .i64 601, .int .i64 9223372036854775807] 3) (some b)).trans h424
            clear h424
            have g427 := g393.trans h426
            have P428 := P394.kept h426 (P394.offb hbl)
            clear P394
            clear hr390 h426 g393
            have fy : FitsI y421 := by simp only [List.mem_cons, List.not_mem_nil, or_false] at hy422; unfold FitsI; omega
            clear hy422
            go_wp2_with fail
            have hsz := g427.size
            refine (l4Bad_any b ((q387 + 1) + 1) w.heap.size zs _ M9 G9 _ hr423 (by omega) P428 (by omega) (smp_fits HG9.out) hbl hsz).mono ?_
            rintro e w439 ⟨x429, m430, u431, q432, rfl, O433, hm434, hg435, hq436, hr437, h438⟩
            have g440 := h438 w g427 (Nat.le_refl _)
            have H441 := Lib.hid hg435
            clear hsz hr423 g427 h438 P428 hg435
            go_wp2_with fail
            refine (l2Bad_big b q432 zs z _ hr437 (by omega) (by omega)).mono ?_
            rintro e w444 ⟨zz, q9, rfl, hzz, hq9, hr442, h443⟩
            have g445 := g440.trans h443
            have P446 := O433.kept h443 (O433.offb hbl)
            clear O433
            clear hr437 h443 g440
            go_wp2
            try simp only [Exit.inBlock, Exit.then]
            refine bodyPost_ret (results_tmp4 rfl _ _ _) rfl ?_
            exact ⟨x429, m430, u431, zz, _, _, q9, rfl, P446, hm434, H441.out, hzz, FitsI.nat _ (by omega), fy, by omega, hr442, g445⟩
          · skip
            have e0 : ((k388 : Int) == 0) = false := by rw [beq_eq_false_iff_ne]; omega
            have e1 : ((k388 : Int) == 1) = false := by rw [beq_eq_false_iff_ne]; omega
            go_wp2_with fail
            have hsz := g393.size
            refine (l4Bad_any b (q387 + 1) w.heap.size zs _ M9 G9 _ hr390 (by omega) P394 (by omega) (smp_fits HG9.out) hbl hsz).mono ?_
            rintro e w457 ⟨x447, m448, u449, q450, rfl, O451, hm452, hg453, hq454, hr455, h456⟩
            have g458 := h456 w g393 (Nat.le_refl _)
            have H459 := Lib.hid hg453
            clear hsz hr390 g393 h456 P394 hg453
            go_wp2_with fail
            refine (l2Bad_big b q450 zs z _ hr455 (by omega) (by omega)).mono ?_
            rintro e w462 ⟨zz, q9, rfl, hzz, hq9, hr460, h461⟩
            have g463 := g458.trans h461
            have P464 := O451.kept h461 (O451.offb hbl)
            clear O451
            clear hr455 h461 g458
            go_wp2
            try simp only [Exit.inBlock, Exit.then]
            refine bodyPost_ret (results_tmp4 rfl _ _ _) rfl ?_
            exact ⟨x447, m448, u449, zz, _, _, q9, rfl, P464, hm452, H459.out, hzz, FitsI.nat _ (by omega), FitsI.nat _ (by omega), by omega, hr460, g463⟩
      · skip
        have e3 : ((k363 : Int) == 0) = false := by rw [beq_eq_false_iff_ne]; omega
        obtain ⟨q465, hqq465⟩ : ∃ q, (q362 + 1) = q := ⟨_, rfl⟩
        have hbq465 : q465 ≤ p + 1300 := by omega
        rw [hqq465] at hr365
        clear hqq465
        go_wp2_with fail
        refine (pick_any b q465 24 zs _ hr365 (by omega) (by omega) (by omega)).mono ?_
        rintro e w470 ⟨k466, hk467, rfl, hr468, h469⟩
        have g471 := g368.trans h469
        have P472 := P369.kept h469 (P369.offb hbl)
        clear P369
        clear hr365 h469 g368
        by_cases c0 : k466 = 0
        · skip
          subst c0
          clear hk467
          go_wp2_with fail
          refine (num_any b (q465 + 1) zs _ w470.heap.size 4 [-1, 3000, 3001, 9223372036854775807] (hr468.alloc _) (IntsAt.new w470 _ [-1, 3000, 3001, 9223372036854775807]) rfl hr468.1 (by omega) (by omega) (by omega)).mono ?_
          rintro e w477 ⟨y473, hy474, rfl, hr475, h476⟩
          have h478 := (World.grownBy_alloc w470 (.cells #[.int .i64 (-1), .int .i64 3000, .int .i64 3001, .int .i64 9223372036854775807] 3) (some b)).trans h476
          clear h476
          have g479 := g471.trans h478
          have P480 := P472.kept h478 (P472.offb hbl)
          clear P472
          clear hr468 h478 g471
          have fy : FitsI y473 := by simp only [List.mem_cons, List.not_mem_nil, or_false] at hy474; unfold FitsI; omega
          clear hy474
          go_wp2_with fail
          have hsz := g479.size
          refine (l4Bad_any b ((q465 + 1) + 1) w.heap.size zs _ M G _ hr475 (by omega) P480 (by omega) (smp_fits HG.out) hbl hsz).mono ?_
          rintro e w491 ⟨x481, m482, u483, q484, rfl, O485, hm486, hg487, hq488, hr489, h490⟩
          have g492 := h490 w g479 (Nat.le_refl _)
          have H493 := Lib.hid hg487
          clear hsz hr475 g479 h490 P480 hg487
          go_wp2_with fail
          refine (l2Bad_big b q484 zs z _ hr489 (by omega) (by omega)).mono ?_
          rintro e w496 ⟨zz, q9, rfl, hzz, hq9, hr494, h495⟩
          have g497 := g492.trans h495
          have P498 := O485.kept h495 (O485.offb hbl)
          clear O485
          clear hr489 h495 g492
          go_wp2
          try simp only [Exit.inBlock, Exit.then]
          refine bodyPost_ret (results_tmp4 rfl _ _ _) rfl ?_
          exact ⟨x481, m482, u483, zz, _, _, q9, rfl, P498, hm486, H493.out, hzz, fy, FitsI.nat _ (by omega), by omega, hr494, g497⟩
        · skip
          by_cases c1 : k466 = 1
          · skip
            subst c1
            clear hk467 c0
            go_wp2_with fail
            refine (num_any b (q465 + 1) zs _ w470.heap.size 4 [-1, 600, 601, 9223372036854775807] (hr468.alloc _) (IntsAt.new w470 _ [-1, 600, 601, 9223372036854775807]) rfl hr468.1 (by omega) (by omega) (by omega)).mono ?_
            rintro e w503 ⟨y499, hy500, rfl, hr501, h502⟩
            have h504 := (World.grownBy_alloc w470 (.cells #[.int .i64 (-1), .int .i64 600, .int .i64 601, .int .i64 9223372036854775807] 3) (some b)).trans h502
            clear h502
            have g505 := g471.trans h504
            have P506 := P472.kept h504 (P472.offb hbl)
            clear P472
            clear hr468 h504 g471
            have fy : FitsI y499 := by simp only [List.mem_cons, List.not_mem_nil, or_false] at hy500; unfold FitsI; omega
            clear hy500
            go_wp2_with fail
            have hsz := g505.size
            refine (l4Bad_any b ((q465 + 1) + 1) w.heap.size zs _ M G _ hr501 (by omega) P506 (by omega) (smp_fits HG.out) hbl hsz).mono ?_
            rintro e w517 ⟨x507, m508, u509, q510, rfl, O511, hm512, hg513, hq514, hr515, h516⟩
            have g518 := h516 w g505 (Nat.le_refl _)
            have H519 := Lib.hid hg513
            clear hsz hr501 g505 h516 P506 hg513
            go_wp2_with fail
            refine (l2Bad_big b q510 zs z _ hr515 (by omega) (by omega)).mono ?_
            rintro e w522 ⟨zz, q9, rfl, hzz, hq9, hr520, h521⟩
            have g523 := g518.trans h521
            have P524 := O511.kept h521 (O511.offb hbl)
            clear O511
            clear hr515 h521 g518
            go_wp2
            try simp only [Exit.inBlock, Exit.then]
            refine bodyPost_ret (results_tmp4 rfl _ _ _) rfl ?_
            exact ⟨x507, m508, u509, zz, _, _, q9, rfl, P524, hm512, H519.out, hzz, FitsI.nat _ (by omega), fy, by omega, hr520, g523⟩
          · skip
            have e0 : ((k466 : Int) == 0) = false := by rw [beq_eq_false_iff_ne]; omega
            have e1 : ((k466 : Int) == 1) = false := by rw [beq_eq_false_iff_ne]; omega
            go_wp2_with fail
            have hsz := g471.size
            refine (l4Bad_any b (q465 + 1) w.heap.size zs _ M G _ hr468 (by omega) P472 (by omega) (smp_fits HG.out) hbl hsz).mono ?_
            rintro e w535 ⟨x525, m526, u527, q528, rfl, O529, hm530, hg531, hq532, hr533, h534⟩
            have g536 := h534 w g471 (Nat.le_refl _)
            have H537 := Lib.hid hg531
            clear hsz hr468 g471 h534 P472 hg531
            go_wp2_with fail
            refine (l2Bad_big b q528 zs z _ hr533 (by omega) (by omega)).mono ?_
            rintro e w540 ⟨zz, q9, rfl, hzz, hq9, hr538, h539⟩
            have g541 := g536.trans h539
            have P542 := O529.kept h539 (O529.offb hbl)
            clear O529
            clear hr533 h539 g536
            go_wp2
            try simp only [Exit.inBlock, Exit.then]
            refine bodyPost_ret (results_tmp4 rfl _ _ _) rfl ?_
            exact ⟨x525, m526, u527, zz, _, _, q9, rfl, P542, hm530, H537.out, hzz, FitsI.nat _ (by omega), FitsI.nat _ (by omega), by omega, hr538, g541⟩
    · skip
      have e9 : (0 : Int) < (k354 : Int) := by omega
      go_wp2_with fail
      refine (pick_any b (((q2 + 1) + 1) + 1) n zs _ hr356 (by omega) (by omega) (by omega)).mono ?_
      rintro e w547 ⟨k543, hk544, rfl, hr545, h546⟩
      have g548 := g359.trans h546
      have O549 := O360.kept h546 (O360.off hbl)
      clear O360
      have P550 := P361.kept h546 (P361.offb hbl)
      clear P361
      clear hr356 h546 g359
      have hDi := HD.out k543 hk544
      obtain ⟨a1, a2, a3, a4, a5, a6, a7, a8⟩ := hDi
      obtain ⟨va', vc', ef, hfm⟩ := O549.form
      obtain ⟨g9, rfl, _, hgl⟩ := hfm (by omega)
      injection ef with ef1 _ ef3
      subst ef1 ef3
      obtain ⟨b0, b1, b2, b3⟩ := O549.cells k543 hk544
      obtain ⟨C, hC⟩ : ∃ C, (f k543).code = C := ⟨_, rfl⟩
      obtain ⟨Dt, hDt⟩ : ∃ C, (f k543).data = C := ⟨_, rfl⟩
      obtain ⟨X, hX⟩ : ∃ C, (f k543).gain = C := ⟨_, rfl⟩
      obtain ⟨Y, hY⟩ : ∃ C, (f k543).delay = C := ⟨_, rfl⟩
      rw [hC] at b0 a2
      rw [hDt] at b1 a4
      rw [hX] at b2
      rw [hY] at b3 a7 a8
      have ii0 : (0 : Int) ≤ (k543 : Int) := by omega
      have ii1 : (k543 : Int) < (n : Int) := by omega
      clear hC hDt hX hY a1 a3 a5 a6 HD
      have rA := hr545.alloc (.cells #[.string C, .string Dt, .int .i64 X, .int .i64 Y] 30)
      have PA := P550.alloc (.cells #[.string C, .string Dt, .int .i64 X, .int .i64 Y] 30)
      have gA := g548.trans (World.grownBy_alloc w547 (.cells #[.string C, .string Dt, .int .i64 X, .int .i64 Y] 30) (some b))
      go_wp2_with fail
      clear b0 b1 b2 b3 O549 P550 hr545 g548
      obtain ⟨WA, hWA⟩ : ∃ W, w547.alloc (.cells #[.string C, .string Dt, .int .i64 X, .int .i64 Y] 30) = W := ⟨_, rfl⟩
      rw [hWA] at rA PA gA ⊢
      clear hWA
      obtain ⟨q551, hqq551⟩ : ∃ q, ((((q2 + 1) + 1) + 1) + 1) = q := ⟨_, rfl⟩
      have hbq551 : q551 ≤ p + 1100 := by omega
      rw [hqq551] at rA
      clear hqq551
      go_wp2_with fail
      refine (pick_any b q551 3 zs _ rA (by omega) (by omega) (by omega)).mono ?_
      rintro e w556 ⟨k552, hk553, rfl, hr554, h555⟩
      have g557 := gA.trans h555
      have P558 := PA.kept h555 (PA.offb hbl)
      clear PA
      clear rA h555 gA
      by_cases c3 : k552 = 0
      · skip
        subst c3
        clear hk553
        go_wp2_with fail
        refine (l4Some_any b (q551 + 1) 30 zs _ hr554 (by omega) (by omega)).mono ?_
        rintro e w569 ⟨tv559, tn560, tf561, q562, rfl, T563, hn564, hf565, hq566, hr567, h568⟩
        have g570 := g557.trans h568
        have P571 := P558.kept h568 (P558.offb hbl)
        clear P558
        clear hr554 h568 g557
        have hsm : ∀ j, -10 ≤ smp tn560 tf561 j ∧ smp tn560 tf561 j ≤ 10 := fun j => by unfold smp; split <;> first | exact hf565 j (by assumption) | omega
        have hA := l4Add_any _ _ M tn560 G tf561 w569 P571.ints T563.ints (by omega) (by omega) (fun j => by have := HG.out j; omega) (fun j => by have := hsm j; omega)
        have hG9 : ∀ j, -100000 ≤ smp (max M tn560) (agF M G tn560 tf561) j ∧ smp (max M tn560) (agF M G tn560 tf561) j ≤ 100000 := fun j => by
          have h1 := HS.out j
          have h2 := hsm j
          unfold smp
          split
          · unfold agF; omega
          · omega
        obtain ⟨M9, hM9⟩ : ∃ X, max M tn560 = X := ⟨_, rfl⟩
        have hM9b : M9 ≤ 70 := by omega
        obtain ⟨G9, hGG9⟩ : ∃ X, agF M G tn560 tf561 = X := ⟨_, rfl⟩
        rw [hM9, hGG9] at hA hG9
        have HG9 := Lib.hid hG9
        clear hM9 hGG9 hG9 hsm hf565 T563
        go_wp2_with fail
        refine hA.mono ?_
        rintro e w573 ⟨s9, rfl, P9, h572⟩
        have P8 := P9.mono g570.size
        clear hA P9 P571
        have g575 := g570.trans (grown_any (grown_of_below h572) (some b))
        have hr574 := hr567.below h572
        clear hr567 h572 g570
        obtain ⟨q576, hqq576⟩ : ∃ q, q562 = q := ⟨_, rfl⟩
        have hbq576 : q576 ≤ p + 1300 := by omega
        rw [hqq576] at hr574
        clear hqq576
        go_wp2_with fail
        refine (pick_any b q576 24 zs _ hr574 (by omega) (by omega) (by omega)).mono ?_
        rintro e w581 ⟨k577, hk578, rfl, hr579, h580⟩
        have g582 := g575.trans h580
        have P583 := P8.kept h580 (P8.offb hbl)
        clear P8
        clear hr574 h580 g575
        by_cases c0 : k577 = 0
        · skip
          subst c0
          clear hk578
          go_wp2_with fail
          refine (num_any b (q576 + 1) zs _ w581.heap.size 4 [-1, 3000, 3001, 9223372036854775807] (hr579.alloc _) (IntsAt.new w581 _ [-1, 3000, 3001, 9223372036854775807]) rfl hr579.1 (by omega) (by omega) (by omega)).mono ?_
          rintro e w588 ⟨y584, hy585, rfl, hr586, h587⟩
          have h589 := (World.grownBy_alloc w581 (.cells #[.int .i64 (-1), .int .i64 3000, .int .i64 3001, .int .i64 9223372036854775807] 3) (some b)).trans h587
          clear h587
          have g590 := g582.trans h589
          have P591 := P583.kept h589 (P583.offb hbl)
          clear P583
          clear hr579 h589 g582
          have fy : FitsI y584 := by simp only [List.mem_cons, List.not_mem_nil, or_false] at hy585; unfold FitsI; omega
          clear hy585
          go_wp2_with fail
          have hsz := g590.size
          refine (l4Bad_any b ((q576 + 1) + 1) w.heap.size zs _ M9 G9 _ hr586 (by omega) P591 (by omega) (smp_fits HG9.out) hbl hsz).mono ?_
          rintro e w602 ⟨x592, m593, u594, q595, rfl, O596, hm597, hg598, hq599, hr600, h601⟩
          have g603 := h601 w g590 (Nat.le_refl _)
          have H604 := Lib.hid hg598
          clear hsz hr586 g590 h601 P591 hg598
          go_wp2_with fail
          refine (l2Bad_big b q595 zs C _ hr600 (by omega) (by omega)).mono ?_
          rintro e w607 ⟨zz, q9, rfl, hzz, hq9, hr605, h606⟩
          have g608 := g603.trans h606
          have P609 := O596.kept h606 (O596.offb hbl)
          clear O596
          clear hr600 h606 g603
          go_wp2
          try simp only [Exit.inBlock, Exit.then]
          refine bodyPost_ret (results_tmp4 rfl _ _ _) rfl ?_
          exact ⟨x592, m593, u594, zz, _, _, q9, rfl, P609, hm597, H604.out, hzz, fy, FitsI.nat _ (by omega), by omega, hr605, g608⟩
        · skip
          by_cases c1 : k577 = 1
          · skip
            subst c1
            clear hk578 c0
            go_wp2_with fail
            refine (num_any b (q576 + 1) zs _ w581.heap.size 4 [-1, 600, 601, 9223372036854775807] (hr579.alloc _) (IntsAt.new w581 _ [-1, 600, 601, 9223372036854775807]) rfl hr579.1 (by omega) (by omega) (by omega)).mono ?_
            rintro e w614 ⟨y610, hy611, rfl, hr612, h613⟩
            have h615 := (World.grownBy_alloc w581 (.cells #[.int .i64 (-1), .int .i64 600, .int .i64 601, .int .i64 9223372036854775807] 3) (some b)).trans h613
            clear h613
            have g616 := g582.trans h615
            have P617 := P583.kept h615 (P583.offb hbl)
            clear P583
            clear hr579 h615 g582
            have fy : FitsI y610 := by simp only [List.mem_cons, List.not_mem_nil, or_false] at hy611; unfold FitsI; omega
            clear hy611
            go_wp2_with fail
            have hsz := g616.size
            refine (l4Bad_any b ((q576 + 1) + 1) w.heap.size zs _ M9 G9 _ hr612 (by omega) P617 (by omega) (smp_fits HG9.out) hbl hsz).mono ?_
            rintro e w628 ⟨x618, m619, u620, q621, rfl, O622, hm623, hg624, hq625, hr626, h627⟩
            have g629 := h627 w g616 (Nat.le_refl _)
            have H630 := Lib.hid hg624
            clear hsz hr612 g616 h627 P617 hg624
            go_wp2_with fail
            refine (l2Bad_big b q621 zs C _ hr626 (by omega) (by omega)).mono ?_
            rintro e w633 ⟨zz, q9, rfl, hzz, hq9, hr631, h632⟩
            have g634 := g629.trans h632
            have P635 := O622.kept h632 (O622.offb hbl)
            clear O622
            clear hr626 h632 g629
            go_wp2
            try simp only [Exit.inBlock, Exit.then]
            refine bodyPost_ret (results_tmp4 rfl _ _ _) rfl ?_
            exact ⟨x618, m619, u620, zz, _, _, q9, rfl, P635, hm623, H630.out, hzz, (show FitsI Y by unfold FitsI; omega), fy, by omega, hr631, g634⟩
          · skip
            have e0 : ((k577 : Int) == 0) = false := by rw [beq_eq_false_iff_ne]; omega
            have e1 : ((k577 : Int) == 1) = false := by rw [beq_eq_false_iff_ne]; omega
            go_wp2_with fail
            have hsz := g582.size
            refine (l4Bad_any b (q576 + 1) w.heap.size zs _ M9 G9 _ hr579 (by omega) P583 (by omega) (smp_fits HG9.out) hbl hsz).mono ?_
            rintro e w646 ⟨x636, m637, u638, q639, rfl, O640, hm641, hg642, hq643, hr644, h645⟩
            have g647 := h645 w g582 (Nat.le_refl _)
            have H648 := Lib.hid hg642
            clear hsz hr579 g582 h645 P583 hg642
            go_wp2_with fail
            refine (l2Bad_big b q639 zs C _ hr644 (by omega) (by omega)).mono ?_
            rintro e w651 ⟨zz, q9, rfl, hzz, hq9, hr649, h650⟩
            have g652 := g647.trans h650
            have P653 := O640.kept h650 (O640.offb hbl)
            clear O640
            clear hr644 h650 g647
            go_wp2
            try simp only [Exit.inBlock, Exit.then]
            refine bodyPost_ret (results_tmp4 rfl _ _ _) rfl ?_
            exact ⟨x636, m637, u638, zz, _, _, q9, rfl, P653, hm641, H648.out, hzz, (show FitsI Y by unfold FitsI; omega), FitsI.nat _ (by omega), by omega, hr649, g652⟩
      · skip
        have e3 : ((k552 : Int) == 0) = false := by rw [beq_eq_false_iff_ne]; omega
        obtain ⟨q654, hqq654⟩ : ∃ q, (q551 + 1) = q := ⟨_, rfl⟩
        have hbq654 : q654 ≤ p + 1300 := by omega
        rw [hqq654] at hr554
        clear hqq654
        go_wp2_with fail
        refine (pick_any b q654 24 zs _ hr554 (by omega) (by omega) (by omega)).mono ?_
        rintro e w659 ⟨k655, hk656, rfl, hr657, h658⟩
        have g660 := g557.trans h658
        have P661 := P558.kept h658 (P558.offb hbl)
        clear P558
        clear hr554 h658 g557
        by_cases c0 : k655 = 0
        · skip
          subst c0
          clear hk656
          go_wp2_with fail
          refine (num_any b (q654 + 1) zs _ w659.heap.size 4 [-1, 3000, 3001, 9223372036854775807] (hr657.alloc _) (IntsAt.new w659 _ [-1, 3000, 3001, 9223372036854775807]) rfl hr657.1 (by omega) (by omega) (by omega)).mono ?_
          rintro e w666 ⟨y662, hy663, rfl, hr664, h665⟩
          have h667 := (World.grownBy_alloc w659 (.cells #[.int .i64 (-1), .int .i64 3000, .int .i64 3001, .int .i64 9223372036854775807] 3) (some b)).trans h665
          clear h665
          have g668 := g660.trans h667
          have P669 := P661.kept h667 (P661.offb hbl)
          clear P661
          clear hr657 h667 g660
          have fy : FitsI y662 := by simp only [List.mem_cons, List.not_mem_nil, or_false] at hy663; unfold FitsI; omega
          clear hy663
          go_wp2_with fail
          have hsz := g668.size
          refine (l4Bad_any b ((q654 + 1) + 1) w.heap.size zs _ M G _ hr664 (by omega) P669 (by omega) (smp_fits HG.out) hbl hsz).mono ?_
          rintro e w680 ⟨x670, m671, u672, q673, rfl, O674, hm675, hg676, hq677, hr678, h679⟩
          have g681 := h679 w g668 (Nat.le_refl _)
          have H682 := Lib.hid hg676
          clear hsz hr664 g668 h679 P669 hg676
          go_wp2_with fail
          refine (l2Bad_big b q673 zs C _ hr678 (by omega) (by omega)).mono ?_
          rintro e w685 ⟨zz, q9, rfl, hzz, hq9, hr683, h684⟩
          have g686 := g681.trans h684
          have P687 := O674.kept h684 (O674.offb hbl)
          clear O674
          clear hr678 h684 g681
          go_wp2
          try simp only [Exit.inBlock, Exit.then]
          refine bodyPost_ret (results_tmp4 rfl _ _ _) rfl ?_
          exact ⟨x670, m671, u672, zz, _, _, q9, rfl, P687, hm675, H682.out, hzz, fy, FitsI.nat _ (by omega), by omega, hr683, g686⟩
        · skip
          by_cases c1 : k655 = 1
          · skip
            subst c1
            clear hk656 c0
            go_wp2_with fail
            refine (num_any b (q654 + 1) zs _ w659.heap.size 4 [-1, 600, 601, 9223372036854775807] (hr657.alloc _) (IntsAt.new w659 _ [-1, 600, 601, 9223372036854775807]) rfl hr657.1 (by omega) (by omega) (by omega)).mono ?_
            rintro e w692 ⟨y688, hy689, rfl, hr690, h691⟩
            have h693 := (World.grownBy_alloc w659 (.cells #[.int .i64 (-1), .int .i64 600, .int .i64 601, .int .i64 9223372036854775807] 3) (some b)).trans h691
            clear h691
            have g694 := g660.trans h693
            have P695 := P661.kept h693 (P661.offb hbl)
            clear P661
            clear hr657 h693 g660
            have fy : FitsI y688 := by simp only [List.mem_cons, List.not_mem_nil, or_false] at hy689; unfold FitsI; omega
            clear hy689
            go_wp2_with fail
            have hsz := g694.size
            refine (l4Bad_any b ((q654 + 1) + 1) w.heap.size zs _ M G _ hr690 (by omega) P695 (by omega) (smp_fits HG.out) hbl hsz).mono ?_
            rintro e w706 ⟨x696, m697, u698, q699, rfl, O700, hm701, hg702, hq703, hr704, h705⟩
            have g707 := h705 w g694 (Nat.le_refl _)
            have H708 := Lib.hid hg702
            clear hsz hr690 g694 h705 P695 hg702
            go_wp2_with fail
            refine (l2Bad_big b q699 zs C _ hr704 (by omega) (by omega)).mono ?_
            rintro e w711 ⟨zz, q9, rfl, hzz, hq9, hr709, h710⟩
            have g712 := g707.trans h710
            have P713 := O700.kept h710 (O700.offb hbl)
            clear O700
            clear hr704 h710 g707
            go_wp2
            try simp only [Exit.inBlock, Exit.then]
            refine bodyPost_ret (results_tmp4 rfl _ _ _) rfl ?_
            exact ⟨x696, m697, u698, zz, _, _, q9, rfl, P713, hm701, H708.out, hzz, (show FitsI Y by unfold FitsI; omega), fy, by omega, hr709, g712⟩
          · skip
            have e0 : ((k655 : Int) == 0) = false := by rw [beq_eq_false_iff_ne]; omega
            have e1 : ((k655 : Int) == 1) = false := by rw [beq_eq_false_iff_ne]; omega
            go_wp2_with fail
            have hsz := g660.size
            refine (l4Bad_any b (q654 + 1) w.heap.size zs _ M G _ hr657 (by omega) P661 (by omega) (smp_fits HG.out) hbl hsz).mono ?_
            rintro e w724 ⟨x714, m715, u716, q717, rfl, O718, hm719, hg720, hq721, hr722, h723⟩
            have g725 := h723 w g660 (Nat.le_refl _)
            have H726 := Lib.hid hg720
            clear hsz hr657 g660 h723 P661 hg720
            go_wp2_with fail
            refine (l2Bad_big b q717 zs C _ hr722 (by omega) (by omega)).mono ?_
            rintro e w729 ⟨zz, q9, rfl, hzz, hq9, hr727, h728⟩
            have g730 := g725.trans h728
            have P731 := O718.kept h728 (O718.offb hbl)
            clear O718
            clear hr722 h728 g725
            go_wp2
            try simp only [Exit.inBlock, Exit.then]
            refine bodyPost_ret (results_tmp4 rfl _ _ _) rfl ?_
            exact ⟨x714, m715, u716, zz, _, _, q9, rfl, P731, hm719, H726.out, hzz, (show FitsI Y by unfold FitsI; omega), FitsI.nat _ (by omega), by omega, hr727, g730⟩
end Go.Proofs.Ythfcfnamaedffaa
