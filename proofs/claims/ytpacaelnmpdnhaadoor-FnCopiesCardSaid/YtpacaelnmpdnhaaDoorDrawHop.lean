/- Contracts of the draws of hops: some hops, hops that are sometimes none, sets of channels, numbers. -/
import Derived.Test.YtpacaelnmpdnhaaDoorDraw9
import Derived.Test.YtpacaelnmpdnhaaDoorMrgA
import Derived.Test.YtpacaelnmpdnhaaDoorMrgB
import Derived.Test.YtpacaelnmpdnhaaDoorMrgD
namespace Go.Proofs.YtpacaelnmpdnhaaDoor
open Go.RowKit
set_option linter.unusedVariables false
set_option maxRecDepth 100000
def chNums : List Int := [4, 5, 7, 8, 3, 16, 1, 2]
theorem chNums_at {v : Int} (h : v ∈ ([4, 5, 7, 8, 3, 16, 1, 2] : List Int)) : ∃ c : Nat, v = c ∧ 1 ≤ c ∧ c ≤ 16 := by
  simp only [List.mem_cons, List.not_mem_nil, or_false] at h
  exact ⟨v.toNat, by omega, by omega, by omega⟩
/-- Hops of c channels were drawn. -/
def HopPost (b p : Nat) (zs : List Int) (w : World) (e : Ending) (w' : World) : Prop :=
  ∃ (v : Value) (n : Nat) (f : Nat → Int) (c q : Nat), e = .returned (.tuple #[v, .int .i64 c]) ∧ OF w' w.heap.size v n f ∧ 1 ≤ n ∧ n ≤ 14 ∧ 1 ≤ c ∧ c ≤ 16 ∧ (∀ j, j < n → 0 ≤ f j ∧ f j < c) ∧ q ≤ p + 50 ∧ RdAt w' b q zs ∧ w.grownBy w' (some b)
theorem lin_draw (c u k : Nat) (hc1 : 1 ≤ c) (hc : c ≤ 16) (hu : u < c) (hk : k < 14) : linB c u (1 + (k : Int)) = true ∧ linN c u (1 + (k : Int)) = k + 1 ∧ ∀ j, j < k + 1 → 0 ≤ linF c u j ∧ linF c u j < c := by
  have h : linB c u (1 + (k : Int)) = true := (linB_iff _ _ _).2 (by omega)
  refine ⟨h, ?_, fun j _ => ?_⟩
  · unfold linN; rw [h]; simp; omega
  · unfold linF
    have := Nat.mod_lt ((u : Int).toNat * j) (show 0 < (c : Int).toNat by omega)
    omega
theorem seq_draw {s t x : Nat} (h : RegN s t x) (c k : Nat) (hc1 : 1 ≤ c) (hc : c ≤ 16) (hk : k < 300) : hsB s t x c (1 + (k : Int)) = true ∧ hsN s t x c (1 + (k : Int)) = k + 1 ∧ ∀ j, j < k + 1 → 0 ≤ hsF s t x c j ∧ hsF s t x c j < c := by
  have e : hsB s t x c (1 + (k : Int)) = true := (hsB_iff _ _ _ _ _).2 ⟨h.valid, by omega, by omega⟩
  refine ⟨e, ?_, fun j _ => ?_⟩
  · unfold hsN; rw [e]; simp; omega
  · unfold hsF
    have := Nat.mod_lt (stepsN (s : Int).toNat (t : Int).toNat (j * (s : Int).toNat) (x : Int).toNat) (show 0 < (c : Int).toNat by omega)
    omega
set_option maxHeartbeats 1600000 in
theorem l7Some_any (b p : Nat) (zs : List Int) (w : World) (hr : RdAt w b p zs) (hp : p ≤ 800000) :
    Calls Tryd.prog 41 #[.pointer (some ⟨b, 0, none⟩)] w (HopPost b p zs w) := by
  have hbl := hr.1
  go_enter Tryd.func41, Tryd.ntmps41
  go_wp2_with fail
  refine (num_any b p zs _ w.heap.size 8 [4, 5, 7, 8, 3, 16, 1, 2] (hr.alloc _) (IntsAt.new w _ [4, 5, 7, 8, 3, 16, 1, 2]) rfl hbl (by omega) (by omega) (by omega)).mono ?_
  rintro e w1 ⟨v, hv, rfl, hr1, hg1⟩
  obtain ⟨c, rfl, hc1, hc2⟩ := chNums_at hv
  have hg1' := (World.grownBy_alloc w _ (some b)).trans hg1
  clear hv hr hg1
  go_wp2_with fail
  refine (pick_any b (p + 1) 3 zs _ hr1 (by omega) (by omega) (by omega)).mono ?_
  rintro e w2 ⟨k, hk, rfl, hr2, hg2⟩
  have hg2' := hg1'.trans hg2
  clear hr1 hg1' hg2
  by_cases k0 : k = 0
  · subst k0
    clear hk
    go_wp2_with fail
    refine (pick_any b (p + 1 + 1) c zs _ hr2 (by omega) (by omega) (by omega)).mono ?_
    rintro e w3 ⟨u, hu, rfl, hr3, hg3⟩
    have hg3' := hg2'.trans hg3
    clear hr2 hg2' hg3
    go_wp2_with fail
    refine (pick_any b (p + 1 + 1 + 1) 14 zs _ hr3 (by omega) (by omega) (by omega)).mono ?_
    rintro e w4 ⟨k1, hk1, rfl, hr4, hg4⟩
    have hg4' := hg3'.trans hg4
    clear hr3 hg3' hg4
    obtain ⟨x1, x2, x3⟩ := lin_draw c u k1 hc1 hc2 hu hk1
    have hs := fun w => sLin_any c u (1 + (k1 : Int)) w
    rw [x1, x2] at hs
    have HS := Lib.hid hs
    have X3 := Lib.hid x3
    clear hs x1 x2 x3
    go_wp2_with fail
    refine (HS.out _).mono ?_
    rintro e w5 ⟨y, rfl, O5, b5⟩
    have hr5 := hr4.below b5
    have hg5 := hg4'.trans (grow b5 (some b))
    have O6 := O5.mono (show w.heap.size ≤ w4.heap.size from hg4'.size)
    clear HS O5 hr4 hg4' b5
    go_wp2
    go_ret2
    exact ⟨_, k1 + 1, _, c, p + 1 + 1 + 1 + 1, rfl, O6, by omega, by omega, hc1, hc2, X3.out, by omega, hr5, hg5⟩
  have e0 : ((k : Int) == 0) = false := by simp; omega
  by_cases k1 : k = 1
  · subst k1
    clear hk e0 k0
    go_wp2_with fail
    refine (l1Some_any b (p + 1 + 1) zs _ hr2 (by omega)).mono ?_
    rintro e w3 ⟨s, t, x, q, rfl, hR, hq, hr3, hg3⟩
    have hg3' := hg2'.trans hg3
    clear hr2 hg2' hg3
    go_wp2_with fail
    refine (pick_any b q 14 zs _ hr3 (by omega) (by omega) (by omega)).mono ?_
    rintro e w4 ⟨k1, hk1, rfl, hr4, hg4⟩
    have hg4' := hg3'.trans hg4
    clear hr3 hg3' hg4
    obtain ⟨x1, x2, x3⟩ := seq_draw hR c k1 hc1 hc2 (by omega)
    have hs := fun w => sSeq_any s t x c (1 + (k1 : Int)) w
    rw [x1, x2] at hs
    have HS := Lib.hid hs
    have X3 := Lib.hid x3
    clear hs x1 x2 x3
    go_wp2_with fail
    refine (HS.out _).mono ?_
    rintro e w5 ⟨y, rfl, O5, b5⟩
    have hr5 := hr4.below b5
    have hg5 := hg4'.trans (grow b5 (some b))
    have O6 := O5.mono (show w.heap.size ≤ w4.heap.size from hg4'.size)
    clear HS O5 hr4 hg4' b5
    go_wp2
    go_ret2
    exact ⟨_, k1 + 1, _, c, q + 1, rfl, O6, by omega, by omega, hc1, hc2, X3.out, by omega, hr5, hg5⟩
  · have e1 : ((k : Int) == 1) = false := by simp; omega
    have hs2 := hg2'.size
    have hr0 := hr2.alloc (.cells #[] 3)
    have hO := (OF.empty0 w2 (fun _ => 0)).mono hs2
    have hg0 := hg2'.trans (World.grownBy_alloc w2 (.cells #[] 3) (some b))
    have hl0 : w.heap.size ≤ w2.heap.size := hs2
    clear hr2 hg2' hs2
    go_wp2_with fail
    refine (pick_any b (p + 1 + 1) 12 zs _ hr0 (by omega) (by omega) (by omega)).mono ?_
    rintro e w3 ⟨k2, hk2, rfl, hr3, hg3⟩
    have hO3 := hO.kept hg3 (by
      cases hv : (Value.slice (some ⟨w2.heap.size, 0, none⟩) 0 0).ownBlock with
      | none => exact .inl rfl
      | some q => right; intro e; cases e; simp [Value.ownBlock] at hv; omega)
    have hg3' := hg0.trans hg3
    clear hr0 hO hg0 hg3 e0 e1 hl0
    go_wp2
    go_loopw [9, 10] (fun v i wr => ∃ (j n : Nat) (f : Nat → Int), n + j = k2 + 1 ∧ i = .int .i64 j ∧ OF wr w.heap.size v n f ∧ Hid (∀ t, t < n → 0 ≤ f t ∧ f t < c) ∧ RdAt wr b (p + 1 + 1 + 1 + n) zs ∧ w.grownBy wr (some b)) (fun _ i _ => (intOf i).toNat)
    case atStart => exact ⟨k2 + 1, 0, fun _ => 0, by omega, by first | rfl | go_num, hO3, Lib.hid (fun t ht => absurd ht (Nat.not_lt_zero t)), hr3, hg3'⟩
    case round =>
      obtain ⟨j, n, f, hjn, rfl, rO, rF, rR, rg⟩ := hrel
      clear hO3 hr3 hg3'
      by_cases h0 : 0 < j
      · go_wp2_with fail
        refine (pick_any b (p + 1 + 1 + 1 + n) c zs _ rR (by omega) (by omega) (by omega)).mono ?_
        rintro e w4 ⟨y, hy, rfl, hr4, hg4⟩
        have hO4 := rO.kept hg4 (by
          cases hv : u9.ownBlock with
          | none => exact .inl rfl
          | some q => right; intro e; cases e; have := (rO.lt _ hv).1; omega)
        have hgg := rg.trans hg4
        have hsz : w.heap.size ≤ w4.heap.size := hgg.size
        have HF : Hid (∀ t, t < n + 1 → 0 ≤ (if t < n then f t else (y : Int)) ∧ (if t < n then f t else (y : Int)) < c) := Lib.hid (fun t ht => by
          by_cases e : t < n
          · rw [if_pos e]; exact rF.out t e
          · rw [if_neg e]; omega)
        clear rO rR rg hg4 rF
        go_wp2_with (at_builtin; refine wpList_append_int rfl (.tmp 53) (.tmp 57) rfl w.heap.size _ n f rfl (hO4.alloc _) w4.heap.size 1 (y : Int) rfl (by simp) (by omega) (by simp; omega) ?_; intro v' w' O3 g3)
        have hr5 : RdAt w' b (p + 1 + 1 + 1 + n + 1) zs := (hr4.alloc _).kept g3 (fun q hq => by have := (hO4.lt q hq).1; omega)
        have hg5 : w.grownBy w' (some b) := grown_own (hgg.trans (World.grownBy_alloc w4 _ (some b))) g3 (fun q hq => (hO4.lt q hq).1)
        clear hO4 hr4 hgg g3
        go_wp2
        go_roundw
        case rel => exact ⟨j - 1, n + 1, _, by omega, by rw [show ((j - 1 : Nat) : Int) = (j : Int) - 1 by omega], O3, HF, hr5, hg5⟩
        case measure => simp [intOf]; omega
      · obtain rfl : j = 0 := by omega
        have HFF := Lib.hid rF.out
        clear rF
        go_wp2
        go_ret2
        exact ⟨_, n, f, c, p + 1 + 1 + 1 + n, rfl, rO, by omega, by omega, hc1, hc2, HFF.out, by omega, rR, rg⟩
/-- The first m numbers of a slice of one's own, by x[:m]. -/
theorem headO {w : World} {B : Nat} {v : Value} {n : Nat} {f : Nat → Int} (h : OF w B v n f) (m : Nat) (hm : m ≤ n) : ∃ u, (∀ w1, (Instr.sliceAt 31 v none (some (.int .i64 (m : Int))) none).run Tryd.prog w1 = .ok u w1) ∧ OF w B u m f := by
  have hC := h.intsC
  obtain ⟨h1, ⟨rfl, rfl⟩ | ⟨g, cap, cur, rfl, hB, hg, hn, hmx, hs, ht⟩⟩ := h
  · obtain rfl : m = 0 := by omega
    exact ⟨_, (headI hC 0 (Nat.le_refl _)).1, OF.nil _ _ _⟩
  · refine ⟨_, (headI hC m hm).1, by simp, .inr ⟨g, cap, cur, rfl, hB, hg, by omega, hmx, hs, ?_⟩⟩
    rw [Nat.mul_one] at ht ⊢
    have : cur.toList.take m = (cur.toList.take n).take m := by rw [List.take_take, Nat.min_eq_left hm]
    rw [this, ht, ← List.map_take, List.take_range, Nat.min_eq_left hm]
set_option maxHeartbeats 1600000 in
theorem l7Bad_any (b p B : Nat) (zs : List Int) (v : Value) (n : Nat) (f : Nat → Int) (w : World) (hr : RdAt w b p zs) (hp : p ≤ 800000) (hO : OF w B v n f) (hn : n ≤ 300) (hf : ∀ j, j < n → FitsI (f j)) (hBb : b < B) (hBw : B ≤ w.heap.size) :
    Calls Tryd.prog 44 #[.pointer (some ⟨b, 0, none⟩), v] w fun e w' => ∃ (u : Value) (m : Nat) (g : Nat → Int) (q : Nat), e = .returned u ∧ OF w' B u m g ∧ m ≤ 301 ∧ (∀ j, j < m → FitsI (g j)) ∧ q ≤ p + 10 ∧ RdAt w' b q zs ∧ ∃ w2 : World, w.grownBy w2 (some b) ∧ w2.grownBy w' v.ownBlock := by
  have hbl := hr.1
  have HF := Lib.hid hf
  clear hf
  go_enter Tryd.func44, Tryd.ntmps44
  go_wp2_with fail
  refine (pick_any b p 40 zs _ hr (by omega) (by omega) (by omega)).mono ?_
  rintro e w1 ⟨k, hk, rfl, hr1, hg1⟩
  have hO1 := hO.kept hg1 (by
    cases hv : v.ownBlock with
    | none => exact .inl rfl
    | some q => right; intro e; cases e; have := (hO.lt _ hv).1; omega)
  have hs1 : w.heap.size ≤ w1.heap.size := hg1.size
  clear hr hO
  by_cases k0 : k = 0
  · subst k0
    clear hk
    go_wp2_with fail
    refine (num_any b (p + 1) zs _ w1.heap.size 4 [-1, 15, 16, 9223372036854775807] (hr1.alloc _) (IntsAt.new w1 _ [-1, 15, 16, 9223372036854775807]) rfl hr1.1 (by omega) (by omega) (by omega)).mono ?_
    rintro e w2 ⟨y, hy, rfl, hr2, hg2⟩
    have hfy : Hid (FitsI y) := Lib.hid (by
      simp only [List.mem_cons, List.not_mem_nil, or_false] at hy
      unfold FitsI; omega)
    have ga := World.grownBy_alloc w1 (.cells #[.int .i64 (-1), .int .i64 15, .int .i64 16, .int .i64 9223372036854775807] 3) (some b)
    have hO2 := (hO1.alloc (.cells #[.int .i64 (-1), .int .i64 15, .int .i64 16, .int .i64 9223372036854775807] 3)).kept hg2 (by
      cases hv : v.ownBlock with
      | none => exact .inl rfl
      | some q => right; intro e; cases e; have := (hO1.lt _ hv).1; omega)
    have hg2' := hg1.trans (ga.trans hg2)
    have hs2 : w.heap.size ≤ w2.heap.size := hg2'.size
    have HF2 : Hid (∀ t, t < n + 1 → FitsI (if t < n then f t else y)) := Lib.hid (fun t ht => by
      by_cases e : t < n
      · rw [if_pos e]; exact HF.out t e
      · rw [if_neg e]; exact hfy.out)
    have HB := Lib.hid hBw
    clear hr1 hg1 hg2 hy ga hO1 hfy
    go_wp2_with (at_builtin; refine wpList_append_int rfl (.tmp 9) (.tmp 13) rfl B _ n f rfl (hO2.alloc _) w2.heap.size 1 y rfl (by simp) (by omega) (by simp; omega) ?_; intro v' w' O3 g3)
    have hr3 : RdAt w' b (p + 1 + 1) zs := (hr2.alloc _).kept g3 (fun q hq => by have := (hO2.lt q hq).1; omega)
    have HG : Hid (∃ w2 : World, w.grownBy w2 (some b) ∧ w2.grownBy w' v.ownBlock) := Lib.hid ⟨_, hg2'.trans (World.grownBy_alloc w2 _ (some b)), g3⟩
    clear hO2 hr2 hg2' g3
    go_wp2
    go_ret
    exact ⟨_, n + 1, _, p + 1 + 1, rfl, O3, by omega, HF2.out, by omega, hr3, HG.out⟩
  by_cases k1 : k = 1
  · subst k1
    clear hk k0
    have HG : Hid (∃ w3 : World, w.grownBy w3 (some b) ∧ w3.grownBy w1 v.ownBlock) := Lib.hid ⟨_, hg1, grow (Below.refl _ _) _⟩
    obtain ⟨u, h1, O2⟩ := headO hO1 0 (Nat.zero_le _)
    have hh : ∀ w1, (Instr.sliceAt 31 v none (some (.int .i64 0)) none).run Tryd.prog w1 = .ok u w1 := h1
    clear hg1 hO1 h1
    have HO := Lib.hid O2
    clear O2
    go_wp2
    go_ret
    exact ⟨_, 0, f, p + 1, rfl, HO.out, by omega, fun j hj => absurd hj (Nat.not_lt_zero j), by omega, hr1, HG.out⟩
  by_cases k2 : k = 2
  · subst k2
    clear hk k0 k1 hO1
    go_wp2_with fail
    refine (num_any b (p + 1) zs _ w1.heap.size 2 [300, 301] (hr1.alloc _) (IntsAt.new w1 _ [300, 301]) rfl hr1.1 (by omega) (by omega) (by omega)).mono ?_
    rintro e w2 ⟨y, hy, rfl, hr2, hg2⟩
    obtain ⟨s, rfl, hs5⟩ : ∃ s : Nat, y = s ∧ s ≤ 301 := by
      simp only [List.mem_cons, List.not_mem_nil, or_false] at hy
      exact ⟨y.toNat, by omega, by omega⟩
    have ga := World.grownBy_alloc w1 (.cells #[.int .i64 300, .int .i64 301] 3) (some b)
    have hg2' := hg1.trans (ga.trans hg2)
    have hs2 : w.heap.size ≤ w2.heap.size := hg2'.size
    have hmk := make_ints s (by omega)
    have OM := Lib.hid ((OF.made w2 s (by omega)).mono (show B ≤ w2.heap.size by omega))
    have hr3 := hr2.alloc (.cells (madeCells #[.int .i64 0] s) 3)
    have HG : Hid (∃ w3 : World, w.grownBy w3 (some b) ∧ w3.grownBy (w2.alloc (.cells (madeCells #[.int .i64 0] s) 3)) v.ownBlock) := Lib.hid ⟨_, hg2'.trans (World.grownBy_alloc w2 _ (some b)), grow (Below.refl _ _) _⟩
    clear hr1 hg1 hg2 hy ga hr2 hg2'
    go_wp2
    go_ret
    exact ⟨_, s, _, p + 1 + 1, rfl, OM.out, hs5, fun j _ => by unfold FitsI; omega, by omega, hr3, HG.out⟩
  · have e0 : ((k : Int) == 0) = false := by rw [beq_eq_false_iff_ne]; omega
    have e1 : ((k : Int) == 1) = false := by rw [beq_eq_false_iff_ne]; omega
    have e2 : ((k : Int) == 2) = false := by rw [beq_eq_false_iff_ne]; omega
    have HG : Hid (∃ w3 : World, w.grownBy w3 (some b) ∧ w3.grownBy w1 v.ownBlock) := Lib.hid ⟨_, hg1, grow (Below.refl _ _) _⟩
    clear hg1
    go_wp2
    go_ret
    exact ⟨_, n, f, p + 1, rfl, hO1, by omega, HF.out, by omega, hr1, HG.out⟩
end Go.Proofs.YtpacaelnmpdnhaaDoor
