/- The draws of used paths: l3Bent, DrawAllocateTree, DrawFreePaths. -/
import Derived.Test.YtgkiilpcobgboaaDraw5
import Derived.Test.YtgkiilpcobgboaaFamFree2
namespace Go.Proofs.Ytgkiilpcobgboaa
open Go.RowKit
set_option linter.unusedVariables false
set_option maxRecDepth 100000
theorem alloc_sz6 (n : Nat) (f : Nat → ByteArray) (D : Int) : (allocAns n f D).1.size ≤ 6 := by
  unfold allocAns
  split
  · rename_i hu
    have hD := ((usedB_iff _ _ _).1 hu).2.1
    split
    · decide
    · rename_i hl
      show (LS (frL n f D.toNat (tw D.toNat)) 0).size ≤ 6
      have hm : LS (frL n f D.toNat (tw D.toNat)) 0 ∈ frL n f D.toNat (tw D.toNat) := by
        unfold LS
        rw [List.getD_eq_getElem?_getD, List.getElem?_eq_getElem (by omega)]
        exact List.getElem_mem _
      obtain ⟨y, hy⟩ : ∃ y, LS (frL n f D.toNat (tw D.toNat)) 0 = y := ⟨_, rfl⟩
      rw [hy] at hm ⊢
      unfold frL at hm
      simp at hm
      obtain ⟨i, _, rfl⟩ := hm
      exact ((pathB_iff _).1 (digS_path i D.toNat (by omega))).2
  · decide
theorem own_neS {w : World} {B b : Nat} {v : Value} {n : Nat} {f : Nat → ByteArray} (h : SF w B v n f) (hb : b < B) : v.ownBlock = none ∨ v.ownBlock ≠ some b := by
  cases hv : v.ownBlock with
  | none => exact .inl rfl
  | some q => exact .inr (fun e => by have := (h.lt q hv).1; injection e with e; omega)
/-- A list with one string more. -/
def snocF (f : Nat → ByteArray) (n : Nat) (y : ByteArray) (j : Nat) : ByteArray := if j < n then f j else y
theorem snocF_sz {f : Nat → ByteArray} {n M : Nat} {y : ByteArray} (hf : ∀ i, i < n → (f i).size ≤ M) (hy : y.size ≤ M) : ∀ i, i < n + 1 → (snocF f n y i).size ≤ M := fun i _ => by
  unfold snocF; split
  · exact hf i (by assumption)
  · exact hy
theorem l3Bent_any (b p : Nat) (zs : List Int) (z : ByteArray) (w : World) (hr : RdAt w b p zs) (hp : p ≤ 800000) (hz : z.size ≤ 50) :
    Calls Try.prog 15 #[.pointer (some ⟨b, 0, none⟩), .string z] w fun e w' => ∃ y : ByteArray, e = .returned (.string y) ∧ y.size ≤ 60 ∧ RdAt w' b (p + 1) zs ∧ w.grownBy w' (some b) := by
  go_enter Try.func15, Try.ntmps15
  go_wp2_with fail
  refine (pick_any b p 20 zs _ hr (by omega) (by omega) (by omega)).mono ?_
  rintro e w1 ⟨k, hk, rfl, hr1, hg1⟩
  clear hr
  by_cases k0 : k = 0
  · subst k0
    clear hk
    have hzs : z.size + ByteArray.size ⟨#[50]⟩ ≤ 9223372036854775807 := by show z.size + 1 ≤ _; omega
    have HZ : Hid ((z ++ ⟨#[50]⟩ : ByteArray).size ≤ 60) := Lib.hid (by rw [ByteArray.size_append]; show z.size + 1 ≤ _; omega)
    go_wp2
    go_ret
    exact ⟨_, rfl, HZ.out, hr1, hg1⟩
  by_cases k1 : k = 1
  · subst k1
    clear hk k0
    go_wp2
    go_ret
    exact ⟨_, rfl, by decide, hr1, hg1⟩
  · have e0 : ((k : Int) == 0) = false := by simp; omega
    have e1 : ((k : Int) == 1) = false := by simp; omega
    go_wp2
    go_ret
    exact ⟨z, rfl, by omega, hr1, hg1⟩
/-- Used paths and a length were drawn. -/
def TreeUsed (w : World) (e : Ending) (w' : World) : Prop := ∃ (v : Value) (n : Nat) (f : Nat → ByteArray) (D : Int) (B : Nat), e = .returned (.tuple #[v, .int .i64 D]) ∧ SF w' B v n f ∧ w.heap.size ≤ B ∧ n ≤ 6 ∧ (∀ i, i < n → (f i).size ≤ 60) ∧ -1 ≤ D ∧ D ≤ 7 ∧ Below w.heap.size w w'
set_option maxHeartbeats 3200000 in
theorem drawTree_any (a : Option Addr) (len cap : Nat) (zs : List Int) (w : World) (h : IsBytes w a len cap zs) :
    Calls Try.prog 5 #[.slice a len cap] w (TreeUsed w) := by
  go_enter Try.func5, Try.ntmps5
  go_wp2_with fail
  refine (open_any a len cap zs _ h).mono ?_
  rintro e w1 ⟨b, ys, rfl, hr, hb, hlb⟩
  have hrb := hr.1
  have hr0 := hr.alloc (.cells #[] 9)
  have O0 := SF.empty w1 (fun _ => ⟨#[]⟩)
  have b0 := hb.alloc hb.size (.cells #[] 9)
  have hw1 := hb.size
  clear hr hb h
  go_wp2_with fail
  refine (pick_any b 0 6 ys _ hr0 (by omega) (by omega) (by omega)).mono ?_
  rintro e w2 ⟨k, hk, rfl, hr2, hg2⟩
  have O2 := O0.kept hg2 (own_neS O0 hrb)
  have b2 := b0.grown hg2 b0.size (fun q e => by cases e; omega)
  have hs2 : w1.heap.size ≤ w2.heap.size := Nat.le_trans (by simp) hg2.size
  obtain ⟨B, hB⟩ : ∃ B, w1.heap.size = B := ⟨_, rfl⟩
  rw [hB] at O2 hrb hw1 hs2
  have HWB := Lib.hid hw1
  clear hr0 O0 b0 hg2 hw1
  go_wp2
  clear hB
  go_loopw [5, 6] (fun v i wr => ∃ (j n q : Nat) (f : Nat → ByteArray), n + j ≤ 5 ∧ q + 102 * j ≤ 600 ∧ i = .int .i64 j ∧ SF wr B v n f ∧ Hid (∀ t, t < n → (f t).size ≤ 60) ∧ RdAt wr b q ys ∧ B ≤ wr.heap.size ∧ Below w.heap.size w wr) (fun _ i _ => (intOf i).toNat)
  case atStart => exact ⟨k, 0, 1, _, by omega, by omega, rfl, O2, Lib.hid (fun t ht => absurd ht (Nat.not_lt_zero t)), hr2, hs2, b2⟩
  case round =>
    obtain ⟨j, n, q, f, hnj, hjq, rfl, rO, rF, rR, rB, rb⟩ := hrel
    clear O2 hr2 hs2 b2
    have hnb := own_neS rO hrb
    by_cases h0 : 0 < j
    · go_wp2_with fail
      refine (pick_any b q 4 ys _ rR (by omega) (by omega) (by omega)).mono ?_
      rintro e w3 ⟨k3, hk3, rfl, hr3, hg3⟩
      have O3 := rO.kept hg3 hnb
      have b3 := rb.grown hg3 rb.size (fun q e => by cases e; have := HWB.out; omega)
      have s3 := Nat.le_trans rB hg3.size
      have hal := sAlloc_any _ n f (1 + (k3 : Int)) w3 O3.strs (by omega) (fun i hi => Nat.le_trans (rF.out i hi) (by omega))
      have hsz := alloc_sz6 n f (1 + (k3 : Int))
      obtain ⟨A, hA⟩ : ∃ A, allocAns n f (1 + (k3 : Int)) = A := ⟨_, rfl⟩
      rw [hA] at hal hsz
      obtain ⟨P, ok⟩ := A
      dsimp only at hal hsz
      have HAL := Lib.hid hal
      clear rO rR rb rB hg3 hal hA
      go_wp2_with fail
      refine HAL.out.mono ?_
      rintro e w4 ⟨rfl, n4⟩
      have O4 := O3.below n4
      have hr4 := hr3.below n4
      have b4 := below_then b3 (Nat.le_refl _) n4
      have s4 := Nat.le_trans s3 n4.size
      clear HAL O3 hr3 b3 s3 n4
      cases ok with
      | false =>
        go_wp2_with fail
        refine (l1String_any b (q + 1) 4 ys _ hr4 (by omega) (by omega)).mono ?_
        rintro e w6 ⟨z, q6, rfl, hz, hq6, hr6, hg6⟩
        have O6 := O4.kept hg6 hnb
        have b6 := b4.grown hg6 b4.size (fun q e => by cases e; have := HWB.out; omega)
        have s6 := Nat.le_trans s4 hg6.size
        have hzs : z.size + ByteArray.size ⟨#[49]⟩ ≤ 9223372036854775807 := by show z.size + 1 ≤ _; omega
        clear O4 hr4 b4 s4 hg6
        have O7 := Lib.hid (O6.alloc (.cells #[.string (z ++ ⟨#[49]⟩)] 9))
        have hr7 := Lib.hid (hr6.alloc (.cells #[.string (z ++ ⟨#[49]⟩)] 9))
        have b7 := Lib.hid (b6.alloc b6.size (.cells #[.string (z ++ ⟨#[49]⟩)] 9))
        have cY : Hid ((w6.alloc (.cells #[.string (z ++ ⟨#[49]⟩)] 9)).cell? ⟨w6.heap.size, 0, none⟩ = some (.string (z ++ ⟨#[49]⟩))) := Lib.hid (by simp)
        have hB7 : B ≤ (w6.alloc (.cells #[.string (z ++ ⟨#[49]⟩)] 9)).heap.size := by simp; omega
        have HF7 := Lib.hid (snocF_sz (y := (z ++ ⟨#[49]⟩)) rF.out (by rw [ByteArray.size_append]; show z.size + 1 ≤ _; omega))
        obtain ⟨a3, c3, rfl, -⟩ := O6.form
        clear O6 hr6 b6
        go_wp2_with (at_builtin; refine wpList_append_str rfl (.tmp 36) (.tmp 40) rfl B (.slice a3 n c3) n f rfl O7.out w6.heap.size 1 ((z ++ ⟨#[49]⟩)) rfl cY.out (by omega) hB7 ?_; intro v9 w9 O9 g9; have lo := fun q hq => (O7.out.lt q hq).1; have hr9 := hr7.out.kept g9 (fun q hq => by have := lo q hq; omega); have b9 := b7.out.grown g9 b7.out.size (fun q hq => Nat.le_trans HWB.out (lo q hq)); have s9 := Nat.le_trans hB7 g9.size; clear lo g9)
        clear O7 hr7 b7 cY hB7
        go_roundw
        case rel => exact ⟨j - 1, n + 1, q6, _, by omega, by omega, by rw [show ((j - 1 : Nat) : Int) = (j : Int) - 1 by omega], O9, HF7, hr9, s9, b9⟩
        case measure => simp [intOf]; omega
      | true =>
        go_wp2_with fail
        refine (pick_any b (q + 1) 3 ys _ hr4 (by omega) (by omega) (by omega)).mono ?_
        rintro e w5 ⟨k5, hk5, rfl, hr5, hg5⟩
        have O5 := O4.kept hg5 hnb
        have b5 := b4.grown hg5 b4.size (fun q e => by cases e; have := HWB.out; omega)
        have s5 := Nat.le_trans s4 hg5.size
        clear O4 hr4 b4 s4 hg5
        by_cases h5 : 0 < k5
        · have h5' : (0 : Int) < (k5 : Int) := by omega
          have O7 := Lib.hid (O5.alloc (.cells #[.string P] 9))
          have hr7 := Lib.hid (hr5.alloc (.cells #[.string P] 9))
          have b7 := Lib.hid (b5.alloc b5.size (.cells #[.string P] 9))
          have cY : Hid ((w5.alloc (.cells #[.string P] 9)).cell? ⟨w5.heap.size, 0, none⟩ = some (.string P)) := Lib.hid (by simp)
          have hB7 : B ≤ (w5.alloc (.cells #[.string P] 9)).heap.size := by simp; omega
          have HF7 := Lib.hid (snocF_sz (y := P) rF.out (by omega))
          obtain ⟨a3, c3, rfl, -⟩ := O5.form
          clear O5 hr5 b5
          go_wp2_with (at_builtin; refine wpList_append_str rfl (.tmp 32) (.tmp 34) rfl B (.slice a3 n c3) n f rfl O7.out w5.heap.size 1 (P) rfl cY.out (by omega) hB7 ?_; intro v9 w9 O9 g9; have lo := fun q hq => (O7.out.lt q hq).1; have hr9 := hr7.out.kept g9 (fun q hq => by have := lo q hq; omega); have b9 := b7.out.grown g9 b7.out.size (fun q hq => Nat.le_trans HWB.out (lo q hq)); have s9 := Nat.le_trans hB7 g9.size; clear lo g9)
          clear O7 hr7 b7 cY hB7
          go_roundw
          case rel => exact ⟨j - 1, n + 1, q + 1 + 1, _, by omega, by omega, by rw [show ((j - 1 : Nat) : Int) = (j : Int) - 1 by omega], O9, HF7, hr9, s9, b9⟩
          case measure => simp [intOf]; omega
        · have h5' : ¬ (0 : Int) < (k5 : Int) := by omega
          go_wp2_with fail
          refine (l1String_any b (q + 1 + 1) 4 ys _ hr5 (by omega) (by omega)).mono ?_
          rintro e w6 ⟨z, q6, rfl, hz, hq6, hr6, hg6⟩
          have O6 := O5.kept hg6 hnb
          have b6 := b5.grown hg6 b5.size (fun q e => by cases e; have := HWB.out; omega)
          have s6 := Nat.le_trans s5 hg6.size
          have hzs : z.size + ByteArray.size ⟨#[49]⟩ ≤ 9223372036854775807 := by show z.size + 1 ≤ _; omega
          clear O5 hr5 b5 s5 hg6
          have O7 := Lib.hid (O6.alloc (.cells #[.string (z ++ ⟨#[49]⟩)] 9))
          have hr7 := Lib.hid (hr6.alloc (.cells #[.string (z ++ ⟨#[49]⟩)] 9))
          have b7 := Lib.hid (b6.alloc b6.size (.cells #[.string (z ++ ⟨#[49]⟩)] 9))
          have cY : Hid ((w6.alloc (.cells #[.string (z ++ ⟨#[49]⟩)] 9)).cell? ⟨w6.heap.size, 0, none⟩ = some (.string (z ++ ⟨#[49]⟩))) := Lib.hid (by simp)
          have hB7 : B ≤ (w6.alloc (.cells #[.string (z ++ ⟨#[49]⟩)] 9)).heap.size := by simp; omega
          have HF7 := Lib.hid (snocF_sz (y := (z ++ ⟨#[49]⟩)) rF.out (by rw [ByteArray.size_append]; show z.size + 1 ≤ _; omega))
          obtain ⟨a3, c3, rfl, -⟩ := O6.form
          clear O6 hr6 b6
          go_wp2_with (at_builtin; refine wpList_append_str rfl (.tmp 36) (.tmp 40) rfl B (.slice a3 n c3) n f rfl O7.out w6.heap.size 1 ((z ++ ⟨#[49]⟩)) rfl cY.out (by omega) hB7 ?_; intro v9 w9 O9 g9; have lo := fun q hq => (O7.out.lt q hq).1; have hr9 := hr7.out.kept g9 (fun q hq => by have := lo q hq; omega); have b9 := b7.out.grown g9 b7.out.size (fun q hq => Nat.le_trans HWB.out (lo q hq)); have s9 := Nat.le_trans hB7 g9.size; clear lo g9)
          clear O7 hr7 b7 cY hB7
          go_roundw
          case rel => exact ⟨j - 1, n + 1, q6, _, by omega, by omega, by rw [show ((j - 1 : Nat) : Int) = (j : Int) - 1 by omega], O9, HF7, hr9, s9, b9⟩
          case measure => simp [intOf]; omega
    · obtain rfl : j = 0 := by omega
      have e0' : True := trivial
      go_wp2_with fail
      refine (pick_any b q 16 ys _ rR (by omega) (by omega) (by omega)).mono ?_
      rintro e w3 ⟨k3, hk3, rfl, hr3, hg3⟩
      have O3 := rO.kept hg3 hnb
      have b3 := rb.grown hg3 rb.size (fun q e => by cases e; have := HWB.out; omega)
      have s3 := Nat.le_trans rB hg3.size
      clear rO rR rb rB hg3
      by_cases k0 : k3 = 0
      · subst k0
        clear hk3
        go_wp2_with fail
        refine (l3Bent_any b (q + 1) ys ⟨#[49]⟩ _ hr3 (by omega) (by decide)).mono ?_
        rintro e w4 ⟨Y, rfl, hY, hr4, hg4⟩
        have O4 := O3.kept hg4 hnb
        have b4 := b3.grown hg4 b3.size (fun q e => by cases e; have := HWB.out; omega)
        have s4 := Nat.le_trans s3 hg4.size
        clear O3 hr3 b3 s3 hg4
        have O7 := Lib.hid (O4.alloc (.cells #[.string Y] 9))
        have hr7 := Lib.hid (hr4.alloc (.cells #[.string Y] 9))
        have b7 := Lib.hid (b4.alloc b4.size (.cells #[.string Y] 9))
        have cY : Hid ((w4.alloc (.cells #[.string Y] 9)).cell? ⟨w4.heap.size, 0, none⟩ = some (.string Y)) := Lib.hid (by simp)
        have hB7 : B ≤ (w4.alloc (.cells #[.string Y] 9)).heap.size := by simp; omega
        have HF7 := Lib.hid (snocF_sz (y := Y) rF.out hY)
        obtain ⟨a3, c3, rfl, -⟩ := O4.form
        clear O4 hr4 b4 s4
        go_wp2_with (at_builtin; refine wpList_append_str rfl (.tmp 45) (.tmp 48) rfl B (.slice a3 n c3) n f rfl O7.out w4.heap.size 1 Y rfl cY.out (by omega) hB7 ?_; intro v9 w9 O9' g9; have lo := fun q hq => (O7.out.lt q hq).1; have hr9 := hr7.out.kept g9 (fun q hq => by have := lo q hq; omega); have b9 := b7.out.grown g9 b7.out.size (fun q hq => Nat.le_trans HWB.out (lo q hq)); have O9 : SF w9 B v9 (n + 1) (snocF f n Y) := O9'; clear lo g9 O9')
        clear O7 hr7 b7 cY hB7
        go_wp2_with fail
        refine (pick_any b (q + 1 + 1) 16 ys _ hr9 (by omega) (by omega) (by omega)).mono ?_
        rintro e wa ⟨ka, hka, rfl, hra, hga⟩
        have Oa := O9.kept hga (own_neS O9 hrb)
        have ba := b9.grown hga b9.size (fun q e => by cases e; have := HWB.out; omega)
        clear O9 hr9 b9 hga
        by_cases a0 : ka = 0
        · subst a0
          clear hka
          go_wp2_with fail
          refine (num_any b (q + 1 + 1 + 1) ys _ wa.heap.size 4 [-1, 7, 6, 0] (hra.alloc _) (IntsAt.new wa _ [-1, 7, 6, 0]) rfl hra.1 (by omega) (by omega) (by omega)).mono ?_
          rintro e wb ⟨D, hD, rfl, hrb', hgb⟩
          have hDD : -1 ≤ D ∧ D ≤ 7 := by
            simp only [List.mem_cons, List.not_mem_nil, or_false] at hD
            omega
          have Ob := (Oa.alloc (.cells #[.int .i64 (-1), .int .i64 7, .int .i64 6, .int .i64 0] 3)).kept hgb (own_neS Oa hrb)
          have bb := (ba.alloc ba.size (.cells #[.int .i64 (-1), .int .i64 7, .int .i64 6, .int .i64 0] 3)).grown hgb (Nat.le_trans ba.size (by simp)) (fun k e => by cases e; have := HWB.out; omega)
          clear Oa ba hra hgb hD
          go_wp2
          go_ret2
          exact ⟨_, (n + 1), (snocF f n Y), D, B, rfl, Ob, HWB.out, by omega, HF7.out, hDD.1, hDD.2, bb⟩
        · have e0 : ((ka : Int) == 0) = false := by simp; omega
          go_wp2_with fail
          refine (pick_any b (q + 1 + 1 + 1) 6 ys _ hra (by omega) (by omega) (by omega)).mono ?_
          rintro e wb ⟨kb, hkb, rfl, hrb', hgb⟩
          have Ob := Oa.kept hgb (own_neS Oa hrb)
          have bb := ba.grown hgb ba.size (fun k e => by cases e; have := HWB.out; omega)
          clear Oa ba hra hgb
          go_wp2
          go_ret2
          exact ⟨_, (n + 1), (snocF f n Y), (kb : Int), B, rfl, Ob, HWB.out, by omega, HF7.out, by omega, by omega, bb⟩
      · have e00 : ((k3 : Int) == 0) = false := by simp; omega
        go_wp2_with fail
        refine (pick_any b (q + 1) 16 ys _ hr3 (by omega) (by omega) (by omega)).mono ?_
        rintro e wa ⟨ka, hka, rfl, hra, hga⟩
        have Oa := O3.kept hga (own_neS O3 hrb)
        have ba := b3.grown hga b3.size (fun q e => by cases e; have := HWB.out; omega)
        clear O3 hr3 b3 hga
        by_cases a0 : ka = 0
        · subst a0
          clear hka
          go_wp2_with fail
          refine (num_any b (q + 1 + 1) ys _ wa.heap.size 4 [-1, 7, 6, 0] (hra.alloc _) (IntsAt.new wa _ [-1, 7, 6, 0]) rfl hra.1 (by omega) (by omega) (by omega)).mono ?_
          rintro e wb ⟨D, hD, rfl, hrb', hgb⟩
          have hDD : -1 ≤ D ∧ D ≤ 7 := by
            simp only [List.mem_cons, List.not_mem_nil, or_false] at hD
            omega
          have Ob := (Oa.alloc (.cells #[.int .i64 (-1), .int .i64 7, .int .i64 6, .int .i64 0] 3)).kept hgb (own_neS Oa hrb)
          have bb := (ba.alloc ba.size (.cells #[.int .i64 (-1), .int .i64 7, .int .i64 6, .int .i64 0] 3)).grown hgb (Nat.le_trans ba.size (by simp)) (fun k e => by cases e; have := HWB.out; omega)
          clear Oa ba hra hgb hD
          go_wp2
          go_ret2
          exact ⟨_, n, f, D, B, rfl, Ob, HWB.out, by omega, rF.out, hDD.1, hDD.2, bb⟩
        · have e0 : ((ka : Int) == 0) = false := by simp; omega
          go_wp2_with fail
          refine (pick_any b (q + 1 + 1) 6 ys _ hra (by omega) (by omega) (by omega)).mono ?_
          rintro e wb ⟨kb, hkb, rfl, hrb', hgb⟩
          have Ob := Oa.kept hgb (own_neS Oa hrb)
          have bb := ba.grown hgb ba.size (fun k e => by cases e; have := HWB.out; omega)
          clear Oa ba hra hgb
          go_wp2
          go_ret2
          exact ⟨_, n, f, (kb : Int), B, rfl, Ob, HWB.out, by omega, rF.out, by omega, by omega, bb⟩
theorem drawFree_any (a : Option Addr) (len cap : Nat) (zs : List Int) (w : World) (h : IsBytes w a len cap zs) :
    Calls Try.prog 11 #[.slice a len cap] w (TreeUsed w) := by
  go_enter Try.func11, Try.ntmps11
  go_wp2_with fail
  refine (drawTree_any a len cap zs _ h).mono ?_
  rintro e w1 ⟨v, n, f, D, B, rfl, O1, hB, hn, hf, d0, d1, b1⟩
  go_wp2
  go_ret2
  exact ⟨v, n, f, D, B, rfl, O1, hB, hn, hf, d0, d1, b1⟩
end Go.Proofs.Ytgkiilpcobgboaa
