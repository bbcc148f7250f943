/- SyncHops of both sides, and the walk of its exact law. -/
import Derived.Test.YtbllmgdnhjdphacHop9
import Derived.Test.YtbllmgdnhjdphacStrFrame
namespace Go.Proofs.Ytbllmgdnhjdphac
open Go.RowKit
set_option linter.unusedVariables false
set_option maxRecDepth 100000
/-- Are the first n numbers the same? -/
def eqA (f g : Nat → Int) : Nat → Bool
  | 0 => true
  | n + 1 => eqA f g n && decide (f n = g n)
theorem eqA_iff (f g : Nat → Int) : ∀ n, eqA f g n = true ↔ ∀ i, i < n → f i = g i
  | 0 => by simp [eqA]
  | n + 1 => by
    simp only [eqA, Bool.and_eq_true, decide_eq_true_eq, eqA_iff f g n]
    constructor
    · rintro ⟨h1, h2⟩ i hi
      by_cases e : i = n
      · subst e; exact h2
      · exact h1 i (by omega)
    · exact fun h => ⟨fun i hi => h i (by omega), h n (by omega)⟩
theorem eqA_no {f g : Nat → Int} {n k : Nat} (hk : k < n) (h : ¬ f k = g k) : eqA f g n = false := by
  rw [Bool.eq_false_iff]
  intro h'
  exact h ((eqA_iff f g n).1 h' k hk)
/-- The first of N numbers with a property. -/
def fstX (P : Nat → Bool) : Nat → Option Nat
  | 0 => none
  | k + 1 => match fstX P k with
    | some x => some x
    | none => if P k then some k else none
theorem fstX_none {P : Nat → Bool} : ∀ {k : Nat}, (∀ x, x < k → P x = false) → fstX P k = none
  | 0, _ => rfl
  | k + 1, h => by simp only [fstX]; rw [fstX_none (fun x hx => h x (by omega)), h k (by omega)]; rfl
theorem fstX_some {P : Nat → Bool} {x : Nat} (hP : P x = true) (h : ∀ y, y < x → P y = false) : ∀ d, fstX P (x + 1 + d) = some x
  | 0 => by show fstX P (x + 1) = some x; simp only [fstX]; rw [fstX_none h, hP]; rfl
  | d + 1 => by show fstX P ((x + 1 + d) + 1) = some x; simp only [fstX]; rw [fstX_some hP h d]
def syP (s t c n : Nat) (z : Nat → Int) (x : Nat) : Bool := eqA (hsF (s : Nat) (t : Nat) (x : Nat) (c : Nat)) z n
def syB (S T C : Int) (n : Nat) (z : Nat → Int) : Bool := tapsB S T && hopB n z C
def syA (S T C : Int) (n : Nat) (z : Nat → Int) : Value :=
  if syB S T C n z then
    match fstX (syP S.toNat T.toNat C.toNat n z) (tw S.toNat) with
    | some x => .tuple #[.agg #[.int .i64 S, .int .i64 T, .int .i64 (x : Nat)], .bool true]
    | none => .tuple #[.agg #[.int .i64 0, .int .i64 0, .int .i64 0], .bool false]
  else .tuple #[.agg #[.int .i64 0, .int .i64 0, .int .i64 0], .bool false]
theorem sy_no {S T C : Int} {n : Nat} {z : Nat → Int} (h : syB S T C n z = false) : syA S T C n z = .tuple #[.agg #[.int .i64 0, .int .i64 0, .int .i64 0], .bool false] := by unfold syA; rw [h]; rfl
theorem sy_none {s t c n : Nat} {z : Nat → Int} (h : syB s t c n z = true) (h2 : ∀ x, x < tw s → syP s t c n z x = false) : syA s t c n z = .tuple #[.agg #[.int .i64 0, .int .i64 0, .int .i64 0], .bool false] := by
  unfold syA; rw [h]; simp only [Int.toNat_natCast, if_true]; rw [fstX_none h2]
theorem sy_some {s t c n x : Nat} {z : Nat → Int} (h : syB s t c n z = true) (hx : x < tw s) (hP : syP s t c n z x = true) (h2 : ∀ y, y < x → syP s t c n z y = false) : syA s t c n z = .tuple #[.agg #[.int .i64 (s : Nat), .int .i64 (t : Nat), .int .i64 (x : Nat)], .bool true] := by
  unfold syA; rw [h]; simp only [Int.toNat_natCast, if_true]
  have := fstX_some hP h2 (tw s - (x + 1))
  rw [show x + 1 + (tw s - (x + 1)) = tw s by omega] at this
  rw [this]
theorem ret_val {a b : Value} (h : a = b) : Ending.returned a = .returned b := by rw [h]
/-- The block of a result that is a register, still the zero one. -/
def ZB (w : World) (b : Nat) : Prop := RegAt w b 0 0 0 ∧ ∀ o, w.frozen? ⟨b, o, none⟩ = false
theorem ZB.new (w : World) (t : TypeId) : ZB (w.alloc (.cells #[.int .i64 0, .int .i64 0, .int .i64 0] t)) w.heap.size := ⟨RegAt.new w t 0 0 0, fun o => by simp⟩
theorem ZB.below {w w' : World} {b : Nat} (h : ZB w b) (hb : Below w.heap.size w w') : ZB w' b := ⟨h.1.below hb h.1.2.2.2, fun o => (hb.frozen (p := ⟨b, o, none⟩) h.1.2.2.2).trans (h.2 o)⟩
theorem equal_ints (u v : Value) (n : Nat) (f g : Nat → Int) (w : World) (hu : IntsR w u n f) (hv : IntsR w v n g) (hn : n ≤ 1048576) :
    Calls Try.prog 57 #[u, v] w fun e w' => e = .returned (.bool (eqA f g n)) ∧ Below w.heap.size w w' := by
  obtain ⟨a, cap, rfl, ha⟩ := hu
  obtain ⟨b, cap', rfl, hb⟩ := hv
  have HA := Lib.hid ha
  have HB := Lib.hid hb
  have HNO := Lib.hid (fun k (hk : k < n) (h : ¬ f k = g k) => (eqA_no hk h).symm)
  have HYES := Lib.hid (fun (h : ∀ i, i < n → f i = g i) => ((eqA_iff f g n).2 h).symm)
  clear ha hb
  go_enter Try.func57, Try.ntmps57
  go_wp2
  go_loopw [13] (fun i wr => ∃ k m : Nat, k ≤ n ∧ i = .int .i64 k ∧ wr = w.drewN m ∧ Hid (∀ i, i < k → f i = g i)) (fun i _ => n - (intOf i).toNat)
  case atStart => exact ⟨0, 0, Nat.zero_le _, rfl, rfl, Lib.hid (fun i hi => absurd hi (Nat.not_lt_zero i))⟩
  case round =>
    obtain ⟨k, m, hk, rfl, rfl, rA⟩ := hrel
    by_cases hlt : k < n
    · obtain ⟨x, rfl, -, h1⟩ := HA.out k hlt
      obtain ⟨y, rfl, -, h2⟩ := HB.out k hlt
      have c1 : (w.drewN m).cell? (x.add k) = some (.int .i64 (f k)) := h1
      have c2 : (w.drewN m).cell? (y.add k) = some (.int .i64 (g k)) := h2
      have B0 : Hid (Below w.heap.size w (w.drewN m)) := Lib.hid (below_drewN (Below.refl _ _) m)
      obtain ⟨W, hW⟩ : ∃ W, w.drewN m = W := ⟨_, rfl⟩
      rw [hW] at c1 c2 B0 ⊢
      have HW := Lib.hid hW
      have i0 : (0 : Int) ≤ (k : Int) := by omega
      have i1 : (k : Int) < (n : Int) := by omega
      by_cases he : f k = g k
      · have nA : Hid (∀ i, i < k + 1 → f i = g i) := Lib.hid (fun i hi => by
          rcases Nat.lt_or_ge i k with h | h
          · exact rA.out i h
          · rw [show i = k by omega]; exact he)
        rw [he] at c1
        obtain ⟨X, hX⟩ : ∃ X, g k = X := ⟨_, rfl⟩
        rw [hX] at c1 c2
        clear hW h1 h2 rA he hX
        go_wp2_with fail
        go_quiet (fail)
        clear c1 c2
        go_wp2
        go_roundw
        case rel => exact ⟨k + 1, m + nq, by omega, by go_num, by rw [← HW.out, World.drewN_drewN], nA⟩
        case measure => simp [intOf]; omega
      · have HE := Lib.hid (HNO.out k hlt he)
        obtain ⟨X, hX⟩ : ∃ X, g k = X := ⟨_, rfl⟩
        obtain ⟨Y, hY⟩ : ∃ Y, f k = Y := ⟨_, rfl⟩
        rw [hX] at c2 he
        rw [hY] at c1 he
        have e2 : (Y == X) = false := by simp; exact he
        have e3 : (Y != X) = true := by simp; exact he
        clear hW h1 h2 rA hX hY
        go_wp2_with fail
        go_quiet (fail)
        clear c1 c2
        go_wp2
        go_ret
        exact ⟨ret_bool HE.out, below_drewN B0.out _⟩
    · obtain rfl : k = n := by omega
      have HE := Lib.hid (HYES.out rA.out)
      clear rA
      go_wp2
      go_ret
      exact ⟨ret_bool HE.out, below_drewN (Below.refl _ _) m⟩
set_option maxHeartbeats 1600000 in
theorem iSync_any (S T C : Int) (v : Value) (n : Nat) (z : Nat → Int) (w : World) (hv : IntsR w v n z) (hn : n ≤ 1048576) :
    Calls Try.prog 26 #[.int .i64 S, .int .i64 T, .int .i64 C, v] w fun e w' => e = .returned (syA S T C n z) ∧ Below w.heap.size w w' := by
  have h1 := fun w => tapsValid_any S T w
  have h2 := fun w h => iHops_any v n z C w h hn
  have hB : syB S T C n z = (tapsB S T && hopB n z C) := rfl
  have Z0 := ZB.new w 45
  have b0 := (Below.refl w.heap.size w).alloc (Nat.le_refl _) (.cells #[.int .i64 0, .int .i64 0, .int .i64 0] 45)
  obtain ⟨W, hW⟩ : ∃ W, w.alloc (.cells #[.int .i64 0, .int .i64 0, .int .i64 0] 45) = W := ⟨_, rfl⟩
  rw [hW] at Z0 b0
  have HW := Lib.hid hW
  have HV := Lib.hid (hv.below b0)
  clear hW
  cases hT : tapsB S T with
  | false =>
    rw [hT, Bool.false_and] at hB
    rw [sy_no hB]
    rw [hT] at h1
    have H1 := Lib.hid h1
    obtain ⟨⟨d0, d1, d2, dl⟩, hf⟩ := Z0
    have g0 := hf 0
    have g1 := hf 1
    have g2 := hf 2
    clear h1 h2 hB hT hv hf
    go_enter Try.func26, Try.ntmps26
    go_wp2_with fail
    rw [HW.out]
    refine (H1.out _).mono ?_
    rintro e w' ⟨rfl, rfl⟩
    go_wp2
    refine bodyPost_ret (v := .tuple #[.agg #[.int .i64 0, .int .i64 0, .int .i64 0], .bool false]) (by simp [results, Try.results26, go_sem, d0, d1, d2]) rfl ⟨rfl, (((b0.setCell (p := ⟨w.heap.size, 0, none⟩) (Nat.le_refl _) _).setCell (p := ⟨w.heap.size, 1, none⟩) (Nat.le_refl _) _).setCell (p := ⟨w.heap.size, 2, none⟩) (Nat.le_refl _) _)⟩
  | true =>
    rw [hT] at h1
    have H1 := Lib.hid h1
    cases hH : hopB n z C with
    | false =>
      rw [hT, hH, Bool.and_false] at hB
      rw [sy_no hB]
      rw [hH] at h2
      have H2 := Lib.hid h2
      obtain ⟨⟨d0, d1, d2, dl⟩, hf⟩ := Z0
      have g0 := hf 0
      have g1 := hf 1
      have g2 := hf 2
      clear h1 h2 hB hT hv hf hH
      go_enter Try.func26, Try.ntmps26
      go_wp2_with fail
      rw [HW.out]
      refine (H1.out _).mono ?_
      rintro e w' ⟨rfl, rfl⟩
      go_wp2_with fail
      refine (H2.out _ HV.out).mono ?_
      rintro e w' ⟨rfl, rfl⟩
      go_wp2
      refine bodyPost_ret (v := .tuple #[.agg #[.int .i64 0, .int .i64 0, .int .i64 0], .bool false]) (by simp [results, Try.results26, go_sem, d0, d1, d2]) rfl ⟨rfl, (((b0.setCell (p := ⟨w.heap.size, 0, none⟩) (Nat.le_refl _) _).setCell (p := ⟨w.heap.size, 1, none⟩) (Nat.le_refl _) _).setCell (p := ⟨w.heap.size, 2, none⟩) (Nat.le_refl _) _)⟩
    | true =>
      rw [hT, hH] at hB
      rw [hH] at h2
      have H2 := Lib.hid h2
      obtain ⟨t1, t2, t3, t4⟩ := (tapsB_iff S T).1 hT
      obtain ⟨⟨c1, c2⟩, n3, -⟩ := (hopB_iff n z C).1 hH
      obtain ⟨s, rfl⟩ : ∃ s : Nat, S = s := ⟨S.toNat, by omega⟩
      obtain ⟨t, rfl⟩ : ∃ t : Nat, T = t := ⟨T.toNat, by omega⟩
      obtain ⟨c, rfl⟩ : ∃ c : Nat, C = c := ⟨C.toNat, by omega⟩
      rw [Int.toNat_natCast] at t4
      have HNONE := Lib.hid (fun h2 => sy_none hB h2)
      have HSOME := Lib.hid (fun x (hx : x < tw s) hP h2 => sy_some (x := x) hB hx hP h2)
      have HG := Lib.hid (fun x (hx : x < tw s) w => regHops_any s t x c n w ⟨by omega, by omega, by omega, by omega, hx⟩ (by omega) (by omega) n3)
      have HE := Lib.hid (fun x u w h1 h2 => equal_ints u v n (hsF (s : Nat) (t : Nat) (x : Nat) (c : Nat)) z w h1 h2 hn)
      have HP := Lib.hid (fun x => show eqA (hsF (s : Nat) (t : Nat) (x : Nat) (c : Nat)) z n = syP s t c n z x from rfl)
      have hw := wrap_tw s (by omega)
      have hl := tw_le s (by omega)
      have hw2 : IntKind.i64.wrap ((2 : Int) ^ s) = ((tw s : Nat) : Int) := by rw [int_tw]; exact IntWalk.i64_in _ (by omega)
      have hs8 : s ≤ 8 := by omega
      obtain ⟨N, hN⟩ : ∃ N, tw s = N := ⟨_, rfl⟩
      rw [hN] at hw hw2 hl HG
      have HN := Lib.hid hN
      obtain ⟨a, cap, rfl, -⟩ := hv
      clear h1 h2 hB hT hH hN t4
      go_enter Try.func26, Try.ntmps26
      go_wp2_with fail
      rw [HW.out]
      refine (H1.out _).mono ?_
      rintro e w' ⟨rfl, rfl⟩
      go_wp2_with fail
      refine (H2.out _ HV.out).mono ?_
      rintro e w' ⟨rfl, rfl⟩
      clear H1 H2
      have ZH := Lib.hid Z0
      have BH := Lib.hid b0
      clear Z0 b0
      go_wp2
      go_loopw [25] (fun q wr => ∃ x : Nat, x ≤ N ∧ q = .int .i64 x ∧ Hid (∀ y, y < x → syP s t c n z y = false) ∧ Hid (ZB wr w.heap.size) ∧ Below w.heap.size w wr ∧ Hid (IntsR wr (.slice a n cap) n z)) (fun q _ => N - (intOf q).toNat)
      case atStart => exact ⟨0, Nat.zero_le _, rfl, Lib.hid (fun y hy => absurd hy (Nat.not_lt_zero y)), ZH, BH.out, HV⟩
      case round =>
        obtain ⟨x, hx, rfl, rA, rZ, rb, rV⟩ := hrel
        clear ZH BH HV hw hw2
        by_cases hlt : x < N
        · have hG := HG.out x hlt
          have hE := HE.out x
          have hPx := HP.out x
          rw [hPx] at hE
          have hS := HSOME.out x (by rw [HN.out]; exact hlt)
          have bA := (Below.refl wr.heap.size wr).alloc (Nat.le_refl _) (.cells #[.int .i64 (s : Nat), .int .i64 (t : Nat), .int .i64 (x : Nat)] 45)
          have Z1 := Lib.hid (rZ.out.below bA)
          have V1 := Lib.hid (rV.out.below bA)
          have A1 := RegAt.new wr 45 (s : Nat) (t : Nat) (x : Nat)
          have b1 := below_then rb (Nat.le_refl _) bA
          have xl : (x : Int) < (N : Int) := by omega
          obtain ⟨V, hV⟩ : ∃ V, wr.alloc (.cells #[.int .i64 (s : Nat), .int .i64 (t : Nat), .int .i64 (x : Nat)] 45) = V := ⟨_, rfl⟩
          rw [hV] at Z1 V1 A1 b1
          have HVV := Lib.hid hV
          obtain ⟨Q, hQ⟩ : ∃ Q, wr.heap.size = Q := ⟨_, rfl⟩
          have HQ := Lib.hid hQ
          rw [hQ] at A1
          obtain ⟨m0, m1, m2, ml⟩ := id A1
          obtain ⟨F, hF⟩ : ∃ F, hsF (s : Nat) (t : Nat) (x : Nat) (c : Nat) = F := ⟨_, rfl⟩
          rw [hF] at hG hE
          have HGG := Lib.hid hG
          have HAA := Lib.hid A1
          cases hq : syP s t c n z x with
          | true =>
            have HA := Lib.hid (hS hq rA.out)
            rw [hq] at hE
            have HEE := Lib.hid hE
            clear hG hE hPx hS hq hF hV hQ A1 bA rZ rV rA rb
            go_wp2_with fail
            rw [HVV.out]
            try rw [HQ.out]
            refine (HGG.out _).mono ?_
            rintro e w2 ⟨u, rfl, O2, n2⟩
            have V2 := V1.out.below n2
            have Z2 := Z1.out.below n2
            have A2 := HAA.out.below n2 ml
            have b2 := below_then b1 (Nat.le_refl _) n2
            clear n2 V1 Z1 HAA m0 m1 m2 ml b1
            go_wp2_with fail
            refine (HEE.out _ _ O2.ints V2).mono ?_
            rintro e w3 ⟨rfl, n3'⟩
            obtain ⟨⟨d0, d1, d2, dl⟩, hf⟩ := Z2.below n3'
            obtain ⟨m0, m1, m2, ml⟩ := A2.below n3' A2.2.2.2
            have b3 := below_then b2 (Nat.le_refl _) n3'
            have g0 := hf 0
            have g1 := hf 1
            have g2 := hf 2
            clear n3' O2 V2 Z2 A2 b2 hf
            go_wp2
            refine bodyPost_ret (v := .tuple #[.agg #[.int .i64 (s : Nat), .int .i64 (t : Nat), .int .i64 (x : Nat)], .bool true]) (by simp [results, Try.results26, go_sem, d0, d1, d2]) rfl ⟨ret_val HA.out.symm, (((b3.setCell (p := ⟨w.heap.size, 0, none⟩) (Nat.le_refl _) _).setCell (p := ⟨w.heap.size, 1, none⟩) (Nat.le_refl _) _).setCell (p := ⟨w.heap.size, 2, none⟩) (Nat.le_refl _) _)⟩
          | false =>
            have nA : Hid (∀ y, y < x + 1 → syP s t c n z y = false) := Lib.hid (fun y hy => by
              rcases Nat.lt_or_ge y x with h | h
              · exact rA.out y h
              · rw [show y = x by omega]; exact hq)
            rw [hq] at hE
            have HEE := Lib.hid hE
            clear hG hE hPx hS hq hF hV hQ A1 bA rZ rV rA rb
            go_wp2_with fail
            rw [HVV.out]
            try rw [HQ.out]
            refine (HGG.out _).mono ?_
            rintro e w2 ⟨u, rfl, O2, n2⟩
            have V2 := V1.out.below n2
            have Z2 := Z1.out.below n2
            have b2 := below_then b1 (Nat.le_refl _) n2
            clear n2 V1 Z1 HAA m0 m1 m2 ml b1
            go_wp2_with fail
            refine (HEE.out _ _ O2.ints V2).mono ?_
            rintro e w3 ⟨rfl, n3'⟩
            have Z3 := Lib.hid (Z2.below n3')
            have V3 := Lib.hid (V2.below n3')
            have b3 := below_then b2 (Nat.le_refl _) n3'
            clear n3' O2 V2 Z2 b2
            go_wp2
            go_roundw
            case rel => exact ⟨x + 1, by omega, by go_num, nA, Z3, b3, V3⟩
            case measure => simp [intOf]; omega
        · obtain rfl : x = N := by omega
          have HA := Lib.hid (HNONE.out (by rw [HN.out]; exact rA.out))
          obtain ⟨⟨d0, d1, d2, dl⟩, hf⟩ := rZ.out
          have g0 := hf 0
          have g1 := hf 1
          have g2 := hf 2
          clear hf rA rZ
          go_wp2
          refine bodyPost_ret (v := .tuple #[.agg #[.int .i64 0, .int .i64 0, .int .i64 0], .bool false]) (by simp [results, Try.results26, go_sem, d0, d1, d2]) rfl ⟨ret_val HA.out.symm, (((rb.setCell (p := ⟨w.heap.size, 0, none⟩) (Nat.le_refl _) _).setCell (p := ⟨w.heap.size, 1, none⟩) (Nat.le_refl _) _).setCell (p := ⟨w.heap.size, 2, none⟩) (Nat.le_refl _) _)⟩
theorem eqA_succ (f g : Nat → Int) (n : Nat) : eqA f g (n + 1) = (eqA f g n && decide (f n = g n)) := rfl
set_option maxHeartbeats 3200000 in
theorem sSync_any (S T C : Int) (v : Value) (n : Nat) (z : Nat → Int) (w : World) (hv : IntsR w v n z) (hn : n ≤ 1048576) :
    Calls Try.prog 27 #[.int .i64 S, .int .i64 T, .int .i64 C, v] w fun e w' => e = .returned (syA S T C n z) ∧ Below w.heap.size w w' := by
  have h1 := fun w => l1Taps_any S T w
  have h2 := fun w h => sHops_any v n z C w h hn
  have hB : syB S T C n z = (tapsB S T && hopB n z C) := rfl
  have Z0 := ZB.new w 45
  have b0 := (Below.refl w.heap.size w).alloc (Nat.le_refl _) (.cells #[.int .i64 0, .int .i64 0, .int .i64 0] 45)
  obtain ⟨W, hW⟩ : ∃ W, w.alloc (.cells #[.int .i64 0, .int .i64 0, .int .i64 0] 45) = W := ⟨_, rfl⟩
  rw [hW] at Z0 b0
  have HW := Lib.hid hW
  have HV := Lib.hid (hv.below b0)
  clear hW
  cases hT : tapsB S T with
  | false =>
    rw [hT, Bool.false_and] at hB
    rw [sy_no hB]
    rw [hT] at h1
    have H1 := Lib.hid h1
    obtain ⟨⟨d0, d1, d2, dl⟩, hf⟩ := Z0
    have g0 := hf 0
    have g1 := hf 1
    have g2 := hf 2
    clear h1 h2 hB hT hv hf
    go_enter Try.func27, Try.ntmps27
    go_wp2_with fail
    rw [HW.out]
    refine (H1.out _).mono ?_
    rintro e w' ⟨rfl, rfl⟩
    go_wp2
    refine bodyPost_ret (v := .tuple #[.agg #[.int .i64 0, .int .i64 0, .int .i64 0], .bool false]) (by simp [results, Try.results27, go_sem, d0, d1, d2]) rfl ⟨rfl, (((b0.setCell (p := ⟨w.heap.size, 0, none⟩) (Nat.le_refl _) _).setCell (p := ⟨w.heap.size, 1, none⟩) (Nat.le_refl _) _).setCell (p := ⟨w.heap.size, 2, none⟩) (Nat.le_refl _) _)⟩
  | true =>
    rw [hT] at h1
    have H1 := Lib.hid h1
    cases hH : hopB n z C with
    | false =>
      rw [hT, hH, Bool.and_false] at hB
      rw [sy_no hB]
      rw [hH] at h2
      have H2 := Lib.hid h2
      obtain ⟨⟨d0, d1, d2, dl⟩, hf⟩ := Z0
      have g0 := hf 0
      have g1 := hf 1
      have g2 := hf 2
      clear h1 h2 hB hT hv hf hH
      go_enter Try.func27, Try.ntmps27
      go_wp2_with fail
      rw [HW.out]
      refine (H1.out _).mono ?_
      rintro e w' ⟨rfl, rfl⟩
      go_wp2_with fail
      refine (H2.out _ HV.out).mono ?_
      rintro e w' ⟨rfl, rfl⟩
      go_wp2
      refine bodyPost_ret (v := .tuple #[.agg #[.int .i64 0, .int .i64 0, .int .i64 0], .bool false]) (by simp [results, Try.results27, go_sem, d0, d1, d2]) rfl ⟨rfl, (((b0.setCell (p := ⟨w.heap.size, 0, none⟩) (Nat.le_refl _) _).setCell (p := ⟨w.heap.size, 1, none⟩) (Nat.le_refl _) _).setCell (p := ⟨w.heap.size, 2, none⟩) (Nat.le_refl _) _)⟩
    | true =>
      rw [hT, hH] at hB
      rw [hH] at h2
      have H2 := Lib.hid h2
      obtain ⟨t1, t2, t3, t4⟩ := (tapsB_iff S T).1 hT
      obtain ⟨⟨c1, c2⟩, n3, -⟩ := (hopB_iff n z C).1 hH
      obtain ⟨s, rfl⟩ : ∃ s : Nat, S = s := ⟨S.toNat, by omega⟩
      obtain ⟨t, rfl⟩ : ∃ t : Nat, T = t := ⟨T.toNat, by omega⟩
      obtain ⟨c, rfl⟩ : ∃ c : Nat, C = c := ⟨C.toNat, by omega⟩
      rw [Int.toNat_natCast] at t4
      have HNONE := Lib.hid (fun h2 => sy_none hB h2)
      have HSOME := Lib.hid (fun x (hx : x < tw s) hP h2 => sy_some (x := x) hB hx hP h2)
      have HG : Hid (∀ x, x < tw s → ∀ w, Calls Try.prog 54 #[.agg #[.int .i64 (s : Nat), .int .i64 (t : Nat), .int .i64 (x : Nat)], .int .i64 (c : Nat), .int .i64 (n : Nat)] w fun e w' => ∃ u, e = .returned (.tuple #[u, .bool true]) ∧ OF w' w.heap.size u n (hsF (s : Nat) (t : Nat) (x : Nat) (c : Nat)) ∧ Below w.heap.size w w') := Lib.hid (fun x hx w => by
        have hr : regB (s : Nat) (t : Nat) (x : Nat) = true := RegN.valid ⟨by omega, by omega, by omega, by omega, hx⟩
        have hb : hsB (s : Nat) (t : Nat) (x : Nat) (c : Nat) (n : Nat) = true := (hsB_iff _ _ _ _ _).2 ⟨hr, ⟨by omega, by omega⟩, by omega, by omega⟩
        have := sSeq_any (s : Nat) (t : Nat) (x : Nat) (c : Nat) (n : Nat) w
        rw [hb, show hsN (s : Nat) (t : Nat) (x : Nat) (c : Nat) (n : Nat) = n by unfold hsN; rw [hb]; rfl] at this
        exact this)
      have HTW := Lib.hid (fun w => l1Two_any s w (by omega))
      have HP := Lib.hid (fun x => show eqA (hsF (s : Nat) (t : Nat) (x : Nat) (c : Nat)) z n = syP s t c n z x from rfl)
      have hl := tw_le s (by omega)
      have hs8 : s ≤ 8 := by omega
      have HES := Lib.hid (fun f k => eqA_succ f z k)
      obtain ⟨N, hN⟩ : ∃ N, tw s = N := ⟨_, rfl⟩
      rw [hN] at hl HG HTW
      have HN := Lib.hid hN
      obtain ⟨a, cap, rfl, -⟩ := hv
      clear h1 h2 hB hT hH hN t4
      go_enter Try.func27, Try.ntmps27
      go_wp2_with fail
      rw [HW.out]
      refine (H1.out _).mono ?_
      rintro e w' ⟨rfl, rfl⟩
      go_wp2_with fail
      refine (H2.out _ HV.out).mono ?_
      rintro e w' ⟨rfl, rfl⟩
      clear H1 H2
      have ZH := Lib.hid Z0
      have BH := Lib.hid b0
      clear Z0 b0
      go_wp2
      go_loopw [10] (fun q wr => ∃ x : Nat, x ≤ N ∧ q = .int .i64 x ∧ Hid (∀ y, y < x → syP s t c n z y = false) ∧ Hid (ZB wr w.heap.size) ∧ Below w.heap.size w wr ∧ Hid (IntsR wr (.slice a n cap) n z)) (fun q _ => N - (intOf q).toNat)
      case atStart => exact ⟨0, Nat.zero_le _, rfl, Lib.hid (fun y hy => absurd hy (Nat.not_lt_zero y)), ZH, BH.out, HV⟩
      case round =>
        obtain ⟨x, hx, rfl, rA, rZ, rb, rV⟩ := hrel
        clear ZH BH HV
        by_cases hlt : x < N
        · have hG := HG.out x hlt
          have hPx := HP.out x
          have hS := HSOME.out x (by rw [HN.out]; exact hlt)
          have bA := (Below.refl wr.heap.size wr).alloc (Nat.le_refl _) (.cells #[.int .i64 (s : Nat), .int .i64 (t : Nat), .int .i64 (x : Nat)] 45)
          have Z1 := Lib.hid (rZ.out.below bA)
          have V1 := Lib.hid (rV.out.below bA)
          have A1 := RegAt.new wr 45 (s : Nat) (t : Nat) (x : Nat)
          have b1 := below_then rb (Nat.le_refl _) bA
          have xl : (x : Int) < (N : Int) := by omega
          obtain ⟨V, hV⟩ : ∃ V, wr.alloc (.cells #[.int .i64 (s : Nat), .int .i64 (t : Nat), .int .i64 (x : Nat)] 45) = V := ⟨_, rfl⟩
          rw [hV] at Z1 V1 A1 b1
          have HVV := Lib.hid hV
          obtain ⟨Q, hQ⟩ : ∃ Q, wr.heap.size = Q := ⟨_, rfl⟩
          have HQ := Lib.hid hQ
          rw [hQ] at A1
          obtain ⟨m0, m1, m2, ml⟩ := id A1
          obtain ⟨F, hF⟩ : ∃ F, hsF (s : Nat) (t : Nat) (x : Nat) (c : Nat) = F := ⟨_, rfl⟩
          rw [hF] at hG hPx
          have HGG := Lib.hid hG
          have HAA := Lib.hid A1
          have HPX := Lib.hid hPx
          have HSS := Lib.hid hS
          have HE0 : Hid (eqA F z 0 = true) := Lib.hid rfl
          clear hG hPx hS hF hV hQ A1 bA rZ rV rb
          go_wp2_with fail
          refine (HTW.out _).mono ?_
          rintro e w' ⟨rfl, rfl⟩
          go_wp2_with fail
          rw [HVV.out]
          try rw [HQ.out]
          refine (HGG.out _).mono ?_
          rintro e w2 ⟨u, rfl, O2, n2⟩
          have V2 := Lib.hid (V1.out.below n2)
          have Z2 := Lib.hid (Z1.out.below n2)
          have A2 := Lib.hid (HAA.out.below n2 ml)
          have b2 := Lib.hid (below_then b1 (Nat.le_refl _) n2)
          have O3 := Lib.hid O2.ints
          obtain ⟨ua, uc, rfl, -⟩ := O2.form
          clear n2 V1 Z1 HAA m0 m1 m2 ml b1 O2
          go_wp2
          go_loopw [14, 15] (fun o q wx => ∃ (i m : Nat), i ≤ n ∧ q = .int .i64 i ∧ o = .bool (eqA F z i) ∧ wx = w2.drewN m) (fun _ q _ => n - (intOf q).toNat)
          case atStart => exact ⟨0, 0, Nat.zero_le _, rfl, rfl, rfl⟩
          case round =>
            obtain ⟨i, m, hi, rfl, rfl, rfl⟩ := hrel
            by_cases hil : i < n
            · have hes := HES.out F i
              have i0 : (0 : Int) ≤ (i : Int) := by omega
              have i1 : (i : Int) < (n : Int) := by omega
              obtain ⟨a', cap', e', hc'⟩ := O3.out
              injection e' with e'1 _ e'3
              subst e'1 e'3
              obtain ⟨p1, rfl, -, h1⟩ := hc' i hil
              obtain ⟨a'', cap'', e'', hc''⟩ := V2.out
              injection e'' with e''1 _ e''3
              subst e''1 e''3
              obtain ⟨p2, rfl, -, h2⟩ := hc'' i hil
              have c1 : (w2.drewN m).cell? (p1.add i) = some (.int .i64 (F i)) := h1
              have c2 : (w2.drewN m).cell? (p2.add i) = some (.int .i64 (z i)) := h2
              obtain ⟨V', hV'⟩ : ∃ V', w2.drewN m = V' := ⟨_, rfl⟩
              rw [hV'] at c1 c2 ⊢
              have HV' := Lib.hid hV'
              clear h1 h2 hc' hc'' hV'
              cases hq : eqA F z i with
              | false =>
                rw [hq, Bool.false_and] at hes
                have HH := Lib.hid hes
                clear hes hq
                go_wp2_with fail
                go_quiet (fail)
                clear c1 c2
                go_wp2
                go_roundw
                case rel => exact ⟨i + 1, m + nq, by omega, by go_num, by rw [HH.out], by rw [← HV'.out, World.drewN_drewN]⟩
                case measure => simp [intOf]; omega
              | true =>
                rw [hq, Bool.true_and] at hes
                by_cases he : F i = z i
                · rw [decide_eq_true he] at hes
                  have HH := Lib.hid hes
                  rw [he] at c1
                  obtain ⟨X, hX⟩ : ∃ X, z i = X := ⟨_, rfl⟩
                  rw [hX] at c1 c2
                  clear hes hq he hX
                  go_wp2_with fail
                  go_quiet (fail)
                  clear c1 c2
                  go_wp2
                  go_roundw
                  case rel => exact ⟨i + 1, m + nq, by omega, by go_num, by rw [HH.out], by rw [← HV'.out, World.drewN_drewN]⟩
                  case measure => simp [intOf]; omega
                · rw [decide_eq_false he] at hes
                  have HH := Lib.hid hes
                  obtain ⟨X, hX⟩ : ∃ X, z i = X := ⟨_, rfl⟩
                  obtain ⟨Y, hY⟩ : ∃ Y, F i = Y := ⟨_, rfl⟩
                  rw [hX] at c2 he
                  rw [hY] at c1 he
                  have e3 : (Y == X) = false := by simp; exact he
                  clear hes hq hX hY
                  go_wp2_with fail
                  go_quiet (fail)
                  clear c1 c2
                  go_wp2
                  go_roundw
                  case rel => exact ⟨i + 1, m + nq, by omega, by go_num, by rw [HH.out], by rw [← HV'.out, World.drewN_drewN]⟩
                  case measure => simp [intOf]; omega
            · obtain rfl : i = n := by omega
              have bm := Lib.hid (below_drewN b2.out m)
              have Z3 : Hid (ZB (w2.drewN m) w.heap.size) := Lib.hid (Z2.out.below (below_drewN (Below.refl _ _) m))
              have V3 : Hid (IntsR (w2.drewN m) (.slice a i cap) i z) := Lib.hid (V2.out.below (below_drewN (Below.refl _ _) m))
              have A3 : RegAt (w2.drewN m) Q (s : Nat) (t : Nat) (x : Nat) := A2.out
              obtain ⟨V', hV'⟩ : ∃ V', w2.drewN m = V' := ⟨_, rfl⟩
              rw [hV'] at bm Z3 V3 A3 ⊢
              clear hV' b2 Z2 V2 A2
              cases hq : eqA F z i with
              | true =>
                have HA := Lib.hid (HSS.out (by rw [← HPX.out]; exact hq) rA.out)
                obtain ⟨⟨d0, d1, d2, dl⟩, hf⟩ := Z3.out
                obtain ⟨m0, m1, m2, ml⟩ := A3
                have g0 := hf 0
                have g1 := hf 1
                have g2 := hf 2
                clear hq hf rA
                go_wp2
                refine bodyPost_ret (v := .tuple #[.agg #[.int .i64 (s : Nat), .int .i64 (t : Nat), .int .i64 (x : Nat)], .bool true]) (by simp [results, Try.results27, go_sem, d0, d1, d2]) rfl ⟨ret_val HA.out.symm, (((bm.out.setCell (p := ⟨w.heap.size, 0, none⟩) (Nat.le_refl _) _).setCell (p := ⟨w.heap.size, 1, none⟩) (Nat.le_refl _) _).setCell (p := ⟨w.heap.size, 2, none⟩) (Nat.le_refl _) _)⟩
              | false =>
                have nA : Hid (∀ y, y < x + 1 → syP s t c i z y = false) := Lib.hid (fun y hy => by
                  rcases Nat.lt_or_ge y x with h | h
                  · exact rA.out y h
                  · rw [show y = x by omega, ← HPX.out]; exact hq)
                clear hq rA A3
                go_wp2
                go_roundw
                case rel => exact ⟨x + 1, by omega, by go_num, nA, Z3, bm.out, V3⟩
                case measure => simp [intOf]; omega
        · obtain rfl : x = N := by omega
          have HA := Lib.hid (HNONE.out (by rw [HN.out]; exact rA.out))
          obtain ⟨⟨d0, d1, d2, dl⟩, hf⟩ := rZ.out
          have g0 := hf 0
          have g1 := hf 1
          have g2 := hf 2
          clear hf rA rZ
          go_wp2_with fail
          refine (HTW.out _).mono ?_
          rintro e w' ⟨rfl, rfl⟩
          go_wp2
          refine bodyPost_ret (v := .tuple #[.agg #[.int .i64 0, .int .i64 0, .int .i64 0], .bool false]) (by simp [results, Try.results27, go_sem, d0, d1, d2]) rfl ⟨ret_val HA.out.symm, (((rb.setCell (p := ⟨w.heap.size, 0, none⟩) (Nat.le_refl _) _).setCell (p := ⟨w.heap.size, 1, none⟩) (Nat.le_refl _) _).setCell (p := ⟨w.heap.size, 2, none⟩) (Nat.le_refl _) _)⟩
end Go.Proofs.Ytbllmgdnhjdphac
