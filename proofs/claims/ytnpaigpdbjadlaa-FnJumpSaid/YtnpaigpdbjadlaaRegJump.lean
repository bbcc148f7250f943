/- The model's JumpRegister; AddRegisters of both sides; what the two sides answer is the same. -/
import Derived.Test.YtnpaigpdbjadlaaRegModel
namespace Go.Proofs.Ytnpaigpdbjadlaa
open Go.RowKit
theorem sJump_no (S T X K : Int) (w : World) (h : regB S T X = false) :
    Calls Try.prog 21 #[.agg #[.int .i64 S, .int .i64 T, .int .i64 X], .int .i64 K] w fun e w' => e = .returned (.tuple #[.agg #[.int .i64 0, .int .i64 0, .int .i64 0], .bool false]) ∧ Below w.heap.size w w' := by
  go_enter Try.func21, Try.ntmps21
  go_wp2_with fail
  refine (sRegisterValid_no S T X _ h).mono ?_
  rintro e w1 ⟨rfl, hb1⟩
  obtain ⟨b1, ⟨c0, c1, c2, cl⟩, ⟨d0, d1, d2, dl⟩, f, g, hz⟩ := two_after hb1
  have g0 := g 0
  have g1 := g 1
  have g2 := g 2
  clear hb1 f g
  go_wp2
  refine bodyPost_ret (v := .tuple #[.agg #[.int .i64 0, .int .i64 0, .int .i64 0], .bool false]) (by simp [results, Try.results21, go_sem, d0, d1, d2]) rfl ⟨rfl, ?_⟩
  go_grown
theorem sJump_out (s t x : Nat) (K : Int) (w : World) (h : RegN s t x) (hk : jumpB t K = false) :
    Calls Try.prog 21 #[.agg #[.int .i64 s, .int .i64 t, .int .i64 x], .int .i64 K] w fun e w' => e = .returned (.tuple #[.agg #[.int .i64 0, .int .i64 0, .int .i64 0], .bool false]) ∧ Below w.heap.size w w' := by
  by_cases h1 : -5000 ≤ K ∧ K ≤ 5000
  · have h3 : ¬ (0 ≤ K ∨ t % 2 = 1) := by
      intro h3
      have : jumpB t K = true := by
        simp only [jumpB, Bool.and_eq_true, Bool.or_eq_true, decide_eq_true_eq]; omega
      rw [this] at hk; cases hk
    clear hk
    have h4 : ((t : Int) % 2 == 0) = true := by simp; omega
    have h5 : K < 0 := by omega
    go_enter Try.func21, Try.ntmps21
    go_wp2_with fail
    refine (sRegisterValid_yes s t x _ h).mono ?_
    rintro e w1 ⟨rfl, hb1⟩
    obtain ⟨b1, ⟨c0, c1, c2, cl⟩, ⟨d0, d1, d2, dl⟩, f, g, hz⟩ := two_after hb1
    have g0 := g 0
    have g1 := g 1
    have g2 := g 2
    clear hb1 f g h3
    go_wp2_with fail
    refine (l1In_yes _ _ _ _ h1.1 h1.2).mono ?_
    rintro e w' ⟨rfl, rfl⟩
    go_wp2
    refine bodyPost_ret (v := .tuple #[.agg #[.int .i64 0, .int .i64 0, .int .i64 0], .bool false]) (by simp [results, Try.results21, go_sem, d0, d1, d2]) rfl ⟨rfl, ?_⟩
    go_grown
  · go_enter Try.func21, Try.ntmps21
    go_wp2_with fail
    refine (sRegisterValid_yes s t x _ h).mono ?_
    rintro e w1 ⟨rfl, hb1⟩
    obtain ⟨b1, ⟨c0, c1, c2, cl⟩, ⟨d0, d1, d2, dl⟩, f, g, hz⟩ := two_after hb1
    have g0 := g 0
    have g1 := g 1
    have g2 := g 2
    clear hb1 f g
    go_wp2_with fail
    refine (l1In_no _ _ _ _ h1).mono ?_
    rintro e w' ⟨rfl, rfl⟩
    go_wp2
    refine bodyPost_ret (v := .tuple #[.agg #[.int .i64 0, .int .i64 0, .int .i64 0], .bool false]) (by simp [results, Try.results21, go_sem, d0, d1, d2]) rfl ⟨rfl, ?_⟩
    go_grown
theorem l1Jump_any (s t x : Nat) (K : Int) (w : World) (h : RegN s t x) (h1 : -5000 ≤ K) (h2 : K ≤ 5000) :
    Calls Try.prog 41 #[.agg #[.int .i64 s, .int .i64 t, .int .i64 x], .int .i64 K] w fun e w' => e = .returned (.agg #[.int .i64 s, .int .i64 t, .int .i64 (jumpN s t K x : Nat)]) ∧ Below w.heap.size w w' := by
  unfold jumpN
  split
  · obtain ⟨n, rfl⟩ : ∃ n : Nat, K = n := ⟨K.toNat, by omega⟩
    exact l1Jump_forth s t x n w h (by omega)
  · obtain ⟨n, rfl⟩ : ∃ n : Nat, K = -(n : Int) := ⟨(-K).toNat, by omega⟩
    rw [show (- -(n : Int)).toNat = n by omega]
    exact l1Jump_back s t x n w h (by omega) (by omega)
theorem sJump_yes (s t x : Nat) (K : Int) (w : World) (h : RegN s t x) (hk : jumpB t K = true) :
    Calls Try.prog 21 #[.agg #[.int .i64 s, .int .i64 t, .int .i64 x], .int .i64 K] w fun e w' => e = .returned (.tuple #[.agg #[.int .i64 s, .int .i64 t, .int .i64 (jumpN s t K x : Nat)], .bool true]) ∧ Below w.heap.size w w' := by
  have h1 : -5000 ≤ K ∧ K ≤ 5000 ∧ (0 ≤ K ∨ t % 2 = 1) := by
    simp only [jumpB, Bool.and_eq_true, Bool.or_eq_true, decide_eq_true_eq] at hk; omega
  obtain ⟨h1, h2, h3⟩ := h1
  clear hk
  by_cases h4 : K < 0
  · have h5 : ((t : Int) % 2 == 0) = false := by simp; omega
    go_enter Try.func21, Try.ntmps21
    go_wp2_with fail
    refine (sRegisterValid_yes s t x _ h).mono ?_
    rintro e w1 ⟨rfl, hb1⟩
    obtain ⟨b1, ⟨c0, c1, c2, cl⟩, ⟨d0, d1, d2, dl⟩, f, g, hz⟩ := two_after hb1
    have g0 := g 0
    have g1 := g 1
    have g2 := g 2
    clear hb1 f g h3
    go_wp2_with fail
    refine (l1In_yes _ _ _ _ h1 h2).mono ?_
    rintro e w' ⟨rfl, rfl⟩
    go_wp2_with fail
    refine (l1Jump_any s t x K _ h h1 h2).mono ?_
    rintro e w2 ⟨rfl, hb2⟩
    have b2 := below_then b1 (Nat.le_refl _) hb2
    obtain ⟨m0, m1, m2, ml⟩ := RegAt.below ⟨d0, d1, d2, dl⟩ hb2 dl
    have n0 := (hb2.frozen (p := ⟨w.heap.size + 1, 0, none⟩) dl).trans g0
    have n1 := (hb2.frozen (p := ⟨w.heap.size + 1, 1, none⟩) dl).trans g1
    have n2 := (hb2.frozen (p := ⟨w.heap.size + 1, 2, none⟩) dl).trans g2
    clear hb2
    go_wp2
    refine bodyPost_ret (v := .tuple #[.agg #[.int .i64 s, .int .i64 t, .int .i64 (jumpN s t K x : Nat)], .bool true]) (by simp [results, Try.results21, go_sem, m0, m1, m2]) rfl ⟨rfl, ?_⟩
    go_grown
  · go_enter Try.func21, Try.ntmps21
    go_wp2_with fail
    refine (sRegisterValid_yes s t x _ h).mono ?_
    rintro e w1 ⟨rfl, hb1⟩
    obtain ⟨b1, ⟨c0, c1, c2, cl⟩, ⟨d0, d1, d2, dl⟩, f, g, hz⟩ := two_after hb1
    have g0 := g 0
    have g1 := g 1
    have g2 := g 2
    clear hb1 f g h3
    go_wp2_with fail
    refine (l1In_yes _ _ _ _ h1 h2).mono ?_
    rintro e w' ⟨rfl, rfl⟩
    go_wp2_with fail
    refine (l1Jump_any s t x K _ h h1 h2).mono ?_
    rintro e w2 ⟨rfl, hb2⟩
    have b2 := below_then b1 (Nat.le_refl _) hb2
    obtain ⟨m0, m1, m2, ml⟩ := RegAt.below ⟨d0, d1, d2, dl⟩ hb2 dl
    have n0 := (hb2.frozen (p := ⟨w.heap.size + 1, 0, none⟩) dl).trans g0
    have n1 := (hb2.frozen (p := ⟨w.heap.size + 1, 1, none⟩) dl).trans g1
    have n2 := (hb2.frozen (p := ⟨w.heap.size + 1, 2, none⟩) dl).trans g2
    clear hb2
    go_wp2
    refine bodyPost_ret (v := .tuple #[.agg #[.int .i64 s, .int .i64 t, .int .i64 (jumpN s t K x : Nat)], .bool true]) (by simp [results, Try.results21, go_sem, m0, m1, m2]) rfl ⟨rfl, ?_⟩
    go_grown
theorem iJump_yes (s t x : Nat) (K : Int) (w : World) (h : RegN s t x) (hk : jumpB t K = true) :
    Calls Try.prog 22 #[.agg #[.int .i64 s, .int .i64 t, .int .i64 x], .int .i64 K] w fun e w' => e = .returned (.tuple #[.agg #[.int .i64 s, .int .i64 t, .int .i64 (jumpN s t K x : Nat)], .bool true]) ∧ Below w.heap.size w w' := by
  have h1 : -5000 ≤ K ∧ K ≤ 5000 ∧ (0 ≤ K ∨ t % 2 = 1) := by
    simp only [jumpB, Bool.and_eq_true, Bool.or_eq_true, decide_eq_true_eq] at hk; omega
  obtain ⟨h1, h2, h3⟩ := h1
  unfold jumpN
  split
  · obtain ⟨n, rfl⟩ : ∃ n : Nat, K = n := ⟨K.toNat, by omega⟩
    exact iJump_forth s t x n w h (by omega)
  · obtain ⟨n, rfl⟩ : ∃ n : Nat, K = -(n : Int) := ⟨(-K).toNat, by omega⟩
    rw [show (- -(n : Int)).toNat = n by omega]
    exact iJump_back s t x n w h (by omega) (by omega) (by omega)

/-- What a function on registers answers: the register's three numbers and whether there is one. -/
structure RegAns where
  s : Int
  t : Int
  x : Int
  ok : Bool
def RegAns.val (a : RegAns) : Value := .tuple #[.agg #[.int .i64 a.s, .int .i64 a.t, .int .i64 a.x], .bool a.ok]
def noReg : RegAns := ⟨0, 0, 0, false⟩
/-- The answer of JumpRegister. -/
def jumpAns (S T X K : Int) : RegAns :=
  if regB S T X && jumpB T.toNat K then ⟨S, T, (jumpN S.toNat T.toNat K X.toNat : Nat), true⟩ else noReg
theorem sJump_any (S T X K : Int) (w : World) :
    Calls Try.prog 21 #[.agg #[.int .i64 S, .int .i64 T, .int .i64 X], .int .i64 K] w fun e w' => e = .returned (jumpAns S T X K).val ∧ Below w.heap.size w w' := by
  cases h : regB S T X with
  | false => rw [show jumpAns S T X K = noReg by simp [jumpAns, h]]; exact sJump_no S T X K w h
  | true =>
    obtain ⟨s, t, x, rfl, rfl, rfl, hr⟩ := RegN.of h
    cases hj : jumpB t K with
    | false => rw [show jumpAns s t x K = noReg by simp [jumpAns, hj]]; exact sJump_out s t x K w hr hj
    | true => rw [show jumpAns s t x K = ⟨s, t, (jumpN s t K x : Nat), true⟩ by simp [jumpAns, h, hj]]; exact sJump_yes s t x K w hr hj
theorem iJump_any (S T X K : Int) (w : World) :
    Calls Try.prog 22 #[.agg #[.int .i64 S, .int .i64 T, .int .i64 X], .int .i64 K] w fun e w' => e = .returned (jumpAns S T X K).val ∧ Below w.heap.size w w' := by
  cases h : regB S T X with
  | false => rw [show jumpAns S T X K = noReg by simp [jumpAns, h]]; exact iJump_no S T X K w h
  | true =>
    obtain ⟨s, t, x, rfl, rfl, rfl, hr⟩ := RegN.of h
    cases hj : jumpB t K with
    | false => rw [show jumpAns s t x K = noReg by simp [jumpAns, hj]]; exact iJump_out s t x K w hr hj
    | true => rw [show jumpAns s t x K = ⟨s, t, (jumpN s t K x : Nat), true⟩ by simp [jumpAns, h, hj]]; exact iJump_yes s t x K w hr hj
def stepAns (S T X : Int) : RegAns := if regB S T X then ⟨S, T, (stepN S.toNat T.toNat X.toNat : Nat), true⟩ else noReg
theorem jumpAns_one (S T X : Int) : jumpAns S T X 1 = stepAns S T X := by
  cases h : regB S T X with
  | false => simp [jumpAns, stepAns, h]
  | true => simp [jumpAns, stepAns, h, jumpB, jumpN, stepsN]
theorem sStep_any (S T X : Int) (w : World) :
    Calls Try.prog 15 #[.agg #[.int .i64 S, .int .i64 T, .int .i64 X]] w fun e w' => e = .returned (stepAns S T X).val ∧ Below w.heap.size w w' := by
  cases h : regB S T X with
  | false => rw [show stepAns S T X = noReg by simp [stepAns, h]]; exact sStep_no S T X w h
  | true =>
    obtain ⟨s, t, x, rfl, rfl, rfl, hr⟩ := RegN.of h
    rw [show stepAns s t x = ⟨s, t, (stepN s t x : Nat), true⟩ by simp [stepAns, h]]; exact sStep_yes s t x w hr
theorem iStep_any (S T X : Int) (w : World) :
    Calls Try.prog 17 #[.agg #[.int .i64 S, .int .i64 T, .int .i64 X]] w fun e w' => e = .returned (stepAns S T X).val ∧ Below w.heap.size w w' := by
  rw [← jumpAns_one]
  obtain ⟨a, ha⟩ : ∃ a, jumpAns S T X 1 = a := ⟨_, rfl⟩
  have hj := fun w => iJump_any S T X 1 w
  rw [ha] at hj ⊢
  clear ha
  obtain ⟨a0, a1, a2, ok⟩ := a
  unfold RegAns.val at *
  have HJ := Lib.hid hj
  clear hj
  go_enter Try.func17, Try.ntmps17
  go_wp2_with fail
  refine (HJ.out _).mono ?_
  rintro e w1 ⟨rfl, hb1⟩
  obtain ⟨b1, ⟨c0, c1, c2, cl⟩, ⟨d0, d1, d2, dl⟩, f, g, hz⟩ := two_after hb1
  have g0 := g 0
  have g1 := g 1
  have g2 := g 2
  clear hb1 f g HJ
  go_wp2
  refine bodyPost_ret (v := .tuple #[.agg #[.int .i64 a0, .int .i64 a1, .int .i64 a2], .bool ok]) (by simp [results, Try.results17, go_sem, d0, d1, d2]) rfl ⟨rfl, ?_⟩
  go_grown
def backAns (S T X : Int) : RegAns := if regB S T X && decide (T.toNat % 2 = 1) then ⟨S, T, (backN S.toNat T.toNat X.toNat : Nat), true⟩ else noReg
theorem jumpAns_less (S T X : Int) : jumpAns S T X (-1) = backAns S T X := by
  cases h : regB S T X with
  | false => simp [jumpAns, backAns, h]
  | true => simp [jumpAns, backAns, h, jumpB, jumpN, backsN]
theorem sBack_any (S T X : Int) (w : World) :
    Calls Try.prog 19 #[.agg #[.int .i64 S, .int .i64 T, .int .i64 X]] w fun e w' => e = .returned (backAns S T X).val ∧ Below w.heap.size w w' := by
  cases h : regB S T X with
  | false => rw [show backAns S T X = noReg by simp [backAns, h]]; exact sBack_no S T X w h
  | true =>
    obtain ⟨s, t, x, rfl, rfl, rfl, hr⟩ := RegN.of h
    by_cases ho : t % 2 = 1
    · rw [show backAns s t x = ⟨s, t, (backN s t x : Nat), true⟩ by simp [backAns, h, ho]]; exact sBack_yes s t x w hr ho
    · rw [show backAns s t x = noReg by simp [backAns, ho]]; exact sBack_even s t x w hr ho
theorem iBack_any (S T X : Int) (w : World) :
    Calls Try.prog 20 #[.agg #[.int .i64 S, .int .i64 T, .int .i64 X]] w fun e w' => e = .returned (backAns S T X).val ∧ Below w.heap.size w w' := by
  rw [← jumpAns_less]
  obtain ⟨a, ha⟩ : ∃ a, jumpAns S T X (-1) = a := ⟨_, rfl⟩
  have hj := fun w => iJump_any S T X (-1) w
  rw [ha] at hj ⊢
  clear ha
  obtain ⟨a0, a1, a2, ok⟩ := a
  unfold RegAns.val at *
  have HJ := Lib.hid hj
  clear hj
  go_enter Try.func20, Try.ntmps20
  go_wp2_with fail
  refine (HJ.out _).mono ?_
  rintro e w1 ⟨rfl, hb1⟩
  obtain ⟨b1, ⟨c0, c1, c2, cl⟩, ⟨d0, d1, d2, dl⟩, f, g, hz⟩ := two_after hb1
  have g0 := g 0
  have g1 := g 1
  have g2 := g 2
  clear hb1 f g HJ
  go_wp2
  refine bodyPost_ret (v := .tuple #[.agg #[.int .i64 a0, .int .i64 a1, .int .i64 a2], .bool ok]) (by simp [results, Try.results20, go_sem, d0, d1, d2]) rfl ⟨rfl, ?_⟩
  go_grown
end Go.Proofs.Ytnpaigpdbjadlaa
