/- Pilots: by value; their validity, length, offsets and distances: contracts of both sides. -/
import Derived.Test.YtagdfohjhokgiaaSig6
import Derived.BigQuiet
namespace Go.Proofs.Ytagdfohjhokgiaa
open Go.RowKit
set_option linter.unusedVariables false
set_option maxRecDepth 100000
def pilB (c : ByteArray) (g : Int) : Bool := seqB c && (decide (1 ≤ g) && decide (g ≤ 8))
theorem pilB_iff (c : ByteArray) (g : Int) : pilB c g = true ↔ seqB c = true ∧ 1 ≤ g ∧ g ≤ 8 := by unfold pilB; simp only [Bool.and_eq_true, decide_eq_true_eq]
theorem pil_no {c : ByteArray} {g : Int} (h : ¬ (seqB c = true ∧ 1 ≤ g ∧ g ≤ 8)) : false = pilB c g := by
  cases e : pilB c g with
  | false => rfl
  | true => exact absurd ((pilB_iff _ _).1 e) h
/-- The samples of a period. -/
def perL (c : ByteArray) (g : Int) : Nat := c.size * g.toNat
theorem per_nat (c : ByteArray) (G : Nat) : perL c (G : Int) = c.size * G := by unfold perL; rw [Int.toNat_natCast]
theorem pil_nat {c : ByteArray} {g : Int} (h : pilB c g = true) : ∃ G : Nat, g = (G : Int) ∧ 1 ≤ G ∧ G ≤ 8 ∧ seqB c = true ∧ okB c c.size = true ∧ 1 ≤ c.size ∧ c.size ≤ 255 ∧ c.size * G = perL c g ∧ 1 ≤ perL c g ∧ perL c g ≤ 2040 := by
  obtain ⟨h1, h2, h3⟩ := (pilB_iff _ _).1 h
  obtain ⟨G, rfl⟩ : ∃ G : Nat, g = G := ⟨g.toNat, by omega⟩
  obtain ⟨c1, c2, c3⟩ := (seqB_iff c).1 h1
  refine ⟨G, rfl, by omega, by omega, h1, c1, c2, c3, (per_nat c G).symm, ?_, ?_⟩
  · rw [per_nat]; have : 1 * 1 ≤ c.size * G := Nat.mul_le_mul c2 (by omega); omega
  · rw [per_nat]; have : c.size * G ≤ 255 * 8 := Nat.mul_le_mul c3 (by omega); omega
def lenAns (c : ByteArray) (g : Int) : Int := if pilB c g then (perL c g : Int) else -1
/-- An offset of a valid pilot. -/
def offB (c : ByteArray) (g k : Int) : Bool := pilB c g && (decide (0 ≤ k) && decide (k < (perL c g : Int)))
theorem offB_iff (c : ByteArray) (g k : Int) : offB c g k = true ↔ pilB c g = true ∧ 0 ≤ k ∧ k < (perL c g : Int) := by unfold offB; simp only [Bool.and_eq_true, decide_eq_true_eq]
theorem off_no {c : ByteArray} {g k : Int} (h : ¬ (pilB c g = true ∧ 0 ≤ k ∧ k < (perL c g : Int))) : false = offB c g k := by
  cases e : offB c g k with
  | false => rfl
  | true => exact absurd ((offB_iff _ _ _).1 e) h
theorem off_in {c : ByteArray} {g k : Int} (h : pilB c g = true) : (decide (0 ≤ k) && decide (k < (perL c g : Int))) = offB c g k := by unfold offB; rw [h]; rfl
/-- How far two offsets of a period are apart. -/
def dsN (P a b : Nat) : Nat := min (max a b - min a b) (P - (max a b - min a b))
def dsAns (c : ByteArray) (g a b : Int) : Int := if offB c g a && offB c g b then (dsN (perL c g) a.toNat b.toNat : Int) else -1
theorem ds_yes {c : ByteArray} {g : Int} {A B : Nat} (h1 : offB c g A = true) (h2 : offB c g B = true) : dsAns c g A B = (dsN (perL c g) A B : Int) := by unfold dsAns; rw [h1, h2, Int.toNat_natCast, Int.toNat_natCast]; rfl
theorem ds_no {c : ByteArray} {g a b : Int} (h : ¬ (offB c g a = true ∧ offB c g b = true)) : dsAns c g a b = -1 := by
  unfold dsAns
  cases h1 : offB c g a with
  | false => rfl
  | true =>
    cases h2 : offB c g b with
    | false => rfl
    | true => exact absurd ⟨h1, h2⟩ h
theorem ds_mod {P A B : Nat} (hA : A < P) (hB : B < P) : dsN P A B = min (modN ((B : Int) - (A : Int)) P) (P - modN ((B : Int) - (A : Int)) P) := by
  have h0 := modN_eq ((B : Int) - (A : Int)) P (by omega)
  have hl := modN_lt ((B : Int) - (A : Int)) P (by omega)
  unfold dsN
  by_cases h : A ≤ B
  · rw [Int.emod_eq_of_lt (by omega) (by omega)] at h0; omega
  · have : ((B : Int) - (A : Int) + P) % (P : Int) = (B : Int) - (A : Int) + P := Int.emod_eq_of_lt (by omega) (by omega)
    rw [Int.add_emod_right] at this
    rw [this] at h0
    omega
/-- What is left of a size. -/
def szP (c : ByteArray) (l : Int) : Int := if l - (c.size : Int) < 0 then -1 else l - (c.size : Int)
theorem szP_bd (c : ByteArray) (h : ¬ szP c 1048576 < 0) : c.size ≤ 1048576 := by
  unfold szP at h
  by_cases q : (1048576 : Int) - (c.size : Int) < 0
  · rw [if_pos q] at h; omega
  · omega
/-- A box with a pilot. -/
def PilAt (w : World) (b : Nat) (c : ByteArray) (g : Int) : Prop :=
  w.cell? ⟨b, 0, none⟩ = some (.string c) ∧ w.cell? ⟨b, 1, none⟩ = some (.int .i64 g) ∧ b < w.heap.size
theorem PilAt.new (w : World) (t : TypeId) (c : ByteArray) (g : Int) : PilAt (w.alloc (.cells #[.string c, .int .i64 g] t)) w.heap.size c g := by
  refine ⟨?_, ?_, by simp⟩ <;> simp
theorem PilAt.below {w w' : World} {b B : Nat} {c : ByteArray} {g : Int} (h : PilAt w b c g) (hb : Below B w w') (hB : b < B) : PilAt w' b c g :=
  ⟨(hb.cell (p := ⟨b, 0, none⟩) hB).trans h.1, (hb.cell (p := ⟨b, 1, none⟩) hB).trans h.2.1, Nat.lt_of_lt_of_le h.2.2 hb.size⟩
theorem modulo_big (k : Int) (n : Nat) (w : World) (h1 : 1 ≤ n) (h2 : n ≤ 1000000) :
    Calls Try.prog 26 #[.int .i64 k, .int .i64 n] w fun e w' => e = .returned (.int .i64 (modN k n : Nat)) ∧ w = w' := by
  have hb := tmod_bd k n (by omega)
  have hn : ¬ ((n : Int) = 0) := by omega
  by_cases h0 : k.tmod n < 0
  · have HR := Lib.hid (tmod_neg k n (by omega) h0)
    go_enter Try.func26, Try.ntmps26
    go_wp2
    go_ret
    exact ⟨ret_int HR.out, rfl⟩
  · have HR := Lib.hid (tmod_pos k n (by omega) (by omega))
    go_enter Try.func26, Try.ntmps26
    go_wp2
    go_ret
    exact ⟨ret_int HR.out, rfl⟩
theorem l2Mod_big (k : Int) (n : Nat) (w : World) (h1 : 1 ≤ n) (h2 : n ≤ 1000000) :
    Calls Try.prog 52 #[.int .i64 k, .int .i64 n] w fun e w' => e = .returned (.int .i64 (modN k n : Nat)) ∧ w = w' := by
  have hb := tmod_bd k n (by omega)
  have hn : ¬ ((n : Int) = 0) := by omega
  have HR := Lib.hid (tmod_twice k n (by omega))
  go_enter Try.func52, Try.ntmps52
  go_wp2
  go_ret
  exact ⟨ret_int HR.out, rfl⟩
theorem iPilot_any (c : ByteArray) (g : Int) (w : World) (hc : c.size ≤ 1048576) :
    Calls Try.prog 21 #[.agg #[.string c, .int .i64 g]] w fun e w' => e = .returned (.bool (pilB c g)) ∧ Below w.heap.size w w' := by
  cases hsc : seqB c with
  | false =>
    have HB := Lib.hid (pil_no (c := c) (g := g) (fun h => by have := h.1; rw [hsc] at this; exact absurd this (by decide)))
    have H1 := Lib.hid (fun w => iSequenceValid_no c w (by omega) hsc)
    clear hsc
    go_enter Try.func21, Try.ntmps21
    go_wp2_with fail
    refine (H1.out _).mono ?_
    rintro e w' ⟨rfl, rfl⟩
    go_wp2
    go_ret
    exact ⟨ret_bool HB.out, by go_grown⟩
  | true =>
    have H1 := Lib.hid (fun w => iSequenceValid_yes c w hsc)
    have HN := Lib.hid (fun h => pil_no (c := c) (g := g) h)
    have HY := Lib.hid (fun h => (pilB_iff c g).2 ⟨hsc, h⟩)
    have c3 := ((seqB_iff c).1 hsc).2.2
    clear hsc
    by_cases g0 : 1 ≤ g
    rotate_left
    · have HB := Lib.hid (HN.out (fun h => absurd h.2.1 g0))
      clear HN HY
      go_enter Try.func21, Try.ntmps21
      go_wp2_with fail
      refine (H1.out _).mono ?_
      rintro e w' ⟨rfl, rfl⟩
      go_wp2
      go_ret
      exact ⟨ret_bool HB.out, by go_grown⟩
    by_cases g1 : g ≤ 8
    rotate_left
    · have HB := Lib.hid (HN.out (fun h => absurd h.2.2 g1))
      clear HN HY
      go_enter Try.func21, Try.ntmps21
      go_wp2_with fail
      refine (H1.out _).mono ?_
      rintro e w' ⟨rfl, rfl⟩
      go_wp2
      go_ret
      exact ⟨ret_bool HB.out, by go_grown⟩
    have HB := Lib.hid (HY.out ⟨g0, g1⟩).symm
    clear HN HY
    obtain ⟨G, rfl⟩ : ∃ G : Nat, g = G := ⟨g.toNat, by omega⟩
    obtain ⟨P, hP⟩ : ∃ P, c.size * G = P := ⟨_, rfl⟩
    have hP2 : P ≤ 2040 := by rw [← hP]; have : c.size * G ≤ 255 * 8 := Nat.mul_le_mul c3 (by omega); omega
    have hPI : (c.size : Int) * (G : Int) = (P : Int) := by rw [← hP, Int.natCast_mul]
    clear hP
    go_enter Try.func21, Try.ntmps21
    go_wp2_with fail
    refine (H1.out _).mono ?_
    rintro e w' ⟨rfl, rfl⟩
    go_wp2
    go_ret
    exact ⟨ret_bool ((decide_eq_true (by omega)).trans HB.out), by go_grown⟩
theorem sPilot_any (c : ByteArray) (g : Int) (w : World) (hc : c.size ≤ 1048576) :
    Calls Try.prog 23 #[.agg #[.string c, .int .i64 g]] w fun e w' => e = .returned (.bool (pilB c g)) ∧ Below w.heap.size w w' := by
  cases hsc : seqB c with
  | false =>
    have HB := Lib.hid (pil_no (c := c) (g := g) (fun h => by have := h.1; rw [hsc] at this; exact absurd this (by decide)))
    have H1 := Lib.hid (fun w => sSequenceValid_no c w (by omega) hsc)
    clear hsc
    go_enter Try.func23, Try.ntmps23
    go_wp2_with fail
    refine (H1.out _).mono ?_
    rintro e w' ⟨rfl, rfl⟩
    go_wp2
    go_ret
    exact ⟨ret_bool HB.out, by go_grown⟩
  | true =>
    have H1 := Lib.hid (fun w => sSequenceValid_yes c w hsc)
    have HN := Lib.hid (fun h => pil_no (c := c) (g := g) h)
    have HY := Lib.hid (fun h => (pilB_iff c g).2 ⟨hsc, h⟩)
    have c3 := ((seqB_iff c).1 hsc).2.2
    clear hsc
    by_cases g0 : 1 ≤ g ∧ g ≤ 8
    rotate_left
    · have HB := Lib.hid (HN.out (fun h => absurd h.2 g0))
      have I1 := Lib.hid (fun w => l1In_no g 1 8 w g0)
      clear HN HY g0
      go_enter Try.func23, Try.ntmps23
      go_wp2_with fail
      refine (H1.out _).mono ?_
      rintro e w' ⟨rfl, rfl⟩
      go_wp2_with fail
      refine (I1.out _).mono ?_
      rintro e w' ⟨rfl, rfl⟩
      go_wp2
      go_ret
      exact ⟨ret_bool HB.out, by go_grown⟩
    have HB := Lib.hid (HY.out g0).symm
    have I1 := Lib.hid (fun w => l1In_yes g 1 8 w g0.1 g0.2)
    clear HN HY
    obtain ⟨g1, g2⟩ := g0
    obtain ⟨G, rfl⟩ : ∃ G : Nat, g = G := ⟨g.toNat, by omega⟩
    obtain ⟨P, hP⟩ : ∃ P, c.size * G = P := ⟨_, rfl⟩
    have hP2 : P ≤ 2040 := by rw [← hP]; have : c.size * G ≤ 255 * 8 := Nat.mul_le_mul c3 (by omega); omega
    have hPI : (c.size : Int) * (G : Int) = (P : Int) := by rw [← hP, Int.natCast_mul]
    clear hP
    go_enter Try.func23, Try.ntmps23
    go_wp2_with fail
    refine (H1.out _).mono ?_
    rintro e w' ⟨rfl, rfl⟩
    go_wp2_with fail
    refine (I1.out _).mono ?_
    rintro e w' ⟨rfl, rfl⟩
    go_wp2
    go_ret
    exact ⟨ret_bool ((decide_eq_true (by omega)).trans HB.out), by go_grown⟩
theorem iPLen_any (c : ByteArray) (g : Int) (w : World) (hc : c.size ≤ 1048576) :
    Calls Try.prog 7 #[.agg #[.string c, .int .i64 g]] w fun e w' => e = .returned (.int .i64 (lenAns c g)) ∧ Below w.heap.size w w' := by
  have hv := fun w => iPilot_any c g w hc
  have b0 := (Below.refl w.heap.size w).alloc (Nat.le_refl _) (.cells #[.string c, .int .i64 g] 24)
  have u0 := PilAt.new w 24 c g
  unfold lenAns
  cases hb : pilB c g with
  | false =>
    rw [hb] at hv
    rw [if_neg (by decide)]
    have HV := Lib.hid hv
    clear hv hb u0
    go_enter Try.func7, Try.ntmps7
    go_wp2_with fail
    refine (HV.out _).mono ?_
    rintro e w1 ⟨rfl, n1⟩
    have b1 := below_then b0 (Nat.le_refl _) n1
    clear n1 b0
    go_wp2
    go_ret
    exact ⟨rfl, b1⟩
  | true =>
    rw [hb] at hv
    rw [if_pos rfl]
    obtain ⟨G, rfl, q1, q2, q3, q4, q5, q6, q7, q8, q9⟩ := pil_nat hb
    obtain ⟨P, hP⟩ : ∃ P, perL c G = P := ⟨_, rfl⟩
    rw [hP] at q7 q8 q9 ⊢
    have hPI : (c.size : Int) * (G : Int) = (P : Int) := by rw [← q7, Int.natCast_mul]
    have HV := Lib.hid hv
    clear hv hb hP q3 q4 q7
    go_enter Try.func7, Try.ntmps7
    go_wp2_with fail
    refine (HV.out _).mono ?_
    rintro e w1 ⟨rfl, n1⟩
    have b1 := below_then b0 (Nat.le_refl _) n1
    have u1 := u0.below n1 (by simp)
    clear n1 b0 u0
    obtain ⟨x0, x1, x2⟩ := id u1
    go_wp2
    go_ret
    exact ⟨rfl, b1⟩
theorem l5Length_yes (c : ByteArray) (g : Int) (w : World) (h : pilB c g = true) :
    Calls Try.prog 24 #[.agg #[.string c, .int .i64 g]] w fun e w' => e = .returned (.int .i64 (perL c g : Int)) ∧ Below w.heap.size w w' := by
  obtain ⟨G, rfl, q1, q2, q3, q4, q5, q6, q7, q8, q9⟩ := pil_nat h
  obtain ⟨P, hP⟩ : ∃ P, perL c G = P := ⟨_, rfl⟩
  rw [hP] at q7 q8 q9 ⊢
  have hPI : (c.size : Int) * (G : Int) = (P : Int) := by rw [← q7, Int.natCast_mul]
  clear hP q3 q4 q7 h
  go_enter Try.func24, Try.ntmps24
  go_wp2
  go_ret
  exact ⟨rfl, by go_grown⟩
theorem sPLen_any (c : ByteArray) (g : Int) (w : World) (hc : c.size ≤ 1048576) :
    Calls Try.prog 9 #[.agg #[.string c, .int .i64 g]] w fun e w' => e = .returned (.int .i64 (lenAns c g)) ∧ Below w.heap.size w w' := by
  have hv := fun w => sPilot_any c g w hc
  have b0 := (Below.refl w.heap.size w).alloc (Nat.le_refl _) (.cells #[.string c, .int .i64 g] 24)
  have u0 := PilAt.new w 24 c g
  unfold lenAns
  cases hb : pilB c g with
  | false =>
    rw [hb] at hv
    rw [if_neg (by decide)]
    have HV := Lib.hid hv
    clear hv hb u0
    go_enter Try.func9, Try.ntmps9
    go_wp2_with fail
    refine (HV.out _).mono ?_
    rintro e w1 ⟨rfl, n1⟩
    have b1 := below_then b0 (Nat.le_refl _) n1
    clear n1 b0
    go_wp2
    go_ret
    exact ⟨rfl, b1⟩
  | true =>
    rw [hb] at hv
    rw [if_pos rfl]
    have HL := Lib.hid (fun w => l5Length_yes c g w hb)
    have HV := Lib.hid hv
    clear hv hb
    go_enter Try.func9, Try.ntmps9
    go_wp2_with fail
    refine (HV.out _).mono ?_
    rintro e w1 ⟨rfl, n1⟩
    have b1 := below_then b0 (Nat.le_refl _) n1
    have u1 := u0.below n1 (by simp)
    clear n1 b0 u0
    obtain ⟨x0, x1, x2⟩ := id u1
    go_wp2_with fail
    refine (HL.out _).mono ?_
    rintro e w2 ⟨rfl, n2⟩
    have b2 := below_then b1 (Nat.le_refl _) n2
    clear n2 b1 u1 x0 x1 x2
    go_wp2
    go_ret
    exact ⟨rfl, b2⟩
theorem iOff_any (c : ByteArray) (g k : Int) (w : World) (hc : c.size ≤ 1048576) :
    Calls Try.prog 25 #[.agg #[.string c, .int .i64 g], .int .i64 k] w fun e w' => e = .returned (.bool (offB c g k)) ∧ Below w.heap.size w w' := by
  have hv := fun w => iPLen_any c g w hc
  have b0 := (Below.refl w.heap.size w).alloc (Nat.le_refl _) (.cells #[.string c, .int .i64 g] 24)
  by_cases h0 : 0 ≤ k
  · have hR : decide (k < lenAns c g) = offB c g k := by
      unfold lenAns
      cases hb : pilB c g with
      | true => rw [← off_in hb, decide_eq_true h0, Bool.true_and, if_pos rfl]
      | false => unfold offB; rw [hb, if_neg (by decide), decide_eq_false (by omega)]; rfl
    obtain ⟨L, hL⟩ : ∃ L, lenAns c g = L := ⟨_, rfl⟩
    rw [hL] at hv hR
    have HR := Lib.hid hR
    have HV := Lib.hid hv
    clear hv hR hL
    go_enter Try.func25, Try.ntmps25
    go_wp2_with fail
    refine (HV.out _).mono ?_
    rintro e w1 ⟨rfl, n1⟩
    have b1 := below_then b0 (Nat.le_refl _) n1
    clear n1 b0
    go_wp2
    go_ret
    exact ⟨ret_bool HR.out, b1⟩
  · have HR := Lib.hid (off_no (c := c) (g := g) (k := k) (by omega))
    clear hv
    go_enter Try.func25, Try.ntmps25
    go_wp2
    go_ret
    exact ⟨ret_bool HR.out, b0⟩
theorem l5Offset_any (c : ByteArray) (g k : Int) (w : World) (h : pilB c g = true) :
    Calls Try.prog 38 #[.agg #[.string c, .int .i64 g], .int .i64 k] w fun e w' => e = .returned (.bool (offB c g k)) ∧ Below w.heap.size w w' := by
  have hR : (decide (0 ≤ k) && decide (k ≤ (perL c g : Int) - 1)) = offB c g k := by rw [← off_in h]; congr 1; rw [decide_eq_decide]; omega
  have hp := (pil_nat h)
  obtain ⟨G, -, -, -, -, -, -, -, -, q8, q9⟩ := hp
  have hl := fun w => l5Length_yes c g w h
  obtain ⟨P, hP⟩ : ∃ P, perL c g = P := ⟨_, rfl⟩
  rw [hP] at hl hR q8 q9
  have hi := fun w => l1In_any k 0 ((P : Int) - 1) w
  rw [hR] at hi
  have HL := Lib.hid hl
  have HI := Lib.hid hi
  clear hl hi hR hP h
  have b0 := (Below.refl w.heap.size w).alloc (Nat.le_refl _) (.cells #[.string c, .int .i64 g] 24)
  go_enter Try.func38, Try.ntmps38
  go_wp2_with fail
  refine (HL.out _).mono ?_
  rintro e w1 ⟨rfl, n1⟩
  have b1 := below_then b0 (Nat.le_refl _) n1
  clear n1 b0
  go_wp2_with fail
  refine (HI.out _).mono ?_
  rintro e w' ⟨rfl, rfl⟩
  go_wp2
  go_ret
  exact ⟨rfl, b1⟩
end Go.Proofs.Ytagdfohjhokgiaa
