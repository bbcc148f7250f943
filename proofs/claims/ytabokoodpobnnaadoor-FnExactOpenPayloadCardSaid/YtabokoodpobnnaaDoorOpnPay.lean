/- OpenPayload: what both sides answer. -/
import Derived.Test.YtabokoodpobnnaaDoorOrd
import Derived.Test.YtabokoodpobnnaaDoorFrm3
import Derived.Test.YtabokoodpobnnaaDoorFrm8
import Derived.Test.YtabokoodpobnnaaDoorFrm11
import Derived.Test.YtabokoodpobnnaaDoorFrm14
namespace Go.Proofs.YtabokoodpobnnaaDoor
open Go.RowKit
set_option linter.unusedVariables false
set_option maxRecDepth 100000
def opZ (z : ByteArray) (n S T X : Int) : Nat → ByteArray
  | 0 => z
  | 1 => (scrAns z S T X).1
  | 2 => (deintAns (scrAns z S T X).1 n).1
  | 3 => (hdAns (deintAns (scrAns z S T X).1 n).1).1
  | _ => (parAns (hdAns (deintAns (scrAns z S T X).1 n).1).1 0).1
def opK (z : ByteArray) (n S T X : Int) : Nat → Bool
  | 0 => (scrAns z S T X).2
  | 1 => (deintAns (scrAns z S T X).1 n).2
  | 2 => (hdAns (deintAns (scrAns z S T X).1 n).1).2.2
  | _ => (parAns (hdAns (deintAns (scrAns z S T X).1 n).1).1 0).2.2
def opAns (z : ByteArray) (n S T X : Int) : ByteArray × Bool := ordAns (opZ z n S T X) (opK z n S T X) 4
theorem noS_size : noS.1.size = 0 := rfl
theorem scr_size (z : ByteArray) (S T X : Int) : (scrAns z S T X).1.size ≤ 600 := by
  unfold scrAns
  split
  · rename_i h
    have := (bits_of2 h.1).2
    show (addS z _).size ≤ 600
    rw [addS_size]; exact this
  · rw [noS_size]; omega
theorem deint_size (z : ByteArray) (n : Int) : (deintAns z n).1.size ≤ z.size := by
  unfold deintAns
  split
  · show (weaveS z _ _).size ≤ z.size
    rw [show (weaveS z (z.size / n.toNat) n.toNat).size = z.size from strF_size _ _]
    exact Nat.le_refl _
  · rw [noS_size]; omega
theorem hd_size (z : ByteArray) : (hdAns z).1.size ≤ z.size := by
  unfold hdAns
  split
  · show (strF _ _).size ≤ z.size
    rw [strF_size]; omega
  · exact Nat.zero_le _
theorem cells4 (X : World) (a b c d : Value) (t : TypeId) : (X.alloc (.cells #[a, b, c, d] t)).cell? ⟨X.heap.size, 0, none⟩ = some a ∧ (X.alloc (.cells #[a, b, c, d] t)).cell? ⟨X.heap.size, 1, none⟩ = some b ∧ (X.alloc (.cells #[a, b, c, d] t)).cell? ⟨X.heap.size, 2, none⟩ = some c ∧ (X.alloc (.cells #[a, b, c, d] t)).cell? ⟨X.heap.size, 3, none⟩ = some d := by
  refine ⟨?_, ?_, ?_, ?_⟩ <;> simp
theorem op1_any (z : ByteArray) (S T X : Int) (b : Nat) (w : World) (hs : z.size ≤ 1048576) (hr : RegAt w b S T X) :
    Calls Tryd.prog 40 #[.string z, .pointer (some ⟨b, 0, none⟩)] w fun e w' => e = .returned (.tuple #[.string (scrAns z S T X).1, .bool (scrAns z S T X).2]) ∧ Below w.heap.size w w' := by
  have HS := Lib.hid (fun w => iScr_any z S T X w hs)
  obtain ⟨A, hA⟩ : ∃ A, scrAns z S T X = A := ⟨_, rfl⟩
  rw [hA] at HS ⊢
  obtain ⟨A1, A2⟩ := A
  obtain ⟨c0, c1, c2, -⟩ := hr
  clear hA hs
  go_enter Tryd.func40, Tryd.ntmps40
  go_wp2_with fail
  refine (HS.out _).mono ?_
  rintro e w1 ⟨rfl, hb1⟩
  go_wp2
  go_ret2
  exact ⟨rfl, hb1⟩
theorem op2_any (z : ByteArray) (n : Int) (b : Nat) (w : World) (hs : z.size ≤ 1048576) (hc : w.cell? ⟨b, 0, none⟩ = some (.int .i64 n)) :
    Calls Tryd.prog 41 #[.string z, .pointer (some ⟨b, 0, none⟩)] w fun e w' => e = .returned (.tuple #[.string (deintAns z n).1, .bool (deintAns z n).2]) ∧ Below w.heap.size w w' := by
  have HS := Lib.hid (fun w => iDeint_any z n w hs)
  obtain ⟨A, hA⟩ : ∃ A, deintAns z n = A := ⟨_, rfl⟩
  rw [hA] at HS ⊢
  obtain ⟨A1, A2⟩ := A
  clear hA hs
  go_enter Tryd.func41, Tryd.ntmps41
  go_wp2_with fail
  refine (HS.out _).mono ?_
  rintro e w1 ⟨rfl, hb1⟩
  go_wp2
  go_ret2
  exact ⟨rfl, hb1⟩
theorem op3_any (z : ByteArray) (w : World) (hs : z.size ≤ 1048576) (hp : PlacesAt w) (h0 : 0 < w.heap.size) :
    Calls Tryd.prog 43 #[.string z] w fun e w' => e = .returned (.tuple #[.string (hdAns z).1, .bool (hdAns z).2.2]) ∧ Below w.heap.size w w' := by
  have HS := Lib.hid (iHd_any z w hs hp h0)
  obtain ⟨A, hA⟩ : ∃ A, hdAns z = A := ⟨_, rfl⟩
  rw [hA] at HS ⊢
  obtain ⟨A1, A2, A3⟩ := A
  clear hA hs hp h0
  go_enter Tryd.func43, Tryd.ntmps43
  go_wp2_with fail
  refine HS.out.mono ?_
  rintro e w1 ⟨rfl, hb1⟩
  go_wp2
  go_ret2
  exact ⟨rfl, hb1⟩
theorem op4_any (z : ByteArray) (w : World) (hs : z.size ≤ 1048576) :
    Calls Tryd.prog 44 #[.string z] w fun e w' => e = .returned (.tuple #[.string (parAns z 0).1, .bool (parAns z 0).2.2]) ∧ Below w.heap.size w w' := by
  have HS := Lib.hid (iParse_any z 0 w hs)
  obtain ⟨A, hA⟩ : ∃ A, parAns z 0 = A := ⟨_, rfl⟩
  rw [hA] at HS ⊢
  obtain ⟨A1, A2, A3⟩ := A
  clear hA hs
  go_enter Tryd.func44, Tryd.ntmps44
  go_wp2_with fail
  refine HS.out.mono ?_
  rintro e w1 ⟨rfl, hb1⟩
  go_wp2
  go_ret2
  exact ⟨rfl, hb1⟩
def opV (gi gr : Nat) : Nat → Value
  | 0 => .func (.func 40) #[] #[.pointer (some ⟨gr, 0, none⟩)]
  | 1 => .func (.func 41) #[] #[.pointer (some ⟨gi, 0, none⟩)]
  | 2 => .func (.func 43) #[] #[]
  | _ => .func (.func 44) #[] #[]
set_option maxHeartbeats 1600000 in
theorem iOpn_any (z : ByteArray) (n S T X : Int) (w : World) (hs : z.size ≤ 1048576) (hp : PlacesAt w) (h0 : 0 < w.heap.size) :
    Calls Tryd.prog 12 #[.string z, .int .i64 n, .agg #[.int .i64 S, .int .i64 T, .int .i64 X]] w fun e w' => e = .returned (.tuple #[.string (opAns z n S T X).1, .bool (opAns z n S T X).2]) ∧ Below w.heap.size w w' := by
  have hcall : ∀ gi gr g2, gi = w.heap.size → gr = w.heap.size + 1 → g2 = w.heap.size + 2 → ∀ W, W = ((w.alloc (.cells #[.int .i64 n] 3)).alloc (.cells #[.int .i64 S, .int .i64 T, .int .i64 X] 26)).alloc (.cells #[opV gi gr 0, opV gi gr 1, opV gi gr 2, opV gi gr 3] 33) →
      Calls Tryd.prog 29 #[.string z, .slice (some ⟨g2, 0, none⟩) 4 4] W fun e w' => e = .returned (.tuple #[.string (opAns z n S T X).1, .bool (opAns z n S T X).2]) ∧ Below w.heap.size w w' := by
    rintro gi gr g2 rfl rfl rfl W hW
    have s1 : (w.alloc (.cells #[.int .i64 n] 3)).heap.size = w.heap.size + 1 := World.size_alloc _ _
    have s2 : ((w.alloc (.cells #[.int .i64 n] 3)).alloc (.cells #[.int .i64 S, .int .i64 T, .int .i64 X] 26)).heap.size = w.heap.size + 2 := by rw [World.size_alloc, s1]
    have bb : Below w.heap.size w W := by rw [hW]; exact (((Below.refl _ _).alloc (Nat.le_refl _) _).alloc (by rw [s1]; omega) _).alloc (by rw [s2]; omega) _
    have sW : W.heap.size = w.heap.size + 3 := by rw [hW, World.size_alloc, s2]
    have ci : W.cell? ⟨w.heap.size, 0, none⟩ = some (.int .i64 n) := by
      rw [hW]; exact box_old (box_old (box_new w _ _) (by rw [s1]; omega) _) (by rw [s2]; omega) _
    have cr : RegAt W (w.heap.size + 1) S T X := by
      have h := RegAt.new (w.alloc (.cells #[.int .i64 n] 3)) 26 S T X
      rw [s1] at h
      rw [hW]
      exact h.below ((Below.refl _ _).alloc (Nat.le_refl _) _) (by rw [s2]; omega)
    have cells : ∀ i, i < 4 → W.cell? ⟨w.heap.size + 2, i, none⟩ = some (opV w.heap.size (w.heap.size + 1) i) := by
      intro i hi
      have hi' : i = 0 ∨ i = 1 ∨ i = 2 ∨ i = 3 := by omega
      rw [hW, ← s2]
      obtain ⟨q0, q1, q2, q3⟩ := cells4 ((w.alloc (.cells #[.int .i64 n] 3)).alloc (.cells #[.int .i64 S, .int .i64 T, .int .i64 X] 26)) (opV w.heap.size (w.heap.size + 1) 0) (opV w.heap.size (w.heap.size + 1) 1) (opV w.heap.size (w.heap.size + 1) 2) (opV w.heap.size (w.heap.size + 1) 3) 33
      rcases hi' with rfl | rfl | rfl | rfl
      · exact q0
      · exact q1
      · exact q2
      · exact q3
    have z1 := scr_size z S T X
    have z2 := deint_size (scrAns z S T X).1 n
    have z3 := hd_size (deintAns (scrAns z S T X).1 n).1
    have key := inOrder_any 4 (w.heap.size + 2) 4 (opV w.heap.size (w.heap.size + 1)) (opZ z n S T X) (opK z n S T X) W (by omega) (by omega) cells (by
      intro i hi
      have hi' : i = 0 ∨ i = 1 ∨ i = 2 ∨ i = 3 := by omega
      rcases hi' with rfl | rfl | rfl | rfl
      · exact ⟨_, _, rfl, enters_of Tryd.func40 (by kernel_rfl) rfl, fun V hV => op1_any z S T X _ V hs (cr.below hV (by omega))⟩
      · exact ⟨_, _, rfl, enters_of Tryd.func41 (by kernel_rfl) rfl, fun V hV => op2_any _ n _ V (by show (scrAns z S T X).1.size ≤ _; omega) (box_kept ci (by omega) hV)⟩
      · exact ⟨_, _, rfl, enters_of Tryd.func43 (by kernel_rfl) rfl, fun V hV => op3_any _ V (by show (deintAns (scrAns z S T X).1 n).1.size ≤ _; omega) (PlacesAt.below (PlacesAt.below hp h0 bb) (by omega) hV) (by have := hV.size; omega)⟩
      · exact ⟨_, _, rfl, enters_of Tryd.func44 (by kernel_rfl) rfl, fun V hV => op4_any _ V (by show (hdAns (deintAns (scrAns z S T X).1 n).1).1.size ≤ _; omega)⟩)
    exact key.mono fun e w' ⟨he, hb⟩ => ⟨he, below_then bb (by omega) hb⟩
  obtain ⟨A, hA⟩ : ∃ A, opAns z n S T X = A := ⟨_, rfl⟩
  rw [hA] at hcall ⊢
  obtain ⟨A1, A2⟩ := A
  have HC := Lib.hid hcall
  clear hA hs hp h0 hcall
  go_enter Tryd.func12, Tryd.ntmps12
  go_wp2_with fail
  refine (HC.out _ _ _ rfl (by first | rfl | simp) (by first | rfl | simp) _ rfl).mono ?_
  rintro e w1 ⟨rfl, hb1⟩
  go_wp2
  go_ret2
  exact ⟨rfl, hb1⟩
theorem ord4_no {z : Nat → ByteArray} {ok : Nat → Bool} (h : (ok 0 && ok 1 && ok 2) = false) : ordAns z ok 4 = noS := by
  have : allB ok 4 = false := by simp only [allB, Bool.true_and]; rw [h, Bool.false_and]
  unfold ordAns; rw [this]; exact if_neg (by simp)
theorem ord4_yes {z : Nat → ByteArray} {ok : Nat → Bool} (h : (ok 0 && ok 1 && ok 2) = true) : ordAns z ok 4 = if ok 3 then (z 4, true) else noS := by
  have : allB ok 4 = ok 3 := by simp only [allB, Bool.true_and]; rw [h, Bool.true_and]
  unfold ordAns; rw [this]
theorem op_first {z : ByteArray} {n S T X : Int} (h : ((scrAns z S T X).2 && (deintAns (scrAns z S T X).1 n).2 && (hdAns (deintAns (scrAns z S T X).1 n).1).2.2) = false) : opAns z n S T X = noS :=
  ord4_no (z := opZ z n S T X) (ok := opK z n S T X) h
theorem op_then {z : ByteArray} {n S T X : Int} (h : ((scrAns z S T X).2 && (deintAns (scrAns z S T X).1 n).2 && (hdAns (deintAns (scrAns z S T X).1 n).1).2.2) = true) : opAns z n S T X = if (parAns (hdAns (deintAns (scrAns z S T X).1 n).1).1 0).2.2 then ((parAns (hdAns (deintAns (scrAns z S T X).1 n).1).1 0).1, true) else noS :=
  ord4_yes (z := opZ z n S T X) (ok := opK z n S T X) h
set_option maxHeartbeats 1600000 in
theorem sOpn_any (z : ByteArray) (n S T X : Int) (w : World) (hs : z.size ≤ 1048576) :
    Calls Tryd.prog 11 #[.string z, .int .i64 n, .agg #[.int .i64 S, .int .i64 T, .int .i64 X]] w fun e w' => e = .returned (.tuple #[.string (opAns z n S T X).1, .bool (opAns z n S T X).2]) ∧ Below w.heap.size w w' := by
  have b0 : Below w.heap.size w (w.alloc (.cells #[.int .i64 S, .int .i64 T, .int .i64 X] 26)) := (Below.refl _ _).alloc (Nat.le_refl _) _
  have r0 := RegAt.new w 26 S T X
  have z1 := scr_size z S T X
  have z2 := deint_size (scrAns z S T X).1 n
  have z3 := hd_size (deintAns (scrAns z S T X).1 n).1
  have H1 := Lib.hid (fun w => sScr_any z S T X w hs)
  have H2 := Lib.hid (fun w => sDeint_any (scrAns z S T X).1 n w (by omega))
  have H3 := Lib.hid (fun w => sHd_any (deintAns (scrAns z S T X).1 n).1 w (by omega))
  have H4 := Lib.hid (fun w => sParse_any (hdAns (deintAns (scrAns z S T X).1 n).1).1 0 w (by omega))
  have HN := Lib.hid (op_first (z := z) (n := n) (S := S) (T := T) (X := X))
  have HY := Lib.hid (op_then (z := z) (n := n) (S := S) (T := T) (X := X))
  obtain ⟨R, hR⟩ : ∃ R, opAns z n S T X = R := ⟨_, rfl⟩
  rw [hR] at HN HY ⊢
  obtain ⟨A, hA⟩ : ∃ A, scrAns z S T X = A := ⟨_, rfl⟩
  rw [hA] at H1 H2 H3 H4 HN HY
  obtain ⟨A1, A2⟩ := A
  obtain ⟨D, hD⟩ : ∃ A, deintAns A1 n = A := ⟨_, rfl⟩
  simp only [hD] at H2 H3 H4 HN HY
  obtain ⟨D1, D2⟩ := D
  obtain ⟨H, hH⟩ : ∃ A, hdAns D1 = A := ⟨_, rfl⟩
  simp only [hH] at H3 H4 HN HY
  obtain ⟨K1, K2, K3⟩ := H
  obtain ⟨P, hP⟩ : ∃ A, parAns K1 0 = A := ⟨_, rfl⟩
  simp only [hP] at H4 HY
  obtain ⟨P1, P2, P3⟩ := P
  obtain ⟨c0, c1, c2, -⟩ := r0
  have B0 := Lib.hid b0
  clear z1 z2 z3 hR hA hD hH hP b0
  go_enter Tryd.func11, Tryd.ntmps11
  go_wp2_with fail
  refine (H1.out _).mono ?_
  rintro e w1 ⟨rfl, hb1⟩
  have b1 := below_then B0.out (by simp) hb1
  clear hb1 c0 c1 c2 H1 B0
  go_wp2_with fail
  refine (H2.out _).mono ?_
  rintro e w2 ⟨rfl, hb2⟩
  have b2 := below_then b1 (Nat.le_refl _) hb2
  clear hb2 b1 H2
  go_wp2_with fail
  refine (H3.out _).mono ?_
  rintro e w3 ⟨rfl, hb3⟩
  have b3 := below_then b2 (Nat.le_refl _) hb3
  clear hb3 b2 H3
  cases hall : (A2 && D2 && K3) with
  | false =>
    have HX := Lib.hid (HN.out hall)
    clear HN HY H4
    cases A2 <;> cases D2 <;> cases K3 <;> first | (exact absurd hall (by decide)) | skip
    all_goals
      clear hall
      go_wp2
      go_ret2
      exact ⟨ret_sA HX.out, b3⟩
  | true =>
    have HX := Lib.hid (HY.out hall)
    obtain ⟨rfl, rfl, rfl⟩ : A2 = true ∧ D2 = true ∧ K3 = true := by cases A2 <;> cases D2 <;> cases K3 <;> simp_all
    clear HN HY hall
    go_wp2_with fail
    refine (H4.out _).mono ?_
    rintro e w4 ⟨rfl, hb4⟩
    have b4 := below_then b3 (Nat.le_refl _) hb4
    clear hb4 b3 H4
    cases P3
    all_goals
      go_wp2
      go_ret2
      exact ⟨ret_sA HX.out, b4⟩
end Go.Proofs.YtabokoodpobnnaaDoor
