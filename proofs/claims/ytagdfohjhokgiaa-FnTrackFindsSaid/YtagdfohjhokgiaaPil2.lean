/- The samples of pilots and the scores: plain numbers; contracts of the model. -/
import Derived.Test.YtagdfohjhokgiaaPil
import Derived.Test.YtagdfohjhokgiaaSig8
import Derived.Deep.RegionHeld3
namespace Go.Proofs.Ytagdfohjhokgiaa
open Go.RowKit
set_option linter.unusedVariables false
set_option maxRecDepth 100000
/-- The samples of a pilot with an offset. -/
def plF (c : ByteArray) (G P : Nat) (k : Int) (i : Nat) : Int := chF c (modN ((i : Int) - k) P / G)
theorem pl_pos {c : ByteArray} {G P : Nat} (hP : c.size * G = P) (h1 : 1 ≤ P) : 0 < G := by
  rcases Nat.eq_zero_or_pos G with e | e
  · rw [e, Nat.mul_zero] at hP; omega
  · exact e
theorem pl_idx {c : ByteArray} {G P : Nat} (hP : c.size * G = P) (h1 : 1 ≤ P) (x : Int) : modN x P / G < c.size := by
  rw [Nat.div_lt_iff_lt_mul (pl_pos hP h1), hP]; exact modN_lt x P h1
theorem pl_bd {c : ByteArray} {G P : Nat} (h : okB c c.size = true) (hP : c.size * G = P) (h1 : 1 ≤ P) (k : Int) (i : Nat) : plF c G P k i = 1 ∨ plF c G P k i = -1 := chF_bd h (pl_idx hP h1 _)
theorem modN_plus (x : Int) (P : Nat) (t : Int) : modN (x + (P : Int) * t) P = modN x P := by unfold modN; rw [Int.add_mul_emod_self_left]
theorem modN_back (k : Int) (P i : Nat) (h : 1 ≤ P) : modN (((P - modN k P + i : Nat) : Int) - 0) P = modN ((i : Int) - k) P := by
  have hm := modN_eq k P (by omega)
  have hl := modN_lt k P (by omega)
  have he := Int.mul_ediv_add_emod k P
  rw [← hm] at he
  have e : (((P - modN k P + i : Nat) : Int) - 0) = ((i : Int) - k) + (P : Int) * (k / (P : Int) + 1) := by
    rw [Int.mul_add, Int.mul_one]; omega
  rw [e, modN_plus]
theorem modN_sub (x k : Int) (P : Nat) (h : 1 ≤ P) : modN (x - (modN k P : Int)) P = modN (x - k) P := by
  have hm := modN_eq k P (by omega)
  have he := Int.mul_ediv_add_emod k P
  rw [← hm] at he
  have e : x - (modN k P : Int) = (x - k) + (P : Int) * (k / (P : Int)) := by omega
  rw [e, modN_plus]
theorem modN_id (k P : Nat) (h : k < P) : modN (k : Int) P = k := by rw [modN_of_nat]; exact Nat.mod_eq_of_lt h
theorem pl_back (c : ByteArray) (G P : Nat) (k : Int) (i : Nat) (h : 1 ≤ P) : plF c G P 0 (P - modN k P + i) = plF c G P k i := by unfold plF; rw [modN_back k P i h]
theorem pl_mod (c : ByteArray) (G P : Nat) (k : Int) (h : 1 ≤ P) : plF c G P (modN k P : Int) = plF c G P k := by funext i; unfold plF; rw [modN_sub _ _ _ h]
/-- The first terms of a score. -/
def scT (f : Nat → Int) (c : ByteArray) (G P : Nat) (k : Int) : Nat → Int := sumI (fun i => f i * plF c G P k i)
theorem scT_succ (f : Nat → Int) (c : ByteArray) (G P : Nat) (k : Int) (j : Nat) : scT f c G P k (j + 1) = scT f c G P k j + f j * plF c G P k j := rfl
/-- The score of n samples. -/
def scr (n : Nat) (f : Nat → Int) (c : ByteArray) (G P : Nat) (k : Int) : Int := scT f c G P k (min P n)
theorem scr_mod (n : Nat) (f : Nat → Int) (c : ByteArray) (G P : Nat) (k : Int) (h : 1 ≤ P) : scr n f c G P (modN k P : Int) = scr n f c G P k := by unfold scr scT; rw [pl_mod _ _ _ _ h]
theorem scT_bd {f : Nat → Int} {c : ByteArray} {G P : Nat} (h : okB c c.size = true) (hP : c.size * G = P) (h1 : 1 ≤ P) (k : Int) : ∀ j : Nat, (∀ i, i < j → -1000000 ≤ f i ∧ f i ≤ 1000000) → -(1000000 * (j : Int)) ≤ scT f c G P k j ∧ scT f c G P k j ≤ 1000000 * (j : Int)
  | 0, _ => by simp [scT, sumI]
  | j + 1, hf => by
    have ih := scT_bd h hP h1 k j (fun i hi => hf i (by omega))
    have hb := hf j (by omega)
    have hc := chip_bd hb.1 hb.2 (pl_bd h hP h1 k j)
    rw [scT_succ]
    omega
theorem scr_bd {n : Nat} {f : Nat → Int} {c : ByteArray} {G P : Nat} (h : okB c c.size = true) (hP : c.size * G = P) (h1 : 1 ≤ P) (hA : allM n f = true) (h3 : n ≤ 3000) (k : Int) : -3000000000 ≤ scr n f c G P k ∧ scr n f c G P k ≤ 3000000000 := by
  have := scT_bd (f := f) h hP h1 k (min P n) (fun i hi => allM_at hA (by omega))
  unfold scr
  omega
theorem allM_cut {n : Nat} {f : Nat → Int} (hA : allM n f = true) (m : Nat) : allM (n - m) (cutF m f) = true := allM_of fun k hk => allM_at (k := m + k) hA (by omega)
set_option maxHeartbeats 1600000 in
theorem l5Chip_yes (c : ByteArray) (g : Int) (k : Int) (i : Nat) (w : World) (h : pilB c g = true) (h0 : -10000 ≤ k) (h1 : k ≤ 10000) (hi : i ≤ 10000) :
    Calls Try.prog 50 #[.agg #[.string c, .int .i64 g], .int .i64 k, .int .i64 (i : Int)] w fun e w' => e = .returned (.int .i64 (plF c g.toNat (perL c g) k i)) ∧ Below w.heap.size w w' := by
  obtain ⟨G, rfl, q1, q2, q3, q4, q5, q6, q7, q8, q9⟩ := pil_nat h
  rw [Int.toNat_natCast]
  have hl := fun w => l5Length_yes c G w h
  obtain ⟨P, hP⟩ : ∃ P, perL c G = P := ⟨_, rfl⟩
  rw [hP] at hl q7 q8 q9 ⊢
  have hm := fun w => l2Mod_big ((i : Int) - k) P w (by omega) (by omega)
  have hx := pl_idx q7 q8 ((i : Int) - k)
  have hml := modN_lt ((i : Int) - k) P (by omega)
  have hz : plF c G P k i = chF c (modN ((i : Int) - k) P / G) := rfl
  obtain ⟨M, hM⟩ : ∃ M, modN ((i : Int) - k) P = M := ⟨_, rfl⟩
  rw [hM] at hm hx hz hml
  have hd : (M : Int) / (G : Int) = ((M / G : Nat) : Int) := by rw [Int.natCast_ediv]
  obtain ⟨D, hD⟩ : ∃ D, M / G = D := ⟨_, rfl⟩
  rw [hD] at hx hz hd
  obtain ⟨b, hb, hbe⟩ := isBit _ (okB_zb c q4 D hx)
  have hch := chF_of hbe
  have v1 : ((c[D].toNat : Nat) : Int) - 48 = (b : Nat) := by
    rw [zb_at c D hx, hbe]; omega
  have HZ := Lib.hid (hz.trans hch)
  have HL := Lib.hid hl
  have HM := Lib.hid hm
  have b0 := (Below.refl w.heap.size w).alloc (Nat.le_refl _) (.cells #[.string c, .int .i64 (G : Int)] 24)
  have u0 := PilAt.new w 24 c G
  clear hl hm hM hD hz hch h hP q3 q4 q7
  have i1 : (0 : Int) ≤ (D : Int) := by omega
  have i2 : (D : Int) < (c.size : Int) := by omega
  have n0 : ¬ (G : Int) = 0 := by omega
  have n1 : ((G : Int) == 0) = false := by rw [beq_eq_false_iff_ne]; omega
  have n2 : ¬ G = 0 := by omega
  have v0 : IntKind.i64.wrap ((i : Int) - k) = (i : Int) - k := IntWalk.i64_in _ (by omega)
  have v2 : (M : Int).tdiv (G : Int) = (D : Int) := by rw [Int.tdiv_eq_ediv_of_nonneg (by omega)]; exact hd
  have v3 : IntKind.i64.wrap (D : Int) = (D : Int) := IntWalk.i64_in _ (by omega)
  have v4 : IntKind.i64.wrap (((c[D].toNat : Nat) : Int) - 48) = (b : Int) := by rw [v1]; exact IntWalk.i64_in _ (by omega)
  have v5 : IntKind.i64.wrap (2 * (b : Int)) = 2 * (b : Int) := IntWalk.i64_in _ (by omega)
  have v6 : IntKind.i64.wrap (1 - 2 * (b : Int)) = 1 - 2 * (b : Int) := IntWalk.i64_in _ (by omega)
  have HV : Hid (IntKind.i64.wrap (1 - IntKind.i64.wrap (2 * IntKind.i64.wrap (IntKind.i64.wrap ((c[D].toNat : Nat) : Int) - 48))) = plF c G P k i) := Lib.hid (by
    rw [HZ.out, show IntKind.i64.wrap ((c[D].toNat : Nat) : Int) = ((c[D].toNat : Nat) : Int) from IntWalk.i64_in _ (by omega), v4, v5, v6])
  have r0 := Below.refl (w.alloc (.cells #[.string c, .int .i64 (G : Int)] 24)).heap.size (w.alloc (.cells #[.string c, .int .i64 (G : Int)] 24))
  clear hd v1 hbe v4 v5 v6
  go_enter Try.func50, Try.ntmps50
  go_wp2_with fail
  obtain ⟨W, hW⟩ : ∃ W, w.alloc (.cells #[.string c, .int .i64 (G : Int)] 24) = W := ⟨_, rfl⟩
  rw [hW] at b0 u0 r0 ⊢
  clear hW
  obtain ⟨B, hB⟩ : ∃ B, w.heap.size = B := ⟨_, rfl⟩
  have BB := Lib.hid b0
  rw [hB] at b0 u0 ⊢
  clear hB
  obtain ⟨x0, x1, x2⟩ := id u0
  go_region_held3 (fun wx => Below W.heap.size W wx ∧ wx.cell? ⟨B, 0, none⟩ = some (.string c) ∧ wx.cell? ⟨B, 1, none⟩ = some (.int .i64 (G : Int))) (first | exact ⟨k1, y1.1, y1.2.1⟩ | exact ⟨r0.drew, x0, x1⟩) (first
    | (go_at_call 24; refine (HL.out _).mono ?_; rintro e w5 ⟨rfl, hB⟩; have k1 := below_then r0.drew (Nat.le_refl _) hB; have y1 := u0.below k1 x2; clear hB)
    | (go_at_call 52; refine (HM.out _).mono ?_; rintro e w' ⟨rfl, rfl⟩))
  have r5 := below_then BB.out (Nat.le_refl _) k1
  clear r0 u0 b0 x0 x1 x2 k1 y1
  go_wp2
  go_ret
  exact ⟨ret_int HV.out, r5⟩
set_option maxHeartbeats 1600000 in
theorem l5Score_yes (v : Value) (n : Nat) (f : Nat → Int) (m : Nat) (c : ByteArray) (g k : Int) (w : World) (h : IntsR w v n f) (hA : allM n f = true) (hn : n ≤ 3000) (hm : m ≤ 1000000) (hp : pilB c g = true) (h0 : -5000 ≤ k) (h1 : k ≤ 5000) :
    Calls Try.prog 35 #[v, .int .i64 (m : Int), .agg #[.string c, .int .i64 g], .int .i64 k] w fun e w' => e = .returned (.int .i64 (scr (n - m) (cutF m f) c g.toNat (perL c g) k)) ∧ Below w.heap.size w w' := by
  obtain ⟨G, rfl, q1, q2, q3, q4, q5, q6, q7, q8, q9⟩ := pil_nat hp
  have hcp := fun i w hi => l5Chip_yes c (G : Int) k i w hp (by omega) (by omega) hi
  rw [Int.toNat_natCast] at hcp ⊢
  have hl := fun w => l5Length_yes c G w hp
  obtain ⟨P, hP⟩ : ∃ P, perL c G = P := ⟨_, rfl⟩
  rw [hP] at hcp hl q7 q8 q9 ⊢
  obtain ⟨a, cap, rfl, hc⟩ := h
  have HC := Lib.hid hc
  have HZ := Lib.hid (fun i (hi : i < n) => allM_at hA hi)
  have HBD := Lib.hid (fun j (hj : j ≤ n - m) => scT_bd (f := cutF m f) q4 q7 q8 k j (fun i hi => allM_at (allM_cut hA m) (by omega)))
  have HPL := Lib.hid (fun j => pl_bd q4 q7 q8 k j)
  have HST := Lib.hid (fun j => scT_succ (cutF m f) c G P k j)
  have HL := Lib.hid hl
  have HCP := Lib.hid hcp
  have HSR : Hid (scr (n - m) (cutF m f) c G P k = scT (cutF m f) c G P k (min P (n - m))) := Lib.hid rfl
  obtain ⟨SR, hSR⟩ : ∃ S, scr (n - m) (cutF m f) c G P k = S := ⟨_, rfl⟩
  rw [hSR] at HSR ⊢
  obtain ⟨L, hL⟩ : ∃ L, min P (n - m) = L := ⟨_, rfl⟩
  rw [hL] at HSR
  have hL1 : L ≤ P := by omega
  have hL2 : L ≤ n - m := by omega
  have HLL := Lib.hid (fun j (h1 : j < P) (h2 : m + j < n) => show j < L by omega)
  have b0 := (Below.refl w.heap.size w).alloc (Nat.le_refl _) (.cells #[.string c, .int .i64 (G : Int)] 24)
  have u0 := PilAt.new w 24 c G
  clear hcp hl hP hc hA hp hSR hL q3 q4 q7 q1 q2
  go_enter Try.func35, Try.ntmps35
  go_wp2_with fail
  obtain ⟨W, hW⟩ : ∃ W, w.alloc (.cells #[.string c, .int .i64 (G : Int)] 24) = W := ⟨_, rfl⟩
  rw [hW] at b0 u0 ⊢
  clear hW
  obtain ⟨B, hB⟩ : ∃ B, w.heap.size = B := ⟨_, rfl⟩
  have BB := Lib.hid b0
  rw [hB] at b0 u0 ⊢
  clear hB
  go_loopw [9, 10] (fun s i wr => ∃ j : Nat, j ≤ L ∧ i = .int .i64 j ∧ s = .int .i64 (scT (cutF m f) c G P k j) ∧ Below W.heap.size W wr) (fun _ i _ => L - (intOf i).toNat)
  case atStart => exact ⟨0, by omega, rfl, rfl, Below.refl _ _⟩
  case round =>
    obtain ⟨j, hj, rfl, rfl, rb⟩ := hrel
    have uj := u0.below rb u0.2.2
    obtain ⟨x0, x1, x2⟩ := id uj
    by_cases hlt : j < L
    · have i1 : (j : Int) < (P : Int) := by omega
      have i2 : (m : Int) + (j : Int) < (n : Int) := by omega
      go_wp2_with fail
      refine (HL.out _).mono ?_
      rintro e w1 ⟨rfl, n1⟩
      have r1 := below_then rb (Nat.le_refl _) n1
      have u1 := uj.below n1 x2
      clear n1 rb uj x0 x1 x2
      go_wp2_with fail
      obtain ⟨x, rfl, hx, hcc⟩ := HC.out (m + j) (by omega)
      have hbw : Below w.heap.size w w1 := below_then BB.out (Nat.le_refl _) r1
      have c1 : w1.cell? (x.add (m + j)) = some (.int .i64 (f (m + j))) := (hbw.cell (p := x.add (m + j)) (by rw [add_block]; exact hx)).trans hcc
      obtain ⟨t1, t2⟩ := HZ.out (m + j) (by omega)
      obtain ⟨p1, p2⟩ := chip_bd t1 t2 (HPL.out j)
      obtain ⟨e1, e2⟩ := HBD.out j (by omega)
      have hst : scT (cutF m f) c G P k (j + 1) = scT (cutF m f) c G P k j + f (m + j) * plF c G P k j := HST.out j
      have hch := fun w => HCP.out j w (by omega)
      have hw : x.block < w1.heap.size := Nat.lt_of_lt_of_le hx hbw.size
      obtain ⟨S, hS⟩ : ∃ S, scT (cutF m f) c G P k j = S := ⟨_, rfl⟩
      rw [hS] at e1 e2 hst ⊢
      obtain ⟨y, hy⟩ : ∃ y, f (m + j) = y := ⟨_, rfl⟩
      rw [hy] at c1 t1 t2 p1 p2 hst
      obtain ⟨C, hC⟩ : ∃ C, plF c G P k j = C := ⟨_, rfl⟩
      rw [hC] at p1 p2 hst hch
      obtain ⟨Y, hY⟩ : ∃ Y, y * C = Y := ⟨_, rfl⟩
      rw [hY] at p1 p2 hst
      have HS := Lib.hid hst
      have HCH := Lib.hid hch
      obtain ⟨A, hA⟩ : ∃ A, m + j = A := ⟨_, rfl⟩
      rw [hA] at c1
      have a1 : (0 : Int) ≤ (A : Int) := by omega
      have a2 : (A : Int) < (n : Int) := by omega
      have v0 : IntKind.i64.wrap ((m : Int) + (j : Int)) = (A : Int) := by rw [← hA, Int.natCast_add]; exact IntWalk.i64_in _ (by omega)
      have v1 : IntKind.i64.wrap (y * C) = Y := by rw [hY]; exact IntWalk.i64_in _ (by omega)
      have v2 : IntKind.i64.wrap (S + Y) = S + Y := IntWalk.i64_in _ (by omega)
      obtain ⟨x0, x1, x2⟩ := id u1
      have r0 := Below.refl w1.heap.size w1
      clear hst hch hS hy hC hY hA t1 t2 p1 p2 e1 e2 hx hcc hbw i1 i2
      go_region_held3 (fun wx => Below w1.heap.size w1 wx ∧ wx.cell? ⟨B, 0, none⟩ = some (.string c) ∧ wx.cell? ⟨B, 1, none⟩ = some (.int .i64 (G : Int)) ∧ wx.cell? (x.add A) = some (.int .i64 y)) (first | exact ⟨k1, y1.1, y1.2.1, z1⟩ | exact ⟨r0.drew, x0, x1, c1⟩) (first
        | (go_at_call 50; refine (HCH.out _).mono ?_; rintro e w5 ⟨rfl, hB⟩; have k1 := below_then r0.drew (Nat.le_refl _) hB; have y1 := u1.below k1 x2; have z1 := (k1.cell (p := x.add A) (by rw [add_block]; exact hw)).trans c1; clear hB))
      have r5 := below_then r1 (Nat.le_refl _) k1
      clear r0 u1 x0 x1 x2 k1 y1 z1 c1 v0 v1 v2 hw r1
      go_wp2
      go_roundw
      case rel => exact ⟨j + 1, by omega, by go_num, by rw [HS.out], r5⟩
      case measure => simp [intOf]; omega
    · obtain rfl : j = L := by omega
      by_cases hjP : j < P
      · have i1 : (j : Int) < (P : Int) := by omega
        have i2 : ¬ ((m : Int) + (j : Int) < (n : Int)) := fun hh => absurd (HLL.out j hjP (by omega)) (Nat.lt_irrefl j)
        go_wp2_with fail
        refine (HL.out _).mono ?_
        rintro e w1 ⟨rfl, n1⟩
        have r1 := below_then rb (Nat.le_refl _) n1
        clear n1 rb uj x0 x1 x2
        go_wp2
        go_ret
        exact ⟨ret_int HSR.out.symm, below_then BB.out (Nat.le_refl _) r1⟩
      · have i1 : ¬ ((j : Int) < (P : Int)) := by omega
        go_wp2_with fail
        refine (HL.out _).mono ?_
        rintro e w1 ⟨rfl, n1⟩
        have r1 := below_then rb (Nat.le_refl _) n1
        clear n1 rb uj x0 x1 x2
        go_wp2
        go_ret
        exact ⟨ret_int HSR.out.symm, below_then BB.out (Nat.le_refl _) r1⟩
end Go.Proofs.Ytagdfohjhokgiaa
