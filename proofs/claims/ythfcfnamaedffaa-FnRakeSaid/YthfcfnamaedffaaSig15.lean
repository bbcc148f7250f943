/- MarginOf of both sides. -/
import Derived.Test.YthfcfnamaedffaaSig9
namespace Go.Proofs.Ythfcfnamaedffaa
open Go.RowKit
set_option linter.unusedVariables false
set_option maxRecDepth 100000
theorem str_some {z : ByteArray} (h : 0 < z.size) : z.toList.isEmpty = false := by
  rw [ByteArray.toList_eq]
  have h' : 0 < z.data.toList.length := h
  cases e : z.data.toList with
  | nil => rw [e] at h'; exact absurd h' (by decide)
  | cons a l => rfl
/-- The least of the first k numbers (0 of none). -/
def mnI (f : Nat → Int) : Nat → Int
  | 0 => 0
  | 1 => f 0
  | k + 2 => min (mnI f (k + 1)) (f (k + 1))
theorem mnI_one (f : Nat → Int) : mnI f 1 = f 0 := rfl
theorem mnI_succ (f : Nat → Int) (k : Nat) (h : 0 < k) : mnI f (k + 1) = min (mnI f k) (f k) := by
  obtain ⟨q, rfl⟩ : ∃ q, k = q + 1 := ⟨k - 1, by omega⟩
  rfl
theorem mnI_congr {f g : Nat → Int} : ∀ n, (∀ i, i < n → f i = g i) → mnI f n = mnI g n
  | 0, _ => rfl
  | 1, h => h 0 (by omega)
  | k + 2, h => by
    rw [mnI_succ f (k + 1) (by omega), mnI_succ g (k + 1) (by omega), mnI_congr (k + 1) (fun i hi => h i (by omega)), h (k + 1) (by omega)]
set_option maxRecDepth 100000 in
theorem smin_any (v : Value) (n : Nat) (z : Nat → Int) (w : World) (h : IntsR w v n z) (h1 : 1 ≤ n) (hn : n ≤ 1048576) :
    Calls Try.prog 91 #[v] w fun e w' => e = .returned (.int .i64 (mnI z n)) ∧ w = w' := by
  obtain ⟨a, cap, rfl, hc⟩ := h
  obtain ⟨x0, rfl, hx0, hc0⟩ := hc 0 (by omega)
  have HC : Hid (∀ i, i < n → w.cell? (x0.add i) = some (.int .i64 (z i))) := Lib.hid (fun i hi => by
    obtain ⟨x', e, -, h2⟩ := hc i hi
    injection e with e
    subst e
    exact h2)
  have e0 : x0.add 0 = x0 := by unfold Addr.add; rfl
  have hc1 : w.cell? x0 = some (.int .i64 (z 0)) := by rw [← e0]; exact hc0
  have l1 : ¬ ((n : Int) < 1) := by omega
  have i0 : (0 : Int) < (n : Int) := by omega
  have n0 : 0 < n := by omega
  clear hc hx0
  have M1 := Lib.hid (mnI_one z)
  go_enter Try.func91, Try.ntmps91
  go_wp2
  clear hc0 hc1
  go_loop [3, 4] (fun s t => ∃ k : Nat, 1 ≤ k ∧ k ≤ n ∧ t = .int .i64 k ∧ s = .int .i64 (mnI z k)) (fun _ t => n - (intOf t).toNat)
  case atStart => exact ⟨1, by omega, by omega, by simp, by rw [M1.out]⟩
  case round =>
    obtain ⟨k, hk1, hk, rfl, rfl⟩ := hrel
    by_cases hlt : k < n
    · have c1 := HC.out k hlt
      have hsu := mnI_succ z k (by omega)
      obtain ⟨S, hS⟩ : ∃ S, mnI z k = S := ⟨_, rfl⟩
      rw [hS] at hsu ⊢
      obtain ⟨y, hy⟩ : ∃ y, z k = y := ⟨_, rfl⟩
      rw [hy] at hsu c1
      have j0 : (0 : Int) ≤ (k : Int) := by omega
      have j1 : (k : Int) < (n : Int) := by omega
      clear hS hy
      by_cases hm : y < S
      · have e2 : min S y = y := by omega
        have HR : Hid (mnI z (k + 1) = y) := Lib.hid (hsu.trans e2)
        clear e2 hsu
        go_wp2
        go_round
        case rel => exact ⟨k + 1, by omega, by omega, by go_num, by rw [HR.out]⟩
        case measure => simp [intOf]; omega
      · have e2 : min S y = S := by omega
        have HR : Hid (mnI z (k + 1) = S) := Lib.hid (hsu.trans e2)
        clear e2 hsu
        go_wp2
        go_round
        case rel => exact ⟨k + 1, by omega, by omega, by go_num, by rw [HR.out]⟩
        case measure => simp [intOf]; omega
    · obtain rfl : k = n := by omega
      go_wp2
      go_ret
      exact ⟨rfl, rfl⟩
/-- The margins of data. -/
def mgF (n : Nat) (f : Nat → Int) (q : ByteArray) (d : Nat) (p : ByteArray) (i : Nat) : Int := coL n f q d i * chF p i
def mgOK (n : Nat) (f : Nat → Int) (q : ByteArray) (d : Int) (p : ByteArray) : Bool := bitsB p && (decide (0 < p.size) && rcB n f q d p.size)
def mgAns (n : Nat) (f : Nat → Int) (q : ByteArray) (d : Int) (p : ByteArray) : Int × Bool := if mgOK n f q d p then (mnI (mgF n f q d.toNat p) p.size, true) else noI
theorem mg_no {n : Nat} {f : Nat → Int} {q : ByteArray} {d : Int} {p : ByteArray} (h : ¬ (bitsB p = true ∧ 0 < p.size ∧ rcB n f q d p.size = true)) : mgAns n f q d p = noI := by
  unfold mgAns mgOK
  rw [if_neg]
  intro e
  simp only [Bool.and_eq_true, decide_eq_true_eq] at e
  exact h e
theorem mg_yes {n : Nat} {f : Nat → Int} {q : ByteArray} {d : Nat} {p : ByteArray} (h1 : bitsB p = true) (h2 : 0 < p.size) (h3 : rcB n f q d p.size = true) : mgAns n f q d p = (mnI (mgF n f q d p) p.size, true) := by
  unfold mgAns mgOK
  rw [h1, h3, decide_eq_true h2]
  rfl
theorem coL_bd {n : Nat} {f : Nat → Int} {q : ByteArray} (hs : sigB n f = true) (hq : seqB q = true) (d i : Nat) : -300000000 ≤ coL n f q d i ∧ coL n f q d i ≤ 300000000 := by
  obtain ⟨hA, h3⟩ := (sigB_iff _ _).1 hs
  obtain ⟨q0, q1, q2⟩ := (seqB_iff q).1 hq
  unfold coL coF
  by_cases h : n - (d + i * q.size) = 0
  · rw [h, Nat.min_zero]
    simp [coR, sumI]
  · have := coR_bd hA q0 (d + i * q.size) (min q.size (n - (d + i * q.size))) (by omega) (by omega)
    have h5 : ((min q.size (n - (d + i * q.size)) : Nat) : Int) ≤ 255 := by omega
    omega
theorem mg_prod {x c : Int} (h1 : -300000000 ≤ x) (h2 : x ≤ 300000000) (hc : c = 1 ∨ c = -1) : -300000000 ≤ x * c ∧ x * c ≤ 300000000 := by
  rcases hc with rfl | rfl
  · rw [Int.mul_one]; exact ⟨h1, h2⟩
  · rw [Int.mul_neg, Int.mul_one]; omega
set_option maxHeartbeats 1600000 in
set_option maxRecDepth 100000 in
theorem iMarg_yes (v : Value) (n : Nat) (z : Nat → Int) (q : ByteArray) (d : Nat) (p : ByteArray) (w : World) (h : IntsC w v n z) (h1 : bitsB p = true) (h2 : 0 < p.size) (h3 : rcB n z q d p.size = true) :
    Calls Try.prog 28 #[v, .string q, .int .i64 (d : Int), .string p] w fun e w' => e = .returned (.tuple #[.int .i64 (mnI (mgF n z q d p) p.size), .bool true]) ∧ Below w.heap.size w w' := by
  obtain ⟨p1, p2⟩ := (bits_iff p).1 h1
  obtain ⟨r1, r2, r3, r4⟩ := (rcB_iff _ _ _ _ _).1 h3
  have n3 := ((sigB_iff _ _).1 r1).2
  have q2 := ((seqB_iff q).1 r2).2.2
  have hb := fun w => bitsValid_any p w (by omega)
  rw [h1] at hb
  have hr := fun w h => iRecep_any v n z q (d : Int) (p.size : Int) w h (by omega) (by omega)
  rw [h3] at hr
  have HB := Lib.hid hb
  have HR := Lib.hid hr
  have HH := Lib.hid h.ints
  have HV := Lib.hid h
  have HC := Lib.hid (fun w h => iCorr_any v n z q d p.size w h r1 r2 (by omega) (by omega))
  have HCP := Lib.hid (fun w => iChips_yes p w p1 (by omega))
  have HMN := Lib.hid (fun u w h => smin_any u p.size (mgF n z q d p) w h (by omega) (by omega))
  have HBD := Lib.hid (fun i => coL_bd r1 r2 d i)
  have HXP := Lib.hid (fun k (h : k < p.size) => chF_bd p1 h)
  have HMG : Hid (∀ i, mgF n z q d p i = coL n z q d i * chF p i) := Lib.hid (fun i => rfl)
  have n0 : ((p.size : Int) == 0) = false := by rw [beq_eq_false_iff_ne]; omega
  clear hb hr h h1 h3 r1 r2 p1
  obtain ⟨D, hD⟩ : ∃ D, p.size = D := ⟨_, rfl⟩
  rw [hD] at HR HC HCP HMN HXP n0 h2 p2 r4 ⊢
  go_enter Try.func28, Try.ntmps28
  go_wp2_with fail
  refine (HB.out _).mono ?_
  rintro e w' ⟨rfl, rfl⟩
  go_wp2_with fail
  refine (HR.out _ HH.out).mono ?_
  rintro e w' ⟨rfl, rfl⟩
  go_wp2_with fail
  refine (HC.out _ HV.out).mono ?_
  rintro e w1 ⟨vm, rfl, OM, b1⟩
  obtain ⟨am, capm, rfl, hom⟩ := OM.form
  obtain ⟨g, rfl, hBg, hg, -⟩ := hom h2
  go_wp2_with fail
  refine (HCP.out _).mono ?_
  rintro e w2 ⟨vd, rfl, OD, b2⟩
  obtain ⟨ad, capd, rfl, hod⟩ := OD.form
  obtain ⟨gd, rfl, hgd, _, hdc⟩ := hod h2
  have HDC := Lib.hid (fun k hk => (hdc k hk).1)
  have HNE : Hid (gd ≠ g) := Lib.hid (by omega)
  have O2 := Lib.hid ((OM.below b2).congr (g := fun j => if j < 0 then mgF n z q d p j else coL n z q d j) (fun j _ => by simp))
  have B2 := Lib.hid (below_then b1 (Nat.le_refl _) b2)
  have HBG := Lib.hid hBg
  clear OM OD b1 b2 hom hod hdc hBg hg hgd
  go_wp2
  go_loopw [39] (fun t wr => ∃ i : Nat, i ≤ D ∧ t = .int .i64 i ∧ OF wr w.heap.size (.slice (some ⟨g, 0, none⟩) D capm) D (fun j => if j < i then mgF n z q d p j else coL n z q d j) ∧ w2.grownBy wr (some g)) (fun t _ => D - (intOf t).toNat)
  case atStart => exact ⟨0, by omega, rfl, O2.out, ⟨rfl, rfl, rfl, Nat.le_refl _, fun _ _ _ => rfl⟩⟩
  case round =>
    obtain ⟨i, hi, rfl, rO, rg⟩ := hrel
    by_cases hlt : i < D
    · have c1 := rg.cell (HDC.out i hlt) (by intro e; injection e with e; exact HNE.out e)
      obtain ⟨s1, s2⟩ := rO.at i hlt
      rw [if_neg (Nat.lt_irrefl i)] at s1
      have hmg := HMG.out i
      obtain ⟨e1, e2⟩ := HBD.out i
      obtain ⟨p1, p3⟩ := mg_prod e1 e2 (HXP.out i hlt)
      obtain ⟨S, hS⟩ : ∃ S, coL n z q d i = S := ⟨_, rfl⟩
      rw [hS] at s1 hmg p1 p3
      obtain ⟨C, hC⟩ : ∃ C, chF p i = C := ⟨_, rfl⟩
      rw [hC] at c1 hmg p1 p3
      obtain ⟨P, hP⟩ : ∃ P, S * C = P := ⟨_, rfl⟩
      rw [hP] at hmg p1 p3
      have i0 : (0 : Int) ≤ (i : Int) := by omega
      have i1 : (i : Int) < (D : Int) := by omega
      have nO : Hid (OF (wr.setCell ⟨g, i, none⟩ (.int .i64 P)) w.heap.size (.slice (some ⟨g, 0, none⟩) D capm) D (fun j => if j < i + 1 then mgF n z q d p j else coL n z q d j)) :=
        Lib.hid (rO.set i P hlt (fun j hj => by
          by_cases e : j = i
          · subst e; rw [if_pos (by omega), if_pos rfl]; exact hmg
          · rw [if_neg e]
            by_cases e' : j < i
            · rw [if_pos (by omega), if_pos e']
            · rw [if_neg (by omega), if_neg e']))
      have ng : Hid (w2.grownBy (wr.setCell ⟨g, i, none⟩ (.int .i64 P)) (some g)) := Lib.hid (rg.trans ⟨rfl, rfl, rfl, by simp, fun k hk hne => Below.heap_setCell _ _ _ _ (fun e => hne (by rw [e]))⟩)
      clear rO rg hS hC e1 e2 hmg
      go_wp2
      go_roundw
      case rel => exact ⟨i + 1, by omega, by go_num, nO.out, ng.out⟩
      case measure => simp [intOf]; omega
    · obtain rfl : i = D := by omega
      have nO := rO.congr (g := mgF n z q d p) (fun j hj => by rw [if_pos hj])
      have hM := HMN.out (.slice (some ⟨g, 0, none⟩) i capm) wr nO.ints
      have HM := Lib.hid hM
      have b3 : Below w.heap.size w wr := B2.out.grown rg B2.out.size (fun k hk => by injection hk with hk; rw [← hk]; exact HBG.out)
      clear rO rg nO hM
      go_wp2_with fail
      refine (HM.out).mono ?_
      rintro e w' ⟨rfl, rfl⟩
      go_wp2
      go_ret2
      exact ⟨rfl, b3⟩
set_option maxRecDepth 100000 in
theorem iMarg_any (v : Value) (n : Nat) (z : Nat → Int) (q : ByteArray) (d : Int) (p : ByteArray) (w : World) (h : IntsC w v n z) (hn : n ≤ 1048576) (hq : q.size ≤ 1048576) (hp : p.size ≤ 1048576) :
    Calls Try.prog 28 #[v, .string q, .int .i64 d, .string p] w fun e w' => e = .returned (.tuple #[.int .i64 (mgAns n z q d p).1, .bool (mgAns n z q d p).2]) ∧ Below w.heap.size w w' := by
  have hb := fun w => bitsValid_any p w (by omega)
  have hr := fun w h => iRecep_any v n z q d (p.size : Int) w h hn hq
  have HH := Lib.hid h.ints
  cases h1 : bitsB p with
  | false =>
    rw [mg_no (by rw [h1]; simp)]
    rw [h1] at hb
    have HB := Lib.hid hb
    clear hb hr h1 h
    go_enter Try.func28, Try.ntmps28
    go_wp2_with fail
    refine (HB.out _).mono ?_
    rintro e w' ⟨rfl, rfl⟩
    go_wp2
    go_ret2
    exact ⟨rfl, Below.refl _ _⟩
  | true =>
    by_cases h2 : 0 < p.size
    · cases h3 : rcB n z q d p.size with
      | true =>
        obtain ⟨r1, r2, r3, r4⟩ := (rcB_iff _ _ _ _ _).1 h3
        obtain ⟨s, rfl⟩ : ∃ s : Nat, d = s := ⟨d.toNat, by omega⟩
        rw [mg_yes h1 h2 h3]
        exact iMarg_yes v n z q s p w h h1 h2 h3
      | false =>
        rw [mg_no (by rw [h3]; simp)]
        rw [h1] at hb
        rw [h3] at hr
        have HB := Lib.hid hb
        have HR := Lib.hid hr
        have n0 : ((p.size : Int) == 0) = false := by rw [beq_eq_false_iff_ne]; omega
        clear hb hr h1 h3 h
        go_enter Try.func28, Try.ntmps28
        go_wp2_with fail
        refine (HB.out _).mono ?_
        rintro e w' ⟨rfl, rfl⟩
        go_wp2_with fail
        refine (HR.out _ HH.out).mono ?_
        rintro e w' ⟨rfl, rfl⟩
        go_wp2
        go_ret2
        exact ⟨rfl, Below.refl _ _⟩
    · rw [mg_no (by omega)]
      rw [h1] at hb
      have HB := Lib.hid hb
      have n0 : ((p.size : Int) == 0) = true := by rw [beq_iff_eq]; omega
      clear hb hr h1 h
      go_enter Try.func28, Try.ntmps28
      go_wp2_with fail
      refine (HB.out _).mono ?_
      rintro e w' ⟨rfl, rfl⟩
      go_wp2
      go_ret2
      exact ⟨rfl, Below.refl _ _⟩
set_option maxHeartbeats 1600000 in
set_option maxRecDepth 100000 in
theorem sMarg_yes (v : Value) (n : Nat) (z : Nat → Int) (q : ByteArray) (d : Nat) (p : ByteArray) (w : World) (h : IntsR w v n z) (h1 : bitsB p = true) (h2 : 0 < p.size) (h3 : rcB n z q d p.size = true) :
    Calls Try.prog 37 #[v, .string q, .int .i64 (d : Int), .string p] w fun e w' => e = .returned (.tuple #[.int .i64 (mnI (mgF n z q d p) p.size), .bool true]) ∧ Below w.heap.size w w' := by
  obtain ⟨p1, p2⟩ := (bits_iff p).1 h1
  obtain ⟨r1, r2, r3, r4⟩ := (rcB_iff _ _ _ _ _).1 h3
  have n3 := ((sigB_iff _ _).1 r1).2
  have q2 := ((seqB_iff q).1 r2).2.2
  have hb := fun w => l1Bits_any p w (by omega)
  rw [h1] at hb
  have hr := fun w h => sRecep_any v n z q (d : Int) (p.size : Int) w h (by omega) (by omega)
  rw [h3] at hr
  have HB := Lib.hid hb
  have HR := Lib.hid hr
  have HH := Lib.hid h
  have HC := Lib.hid (fun w h => l4Despread_any v n z q d p.size w h r1 r2 (by omega) (by omega))
  have HBD := Lib.hid (fun i => coL_bd r1 r2 d i)
  have HXP := Lib.hid (fun k (h : k < p.size) => chF_bd p1 h)
  have HOK := Lib.hid (okB_zb p p1)
  have HMG : Hid (∀ i, mgF n z q d p i = coL n z q d i * chF p i) := Lib.hid (fun i => rfl)
  have ht := str_some h2
  have M1 := Lib.hid (fun k (h : 0 < k) => mnI_succ (mgF n z q d p) k h)
  have M0 := Lib.hid (mnI_one (mgF n z q d p))
  clear hb hr h h1 h3 r1 r2 p1
  go_enter Try.func37, Try.ntmps37
  go_wp2_with fail
  refine (HB.out _).mono ?_
  rintro e w' ⟨rfl, rfl⟩
  go_wp2_with fail
  refine (HR.out _ HH.out).mono ?_
  rintro e w' ⟨rfl, rfl⟩
  go_wp2_with fail
  refine (HC.out _ HH.out).mono ?_
  rintro e w1 ⟨vm, rfl, OM, b1⟩
  obtain ⟨am, capm, rfl, hom⟩ := OM.form
  obtain ⟨g, rfl, -, -, hcc⟩ := hom h2
  have HCC := Lib.hid (fun k hk => (hcc k hk).1)
  have B1 := Lib.hid b1
  clear OM hom hcc b1 ht
  go_wp2
  go_loopw [11, 12] (fun s t wr => ∃ i m : Nat, i ≤ p.size ∧ t = .int .i64 i ∧ s = .int .i64 (mnI (mgF n z q d p) i) ∧ wr = w1.drewN m) (fun _ t _ => p.size - (intOf t).toNat)
  case atStart => exact ⟨0, 0, by omega, rfl, rfl, rfl⟩
  case round =>
    obtain ⟨i, m, hi, rfl, rfl, rfl⟩ := hrel
    by_cases hlt : i < p.size
    · have c1 : (w1.drewN m).cell? ⟨g, i, none⟩ = some (.int .i64 (coL n z q d i)) := HCC.out i hlt
      have hmg := HMG.out i
      obtain ⟨e1, e2⟩ := HBD.out i
      obtain ⟨x1, x2⟩ := mg_prod e1 e2 (HXP.out i hlt)
      obtain ⟨b, hb, hbe⟩ := isBit _ (HOK.out i hlt)
      have hch := chF_of hbe
      have hzb := zb_at p i hlt
      rw [hbe] at hzb
      obtain ⟨y, hy⟩ : ∃ y, coL n z q d i = y := ⟨_, rfl⟩
      rw [hy] at c1 hmg e1 e2 x1 x2
      obtain ⟨C, hC⟩ : ∃ C, chF p i = C := ⟨_, rfl⟩
      rw [hC] at hmg x1 x2 hch
      obtain ⟨P, hP⟩ : ∃ P, y * C = P := ⟨_, rfl⟩
      rw [hP] at hmg x1 x2
      obtain ⟨B2, hB2⟩ : ∃ B2 : Int, 2 * (b : Int) = B2 := ⟨_, rfl⟩
      rw [hB2] at hch
      have u0 : IntKind.i64.wrap ((p[i].toNat : Nat) : Int) = ((p[i].toNat : Nat) : Int) := IntWalk.i64_in _ (by omega)
      have u1 : IntKind.i64.wrap (((p[i].toNat : Nat) : Int) - 48) = (b : Int) := by rw [hzb]; rw [show ((48 + b : Nat) : Int) - 48 = (b : Int) by omega]; exact IntWalk.i64_in _ (by omega)
      have u2 : IntKind.i64.wrap (2 * (b : Int)) = B2 := by rw [hB2]; exact IntWalk.i64_in _ (by omega)
      have u3 : IntKind.i64.wrap (1 - B2) = C := by rw [← hch]; exact IntWalk.i64_in _ (by omega)
      have u4 : IntKind.i64.wrap (y * C) = P := by rw [hP]; exact IntWalk.i64_in _ (by omega)
      have j0 : (0 : Int) ≤ (i : Int) := by omega
      have j1 : (i : Int) < (p.size : Int) := by omega
      obtain ⟨W, hW⟩ : ∃ W, w1.drewN m = W := ⟨_, rfl⟩
      rw [hW] at c1 ⊢
      have HW := Lib.hid hW
      have U := Lib.hid (And.intro u0 (And.intro u1 (And.intro u2 (And.intro u3 u4))))
      by_cases hz : i = 0
      · subst hz
        have HR2 : Hid (mnI (mgF n z q d p) (0 + 1) = P) := Lib.hid (M0.out.trans hmg)
        have z0 : (((0 : Nat) : Int) == 0) = true := rfl
        clear u0 u1 u2 u3 u4 hW hP hC hy hch hzb hbe hB2 e1 e2 hmg
        go_wp2_with fail
        obtain ⟨u0, u1, u2, u3, u4⟩ := U.out
        go_quiet (fail)
        clear u0 u1 u2 u3 u4 c1
        go_wp2
        go_roundw
        case rel => exact ⟨1, m + nq, by omega, by go_num, by rw [HR2.out], by rw [← HW.out, World.drewN_drewN]⟩
        case measure => simp [intOf]; omega
      · have hsu := M1.out i (by omega)
        rw [hmg] at hsu
        obtain ⟨S, hS⟩ : ∃ S, mnI (mgF n z q d p) i = S := ⟨_, rfl⟩
        rw [hS] at hsu ⊢
        have z0 : ((i : Int) == 0) = false := by simp; omega
        by_cases hm : P < S
        · have HR2 : Hid (mnI (mgF n z q d p) (i + 1) = P) := Lib.hid (hsu.trans (by omega))
          clear u0 u1 u2 u3 u4 hW hP hC hy hch hzb hbe hB2 e1 e2 hmg hS hsu
          go_wp2_with fail
          obtain ⟨u0, u1, u2, u3, u4⟩ := U.out
          go_quiet (fail)
          clear u0 u1 u2 u3 u4 c1
          go_wp2
          go_roundw
          case rel => exact ⟨i + 1, m + nq, by omega, by go_num, by rw [HR2.out], by rw [← HW.out, World.drewN_drewN]⟩
          case measure => simp [intOf]; omega
        · have HR2 : Hid (mnI (mgF n z q d p) (i + 1) = S) := Lib.hid (hsu.trans (by omega))
          clear u0 u1 u2 u3 u4 hW hP hC hy hch hzb hbe hB2 e1 e2 hmg hS hsu
          go_wp2_with fail
          obtain ⟨u0, u1, u2, u3, u4⟩ := U.out
          go_quiet (fail)
          clear u0 u1 u2 u3 u4 c1
          go_wp2
          go_roundw
          case rel => exact ⟨i + 1, m + nq, by omega, by go_num, by rw [HR2.out], by rw [← HW.out, World.drewN_drewN]⟩
          case measure => simp [intOf]; omega
    · obtain rfl : i = p.size := by omega
      go_wp2
      go_ret2
      exact ⟨rfl, below_drewN B1.out m⟩
set_option maxRecDepth 100000 in
theorem sMarg_any (v : Value) (n : Nat) (z : Nat → Int) (q : ByteArray) (d : Int) (p : ByteArray) (w : World) (h : IntsR w v n z) (hn : n ≤ 1048576) (hq : q.size ≤ 1048576) (hp : p.size ≤ 1048576) :
    Calls Try.prog 37 #[v, .string q, .int .i64 d, .string p] w fun e w' => e = .returned (.tuple #[.int .i64 (mgAns n z q d p).1, .bool (mgAns n z q d p).2]) ∧ Below w.heap.size w w' := by
  have hb := fun w => l1Bits_any p w (by omega)
  have hr := fun w h => sRecep_any v n z q d (p.size : Int) w h hn hq
  have HH := Lib.hid h
  cases h1 : bitsB p with
  | false =>
    rw [mg_no (by rw [h1]; simp)]
    rw [h1] at hb
    have HB := Lib.hid hb
    clear hb hr h1 h
    go_enter Try.func37, Try.ntmps37
    go_wp2_with fail
    refine (HB.out _).mono ?_
    rintro e w' ⟨rfl, rfl⟩
    go_wp2
    go_ret2
    exact ⟨rfl, Below.refl _ _⟩
  | true =>
    cases h3 : rcB n z q d p.size with
    | false =>
      rw [mg_no (by rw [h3]; simp)]
      rw [h1] at hb
      rw [h3] at hr
      have HB := Lib.hid hb
      have HR := Lib.hid hr
      clear hb hr h1 h3 h
      go_enter Try.func37, Try.ntmps37
      go_wp2_with fail
      refine (HB.out _).mono ?_
      rintro e w' ⟨rfl, rfl⟩
      go_wp2_with fail
      refine (HR.out _ HH.out).mono ?_
      rintro e w' ⟨rfl, rfl⟩
      go_wp2
      go_ret2
      exact ⟨rfl, Below.refl _ _⟩
    | true =>
      by_cases h2 : 0 < p.size
      · obtain ⟨r1, r2, r3, r4⟩ := (rcB_iff _ _ _ _ _).1 h3
        obtain ⟨s, rfl⟩ : ∃ s : Nat, d = s := ⟨d.toNat, by omega⟩
        rw [mg_yes h1 h2 h3]
        exact sMarg_yes v n z q s p w h h1 h2 h3
      · rw [mg_no (by omega)]
        rw [h1] at hb
        rw [h3] at hr
        have he : p = ⟨#[]⟩ := ba_ext (by show p.size = 0; omega) (fun i hi => absurd hi (by omega))
        subst he
        have HB := Lib.hid hb
        have HR := Lib.hid hr
        clear hb hr h1 h3 h
        go_enter Try.func37, Try.ntmps37
        go_wp2_with fail
        refine (HB.out _).mono ?_
        rintro e w' ⟨rfl, rfl⟩
        go_wp2_with fail
        refine (HR.out _ HH.out).mono ?_
        rintro e w' ⟨rfl, rfl⟩
        go_wp2
        go_ret2
        exact ⟨rfl, Below.refl _ _⟩
end Go.Proofs.Ythfcfnamaedffaa
