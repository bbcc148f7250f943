/- The laws' helpers on slices of users. -/
import Derived.Test.YtlcnlhephhbhcaaUsrs
import Derived.Test.YtlcnlhephhbhcaaStrs2
namespace Go.Proofs.Ytlcnlhephhbhcaa
open Go.RowKit
set_option linter.unusedVariables false
set_option maxRecDepth 100000
theorem UF.set {w : World} {B g cap n : Nat} {f : Nat → Usr} (h : UF w B (.slice (some ⟨g, 0, none⟩) n cap) n f) (p : Nat) (y : Value) (f' : Nat → Usr)
    (e : ∀ t, t < n * 4 → (f' (t / 4)).at (t % 4) = if t = p then y else (f (t / 4)).at (t % 4)) : UF (w.setCell ⟨g, p, none⟩ y) B (.slice (some ⟨g, 0, none⟩) n cap) n f' := by
  have := (World.ownsRow.stored h p y).1
  rw [usrL_set e] at this
  exact this
theorem at0 (c d : ByteArray) (g e : Int) : (Usr.mk c d g e).at 0 = .string c := rfl
theorem at1 (c d : ByteArray) (g e : Int) : (Usr.mk c d g e).at 1 = .string d := rfl
theorem at2 (c d : ByteArray) (g e : Int) : (Usr.mk c d g e).at 2 = .int .i64 g := rfl
theorem at3 (c d : ByteArray) (g e : Int) : (Usr.mk c d g e).at 3 = .int .i64 e := rfl
theorem upd_at {f f' : Nat → Usr} {k j : Nat} {y : Value} (hj : j < 4) (h1 : ∀ i, i ≠ k → f' i = f i) (h2 : (f' k).at j = y) (h3 : ∀ t, t < 4 → t ≠ j → (f' k).at t = (f k).at t) (t : Nat) :
    (f' (t / 4)).at (t % 4) = if t = k * 4 + j then y else (f (t / 4)).at (t % 4) := by
  by_cases e : t / 4 = k
  · by_cases e2 : t % 4 = j
    · rw [if_pos (by omega), e, e2]; exact h2
    · rw [if_neg (by omega), e]; exact h3 _ (by omega) e2
  · rw [if_neg (by omega), h1 _ e]
/-- Element k in place of what was there. -/
def upU (f : Nat → Usr) (k : Nat) (u : Usr) (i : Nat) : Usr := if i = k then u else f i
theorem upU_ne {f : Nat → Usr} {k i : Nat} {u : Usr} (h : i ≠ k) : upU f k u i = f i := if_neg h
theorem upU_eq (f : Nat → Usr) (k : Nat) (u : Usr) : upU f k u k = u := if_pos rfl
theorem upU_up (f : Nat → Usr) (k : Nat) (u v : Usr) : upU (upU f k u) k v = upU f k v := by funext i; unfold upU; split <;> rfl
theorem UF.set0 {w : World} {B g cap n : Nat} {f : Nat → Usr} (h : UF w B (.slice (some ⟨g, 0, none⟩) n cap) n f) (k : Nat) (y : ByteArray) : UF (w.setCell ⟨g, k * 4, none⟩ (.string y)) B (.slice (some ⟨g, 0, none⟩) n cap) n (upU f k ⟨y, (f k).data, (f k).gain, (f k).delay⟩) :=
  h.set (k * 4) _ _ (fun t _ => by
    have := upd_at (f := f) (f' := upU f k ⟨y, (f k).data, (f k).gain, (f k).delay⟩) (k := k) (j := 0) (y := .string y) (by omega) (fun i hi => upU_ne hi) (by rw [upU_eq]; rfl) (fun t h1 h2 => by
      rw [upU_eq]
      have : t = 1 ∨ t = 2 ∨ t = 3 := by omega
      rcases this with rfl | rfl | rfl <;> rfl) t
    simpa using this)
theorem UF.set1 {w : World} {B g cap n : Nat} {f : Nat → Usr} (h : UF w B (.slice (some ⟨g, 0, none⟩) n cap) n f) (k : Nat) (y : ByteArray) : UF (w.setCell ⟨g, k * 4 + 1, none⟩ (.string y)) B (.slice (some ⟨g, 0, none⟩) n cap) n (upU f k ⟨(f k).code, y, (f k).gain, (f k).delay⟩) :=
  h.set (k * 4 + 1) _ _ (fun t _ => upd_at (k := k) (j := 1) (by omega) (fun i hi => upU_ne hi) (by rw [upU_eq]; rfl) (fun t h1 h2 => by
      rw [upU_eq]
      have : t = 0 ∨ t = 2 ∨ t = 3 := by omega
      rcases this with rfl | rfl | rfl <;> rfl) t)
theorem UF.set2 {w : World} {B g cap n : Nat} {f : Nat → Usr} (h : UF w B (.slice (some ⟨g, 0, none⟩) n cap) n f) (k : Nat) (y : Int) : UF (w.setCell ⟨g, k * 4 + 2, none⟩ (.int .i64 y)) B (.slice (some ⟨g, 0, none⟩) n cap) n (upU f k ⟨(f k).code, (f k).data, y, (f k).delay⟩) :=
  h.set (k * 4 + 2) _ _ (fun t _ => upd_at (k := k) (j := 2) (by omega) (fun i hi => upU_ne hi) (by rw [upU_eq]; rfl) (fun t h1 h2 => by
      rw [upU_eq]
      have : t = 0 ∨ t = 1 ∨ t = 3 := by omega
      rcases this with rfl | rfl | rfl <;> rfl) t)
theorem UF.set3 {w : World} {B g cap n : Nat} {f : Nat → Usr} (h : UF w B (.slice (some ⟨g, 0, none⟩) n cap) n f) (k : Nat) (y : Int) : UF (w.setCell ⟨g, k * 4 + 3, none⟩ (.int .i64 y)) B (.slice (some ⟨g, 0, none⟩) n cap) n (upU f k ⟨(f k).code, (f k).data, (f k).gain, y⟩) :=
  h.set (k * 4 + 3) _ _ (fun t _ => upd_at (k := k) (j := 3) (by omega) (fun i hi => upU_ne hi) (by rw [upU_eq]; rfl) (fun t h1 h2 => by
      rw [upU_eq]
      have : t = 0 ∨ t = 1 ∨ t = 2 := by omega
      rcases this with rfl | rfl | rfl <;> rfl) t)
theorem UF.put {w : World} {B g cap n : Nat} {f : Nat → Usr} (h : UF w B (.slice (some ⟨g, 0, none⟩) n cap) n f) (k : Nat) (c d : ByteArray) (x y : Int) :
    UF ((((w.setCell ⟨g, k * 4, none⟩ (.string c)).setCell ⟨g, k * 4 + 1, none⟩ (.string d)).setCell ⟨g, k * 4 + 2, none⟩ (.int .i64 x)).setCell ⟨g, k * 4 + 3, none⟩ (.int .i64 y)) B (.slice (some ⟨g, 0, none⟩) n cap) n (upU f k ⟨c, d, x, y⟩) := by
  have := (((h.set0 k c).set1 k d).set2 k x).set3 k y
  simp only [upU_eq, upU_up] at this
  exact this
theorem grown4 {w : World} {g : Nat} (p0 p1 p2 p3 : Nat) (y0 y1 y2 y3 : Value) : w.grownBy ((((w.setCell ⟨g, p0, none⟩ y0).setCell ⟨g, p1, none⟩ y1).setCell ⟨g, p2, none⟩ y2).setCell ⟨g, p3, none⟩ y3) (some g) := by
  have one : ∀ (w : World) (p : Nat) (y : Value), w.grownBy (w.setCell ⟨g, p, none⟩ y) (some g) := fun w p y => ⟨rfl, rfl, rfl, by simp, fun k hk hne => Below.heap_setCell _ _ _ _ (fun e => hne (by rw [e]))⟩
  exact (((one _ _ _).trans (one _ _ _)).trans (one _ _ _)).trans (one _ _ _)
theorem grownAny {w w' : World} (h : w.grownBy w' none) (row : Option Nat) : w.grownBy w' row := ⟨h.os, h.tape, h.output, h.size, fun k hk _ => h.block k hk (by simp)⟩
set_option maxHeartbeats 1600000 in
theorem toUserS_any (v : Value) (n : Nat) (f : Nat → Usr) (w : World) (h : UsrsR w v n f) (hn : n ≤ 1048576) :
    Calls Try.prog 23 #[v] w fun e w' => ∃ u, e = .returned u ∧ UF w' w.heap.size u n f ∧ Below w.heap.size w w' := by
  obtain ⟨a, cap, rfl, hc⟩ := h
  have HC := Lib.hid hc
  clear hc
  have hmk := make_users n hn
  have O0 := UF.made w n hn
  have b0 := (Below.refl w.heap.size w).alloc (Nat.le_refl _) (.cells (madeCells #[.string ⟨#[]⟩, .string ⟨#[]⟩, .int .i64 0, .int .i64 0] (n * 4)) 26)
  go_enter Try.func23, Try.ntmps23
  go_wp2
  go_loopw [4] (fun i wr => ∃ (k : Nat) (F : Nat → Usr), k ≤ n ∧ i = .int .i64 k ∧ UF wr w.heap.size (.slice (some ⟨w.heap.size, 0, none⟩) n n) n F ∧ Hid (∀ i, i < k → F i = f i) ∧ Below w.heap.size w wr) (fun i _ => n - (intOf i).toNat)
  case atStart => exact ⟨0, _, by omega, rfl, O0, Lib.hid (fun i hi => absurd hi (Nat.not_lt_zero i)), b0⟩
  case round =>
    obtain ⟨k, F, hk, rfl, rO, rF, rb⟩ := hrel
    clear hmk O0 b0
    by_cases hlt : k < n
    · obtain ⟨b, o, rfl, hx, hcc⟩ := HC.out k hlt
      obtain ⟨c0, c1, c2, c3⟩ := hcc.below rb hx
      have i0 : (0 : Int) ≤ (k : Int) := by omega
      have i1 : (k : Int) < (n : Int) := by omega
      obtain ⟨C, hC⟩ : ∃ C, (f k).code = C := ⟨_, rfl⟩
      obtain ⟨D, hD⟩ : ∃ C, (f k).data = C := ⟨_, rfl⟩
      obtain ⟨X, hX⟩ : ∃ C, (f k).gain = C := ⟨_, rfl⟩
      obtain ⟨Y, hY⟩ : ∃ C, (f k).delay = C := ⟨_, rfl⟩
      rw [hC] at c0
      rw [hD] at c1
      rw [hX] at c2
      rw [hY] at c3
      have HK := Lib.hid (show (⟨C, D, X, Y⟩ : Usr) = f k by rw [← hC, ← hD, ← hX, ← hY])
      clear hC hD hX hY hcc
      go_wp2_with fail
      refine (toUser_any C D X Y _).mono ?_
      rintro e w5 ⟨rfl, hb⟩
      have O5 := rO.below hb
      have r5 := below_then rb (Nat.le_refl _) hb
      clear c0 c1 c2 c3 hb rO rb
      obtain ⟨d0, d1, d2, d3⟩ := O5.cells k hlt
      have fr := O5.free
      have O6 := Lib.hid (O5.put k C D X Y)
      have r6 := Lib.hid (r5.grown (grown4 (k * 4) (k * 4 + 1) (k * 4 + 2) (k * 4 + 3) (.string C) (.string D) (.int .i64 X) (.int .i64 Y)) r5.size (fun q hq => by cases hq; exact Nat.le_refl _))
      have F6 : Hid (∀ i, i < k + 1 → upU F k ⟨C, D, X, Y⟩ i = f i) := Lib.hid (fun i hi => by
        by_cases e : i = k
        · rw [e, upU_eq]; exact HK.out
        · rw [upU_ne e]; exact rF.out i (by omega))
      clear O5 r5 rF
      go_wp2
      go_roundw
      case rel => exact ⟨k + 1, _, by omega, by go_num, O6.out, F6, r6.out⟩
      case measure => simp [intOf]; omega
    · obtain rfl : n = k := by omega
      have O7 := Lib.hid (rO.congr (g := f) rF.out)
      clear rO rF
      go_wp2
      go_ret
      exact ⟨_, rfl, O7.out, rb⟩
set_option maxHeartbeats 1600000 in
theorem eqUserS_same (v u : Value) (n : Nat) (f : Nat → Usr) (w : World) (hv : UsrsR w v n f) (hu : UsrsR w u n f) (hn : n ≤ 1048576) :
    Calls Try.prog 26 #[v, u] w fun e w' => e = .returned (.bool true) ∧ Below w.heap.size w w' := by
  obtain ⟨a, cap, rfl, ha⟩ := hv
  obtain ⟨b, cap', rfl, hb⟩ := hu
  have HA := Lib.hid ha
  have HB := Lib.hid hb
  clear ha hb
  go_enter Try.func26, Try.ntmps26
  go_wp2
  go_loopw [5] (fun i wr => ∃ k : Nat, k ≤ n ∧ i = .int .i64 k ∧ Below w.heap.size w wr) (fun i _ => n - (intOf i).toNat)
  case atStart => exact ⟨0, by omega, rfl, Below.refl _ _⟩
  case round =>
    obtain ⟨k, hk, rfl, rb⟩ := hrel
    by_cases hlt : k < n
    · obtain ⟨x, o, rfl, hx, hcc⟩ := HA.out k hlt
      obtain ⟨y, p, rfl, hy, hdd⟩ := HB.out k hlt
      obtain ⟨c0, c1, c2, c3⟩ := hcc.below rb hx
      obtain ⟨d0, d1, d2, d3⟩ := hdd.below rb hy
      have i0 : (0 : Int) ≤ (k : Int) := by omega
      have i1 : (k : Int) < (n : Int) := by omega
      obtain ⟨C, hC⟩ : ∃ C, (f k).code = C := ⟨_, rfl⟩
      obtain ⟨D, hD⟩ : ∃ C, (f k).data = C := ⟨_, rfl⟩
      obtain ⟨X, hX⟩ : ∃ C, (f k).gain = C := ⟨_, rfl⟩
      obtain ⟨Y, hY⟩ : ∃ C, (f k).delay = C := ⟨_, rfl⟩
      rw [hC] at c0 d0
      rw [hD] at c1 d1
      rw [hX] at c2 d2
      rw [hY] at c3 d3
      clear hC hD hX hY hcc hdd
      have rd := below_drew rb
      go_wp2_with fail
      go_still_tail 8, (by kernel_rfl)
      clear c0 c1 c2 c3 d0 d1 d2 d3
      go_wp2_with fail
      refine (eqUser_same C D X Y _).mono ?_
      rintro e w5 ⟨rfl, hb⟩
      have r5 := below_then rd (Nat.le_refl _) hb
      clear hb rd rb
      go_wp2
      go_roundw
      case rel => exact ⟨k + 1, by omega, by go_num, r5⟩
      case measure => simp [intOf]; omega
    · obtain rfl : n = k := by omega
      go_wp2
      go_ret
      exact ⟨rfl, rb⟩
set_option maxHeartbeats 3200000 in
theorem markUserS_any (v : Value) (B n : Nat) (f : Nat → Usr) (w : World) (hv : UF w B v n f) (hn : n ≤ 1048576) (hB : B ≤ w.heap.size) :
    Calls Try.prog 27 #[v, .int .i64 1] w fun e w' => e = .returned (.int .i64 (1 + 4 * (n : Int))) ∧ w.grownBy w' v.ownBlock := by
  obtain ⟨a, cap, rfl, ha⟩ := hv.form
  by_cases h0 : 0 < n
  · obtain ⟨g, rfl, hBg, hgl⟩ := ha h0
    clear ha
    have HV := Lib.hid hv
    clear hv
    go_enter Try.func27, Try.ntmps27
    go_wp2
    go_loopw [5, 1] (fun i q wr => ∃ (k : Nat) (F : Nat → Usr), k ≤ n ∧ i = .int .i64 k ∧ q = .int .i64 (1 + 4 * (k : Int)) ∧ UF wr B (.slice (some ⟨g, 0, none⟩) n cap) n F ∧ w.grownBy wr (some g)) (fun i _ _ => n - (intOf i).toNat)
    case atStart => exact ⟨0, f, by omega, rfl, rfl, HV.out, ⟨rfl, rfl, rfl, Nat.le_refl _, fun _ _ _ => rfl⟩⟩
    case round =>
      obtain ⟨k, F, hk, rfl, rfl, rO, rg⟩ := hrel
      by_cases hlt : k < n
      · have i0 : (0 : Int) ≤ (k : Int) := by omega
        have i1 : (k : Int) < (n : Int) := by omega
        have hM := fun w => markText_any (1 + 4 * k) w (by omega) (by omega)
        have hM2 := fun w => markText_any (1 + 4 * k + 1) w (by omega) (by omega)
        rw [show ((1 + 4 * k : Nat) : Int) = 1 + 4 * (k : Int) by omega] at hM
        rw [show ((1 + 4 * k + 1 : Nat) : Int) = 1 + 4 * (k : Int) + 1 by omega] at hM2
        obtain ⟨y, hy⟩ : ∃ y, mkT (1 + 4 * k) = y := ⟨_, rfl⟩
        obtain ⟨z, hz⟩ : ∃ y, mkT (1 + 4 * k + 1) = y := ⟨_, rfl⟩
        rw [hy] at hM
        rw [hz] at hM2
        have HM := Lib.hid hM
        have HM2 := Lib.hid hM2
        clear hM hM2 hy hz
        have one : Hid (∀ (W : World) (p : Nat) (u : Value), W.grownBy (W.setCell ⟨g, p, none⟩ u) (some g)) := Lib.hid (fun W p u => ⟨rfl, rfl, rfl, by simp, fun k hk hne => Below.heap_setCell _ _ _ _ (fun e => hne (by rw [e]))⟩)
        go_wp2_with fail
        refine (HM.out _).mono ?_
        rintro e w5 ⟨rfl, hb⟩
        have O5 := rO.below hb
        have g5 := rg.trans (grownAny (grown_of_below hb) (some g))
        clear hb rO rg
        obtain ⟨c0, c1, c2, c3⟩ := O5.cells k hlt
        have fr := O5.free
        have O6 := O5.set0 k y
        have g6 := g5.trans (one.out w5 (k * 4) (.string y))
        obtain ⟨W6, hW⟩ : ∃ W, w5.setCell ⟨g, k * 4, none⟩ (.string y) = W := ⟨_, rfl⟩
        have HO := Lib.hid O6
        have HG := Lib.hid g6
        have HW := Lib.hid hW
        clear O6 g6 hW O5 g5
        go_wp2_with fail
        refine (HM2.out _).mono ?_
        rintro e w7 ⟨rfl, hb⟩
        rw [HW.out] at hb
        have O6 := HO.out
        have g6 := HG.out
        rw [HW.out] at O6 g6
        have O7 := O6.below hb
        have g7 := g6.trans (grownAny (grown_of_below hb) (some g))
        clear hb O6 g6 c0 c1 c2 c3 fr HO HG HW
        obtain ⟨c0, c1, c2, c3⟩ := O7.cells k hlt
        have fr := O7.free
        have O8 := Lib.hid (((O7.set1 k z).set2 k (1 + 4 * (k : Int) + 1 + 1)).set3 k (1 + 4 * (k : Int) + 1 + 1 + 1))
        have g8 := Lib.hid (((g7.trans (one.out _ (k * 4 + 1) (.string z))).trans (one.out _ (k * 4 + 2) (.int .i64 (1 + 4 * (k : Int) + 1 + 1)))).trans (one.out _ (k * 4 + 3) (.int .i64 (1 + 4 * (k : Int) + 1 + 1 + 1))))
        clear O7 g7
        go_wp2
        go_roundw
        case rel => exact ⟨k + 1, _, by omega, by go_num, by go_num, O8.out, g8.out⟩
        case measure => simp [intOf]; omega
      · obtain rfl : n = k := by omega
        go_wp2
        go_ret
        exact ⟨rfl, rg⟩
  · obtain rfl : n = 0 := by omega
    clear ha hv
    go_enter Try.func27, Try.ntmps27
    go_wp2
    go_loop [5, 1] (fun i q => i = .int .i64 (0 : Nat) ∧ q = .int .i64 1) (fun i _ => (intOf i).toNat)
    case atStart => exact ⟨rfl, rfl⟩
    case round =>
      obtain ⟨rfl, rfl⟩ := hrel
      go_wp2
      go_ret
      exact ⟨rfl, ⟨rfl, rfl, rfl, Nat.le_refl _, fun _ _ _ => rfl⟩⟩
end Go.Proofs.Ytlcnlhephhbhcaa
