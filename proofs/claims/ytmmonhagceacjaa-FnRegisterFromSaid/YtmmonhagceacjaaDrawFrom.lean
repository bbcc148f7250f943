/- The draw of RegisterFrom. -/
import Derived.Test.YtmmonhagceacjaaDrawRun
import Derived.Test.YtmmonhagceacjaaDraw5
import Derived.Deep.RegionHeld3
import Derived.BigQuiet
namespace Go.Proofs.Ytmmonhagceacjaa
open Go.RowKit
set_option linter.unusedVariables false
set_option maxRecDepth 100000
theorem TxtAt.row8 (w : World) (t : TypeId) : TxtAt (w.alloc (.cells #[.string ⟨#[]⟩, .string ⟨#[]⟩, .string ⟨#[]⟩, .string ⟨#[]⟩, .string ⟨#[]⟩, .string ⟨#[]⟩, .string ⟨#[]⟩, .string ⟨#[50]⟩] t)) w.heap.size 8 1 := by
  refine ⟨by simp, fun i hi => ?_⟩
  have : i = 0 ∨ i = 1 ∨ i = 2 ∨ i = 3 ∨ i = 4 ∨ i = 5 ∨ i = 6 ∨ i = 7 := by omega
  rcases this with rfl | rfl | rfl | rfl | rfl | rfl | rfl | rfl
  all_goals first | exact ⟨⟨#[]⟩, by rw [World.cell?_alloc_new]; rfl, by decide⟩ | exact ⟨⟨#[50]⟩, by rw [World.cell?_alloc_new]; rfl, by decide⟩
def FromPost (w : World) (e : Ending) (w' : World) : Prop := ∃ (S T : Int) (z : ByteArray), e = .returned (.tuple #[.int .i64 S, .int .i64 T, .string z]) ∧ FitsI S ∧ FitsI T ∧ z.size ≤ 1000 ∧ Below w.heap.size w w'
def strLen : Value → Nat
  | .string z => z.size
  | _ => 0
set_option maxHeartbeats 6400000 in
theorem drawFrom_any (a : Option Addr) (len cap : Nat) (zs : List Int) (w : World) (h : IsBytes w a len cap zs) :
    Calls Try.prog 16 #[.slice a len cap] w (FromPost w) := by
  go_enter Try.func16, Try.ntmps16
  go_wp2_with fail
  refine (open_any a len cap zs _ h).mono ?_
  rintro e w1 ⟨b, ys, rfl, hr1, hb1, hlb⟩
  clear h
  go_wp2_with fail
  refine (l1Open_any b 0 ys _ hr1 (by omega)).mono ?_
  rintro e w2 ⟨S, T, X, q, rfl, fS, fT, fX, hq, hr2, hg2⟩
  have b2 := below_grown hb1 (Nat.le_refl _) hg2 (by omega)
  clear hb1 hr1 hg2
  obtain ⟨V, b3, hA3, hr3, hlt3, hV⟩ : ∃ V, Below w.heap.size w V ∧ RegAt V w2.heap.size S T X ∧ RdAt V b q ys ∧ b < w2.heap.size ∧ w2.alloc (.cells #[.int .i64 S, .int .i64 T, .int .i64 X] 24) = V :=
    ⟨_, b2.alloc b2.size _, RegAt.new w2 _ S T X, hr2.alloc _, hr2.1, rfl⟩
  have hwb : w.heap.size ≤ w2.heap.size := b2.size
  go_wp2_with fail
  obtain ⟨bx, hbx⟩ : ∃ k, w2.heap.size = k := ⟨_, rfl⟩
  rw [hbx] at hA3 hlt3 hwb ⊢
  clear hV b2 hr2 hbx
  refine (l1String_any b q 8 ys _ hr3 (by omega) (by omega)).mono ?_
  rintro e w3 ⟨z, q4, rfl, hz8, hq4, hr4, hg4⟩
  have b4 := below_grown b3 (Nat.le_refl _) hg4 (by omega)
  have hA4 := hA3.kept hg4 (by simp; omega)
  clear b3 hA3 hr3 hg4
  obtain ⟨c0, c1, c2, cl⟩ := id hA4
  go_wp2
  go_loop [7] (fun v => ∃ y : ByteArray, y.size ≤ 8 ∧ v = .string y) (fun v => 8 - strLen v)
  case atStart => exact ⟨z, hz8, rfl⟩
  case round =>
    obtain ⟨y, hy, rfl⟩ := hrel
    clear hz8
    by_cases hc : (y.size : Int) < S ∧ y.size < 8
    · obtain ⟨hc1, hc2⟩ := hc
      have hc3 : (y.size : Int) < 8 := by omega
      have hys : y.size + ByteArray.size ⟨#[49]⟩ ≤ 9223372036854775807 := by show y.size + 1 ≤ _; omega
      have hyy : (y ++ ⟨#[49]⟩).size = y.size + 1 := by rw [ByteArray.size_append]; rfl
      have HY := Lib.hid hyy
      clear hyy
      go_wp2
      go_round
      case rel => exact ⟨_, by rw [HY.out]; omega, rfl⟩
      case measure => show 8 - (y ++ ⟨#[49]⟩ : ByteArray).size < 8 - y.size; rw [HY.out]; omega
    · have hys : (y.size : Int) ≤ 8 := by omega
      by_cases hc1 : (y.size : Int) < S
      · have hc2 : ¬ ((y.size : Int) < 8) := by omega
        have hc3 : ¬ (y.size < 8) := by omega
        have hin : ¬ ((0 : Int) ≤ S ∧ S ≤ (y.size : Int)) := by omega
        clear hc
        go_wp2_with fail
        refine (pick_any b q4 6 ys _ hr4 (by omega) (by omega) (by omega)).mono ?_
        rintro e w5 ⟨k, hk, rfl, hr5, hg5⟩
        have b5 := below_grown b4 (Nat.le_refl _) hg5 (by omega)
        have hA5 := hA4.kept hg5 (by simp; omega)
        clear b4 hA4 hr4 hg5 c0 c1 c2 cl
        obtain ⟨c0, c1, c2, cl⟩ := id hA5
        have HY : Hid (y.size ≤ 8) := Lib.hid hy
        by_cases k0 : k = 0
        · subst k0
          clear hk hin hc1 hc2 hc3
          have hY8 : y.size ≤ 8 := HY.out
          have hbs : b < w5.heap.size := hr5.1
          go_wp2_with fail
          have hQ : ∀ o, (w5.drew.alloc o).cell? ⟨bx, 0, none⟩ = some (.int .i64 S) ∧ (w5.drew.alloc o).cell? ⟨bx, 1, none⟩ = some (.int .i64 T) := fun o => by obtain ⟨e0, e1, -, -⟩ := hA5.kept ((drew_grow w5 none).trans (World.grownBy_alloc w5.drew o none)) (by simp); exact ⟨e0, e1⟩
          go_region_held3 (fun wx => wx.cell? ⟨bx, 0, none⟩ = some (.int .i64 S) ∧ wx.cell? ⟨bx, 1, none⟩ = some (.int .i64 T)) (first | exact ⟨d0, d1⟩ | exact ⟨c0, c1⟩ | exact hQ _) ((go_at_call 63; refine (of_any b (q4 + 1) w5.heap.size 8 1 ys _ (hr5.drew.alloc _) (TxtAt.row8 w5.drew _) hbs (by omega) (by omega) (by omega)).mono ?_; rintro e w6 ⟨u, q6, rfl, hu, hq6, r6, g6⟩; have qs : y.size + u.size ≤ 9223372036854775807 := (by omega); have q3 := fun w => run_string_add_sum (P := Try.prog) w y u qs; have q5 : ¬ (9223372036854775807 < y.size + u.size) := (by omega); have g7 := ((drew_grow w5 (some b)).trans (World.grownBy_alloc w5.drew _ (some b))).trans g6; have b6 := below_grown b5 (Nat.le_refl _) g7 (by omega); obtain ⟨d0, d1, d2, dl⟩ := hA5.kept g7 (by simp; omega)))
          all_goals
            have HS : Hid ((y ++ u : ByteArray).size ≤ 1000) := Lib.hid (by rw [ByteArray.size_append]; omega)
            clear hA5 c0 c1 c2 cl hr5 b5 g6 g7 r6
            go_wp2
            refine bodyPost_ret (v := .tuple #[.int .i64 S, .int .i64 T, .string (y ++ u)]) (by simp [results, Try.results16, go_sem]) rfl ⟨S, T, _, rfl, fS, fT, HS.out, b6⟩
        · have k1 : (0 : Int) < (k : Int) := by omega
          have k2 : 0 < k := by omega
          clear hc1 hc2 hc3
          go_wp2_with fail
          refine (l1In_no _ _ _ _ hin).mono ?_
          rintro e w' ⟨rfl, rfl⟩
          clear hin hk k0 k1 k2
          have hY8 : y.size ≤ 8 := HY.out
          have hbs : b < w5.heap.size := hr5.1
          go_wp2_with fail
          have hQ : ∀ o, (w5.drew.alloc o).cell? ⟨bx, 0, none⟩ = some (.int .i64 S) ∧ (w5.drew.alloc o).cell? ⟨bx, 1, none⟩ = some (.int .i64 T) := fun o => by obtain ⟨e0, e1, -, -⟩ := hA5.kept ((drew_grow w5 none).trans (World.grownBy_alloc w5.drew o none)) (by simp); exact ⟨e0, e1⟩
          go_region_held3 (fun wx => wx.cell? ⟨bx, 0, none⟩ = some (.int .i64 S) ∧ wx.cell? ⟨bx, 1, none⟩ = some (.int .i64 T)) (first | exact ⟨d0, d1⟩ | exact ⟨c0, c1⟩ | exact hQ _) ((go_at_call 63; refine (of_any b (q4 + 1) w5.heap.size 8 1 ys _ (hr5.drew.alloc _) (TxtAt.row8 w5.drew _) hbs (by omega) (by omega) (by omega)).mono ?_; rintro e w6 ⟨u, q6, rfl, hu, hq6, r6, g6⟩; have qs : y.size + u.size ≤ 9223372036854775807 := (by omega); have q3 := fun w => run_string_add_sum (P := Try.prog) w y u qs; have q5 : ¬ (9223372036854775807 < y.size + u.size) := (by omega); have g7 := ((drew_grow w5 (some b)).trans (World.grownBy_alloc w5.drew _ (some b))).trans g6; have b6 := below_grown b5 (Nat.le_refl _) g7 (by omega); obtain ⟨d0, d1, d2, dl⟩ := hA5.kept g7 (by simp; omega)))
          all_goals
            have HS : Hid ((y ++ u : ByteArray).size ≤ 1000) := Lib.hid (by rw [ByteArray.size_append]; omega)
            clear hA5 c0 c1 c2 cl hr5 b5 g6 g7 r6
            go_wp2
            refine bodyPost_ret (v := .tuple #[.int .i64 S, .int .i64 T, .string (y ++ u)]) (by simp [results, Try.results16, go_sem]) rfl ⟨S, T, _, rfl, fS, fT, HS.out, b6⟩
      · clear hc
        go_wp2_with fail
        refine (pick_any b q4 6 ys _ hr4 (by omega) (by omega) (by omega)).mono ?_
        rintro e w5 ⟨k, hk, rfl, hr5, hg5⟩
        have b5 := below_grown b4 (Nat.le_refl _) hg5 (by omega)
        have hA5 := hA4.kept hg5 (by simp; omega)
        clear b4 hA4 hr4 hg5 c0 c1 c2 cl
        obtain ⟨c0, c1, c2, cl⟩ := id hA5
        have HY : Hid (y.size ≤ 8) := Lib.hid hy
        by_cases k0 : k = 0
        · subst k0
          clear hk hc1
          have hY8 : y.size ≤ 8 := HY.out
          have hbs : b < w5.heap.size := hr5.1
          go_wp2_with fail
          have hQ : ∀ o, (w5.drew.alloc o).cell? ⟨bx, 0, none⟩ = some (.int .i64 S) ∧ (w5.drew.alloc o).cell? ⟨bx, 1, none⟩ = some (.int .i64 T) := fun o => by obtain ⟨e0, e1, -, -⟩ := hA5.kept ((drew_grow w5 none).trans (World.grownBy_alloc w5.drew o none)) (by simp); exact ⟨e0, e1⟩
          go_region_held3 (fun wx => wx.cell? ⟨bx, 0, none⟩ = some (.int .i64 S) ∧ wx.cell? ⟨bx, 1, none⟩ = some (.int .i64 T)) (first | exact ⟨d0, d1⟩ | exact ⟨c0, c1⟩ | exact hQ _) ((go_at_call 63; refine (of_any b (q4 + 1) w5.heap.size 8 1 ys _ (hr5.drew.alloc _) (TxtAt.row8 w5.drew _) hbs (by omega) (by omega) (by omega)).mono ?_; rintro e w6 ⟨u, q6, rfl, hu, hq6, r6, g6⟩; have qs : y.size + u.size ≤ 9223372036854775807 := (by omega); have q3 := fun w => run_string_add_sum (P := Try.prog) w y u qs; have q5 : ¬ (9223372036854775807 < y.size + u.size) := (by omega); have g7 := ((drew_grow w5 (some b)).trans (World.grownBy_alloc w5.drew _ (some b))).trans g6; have b6 := below_grown b5 (Nat.le_refl _) g7 (by omega); obtain ⟨d0, d1, d2, dl⟩ := hA5.kept g7 (by simp; omega)))
          all_goals
            have HS : Hid ((y ++ u : ByteArray).size ≤ 1000) := Lib.hid (by rw [ByteArray.size_append]; omega)
            clear hA5 c0 c1 c2 cl hr5 b5 g6 g7 r6
            go_wp2
            refine bodyPost_ret (v := .tuple #[.int .i64 S, .int .i64 T, .string (y ++ u)]) (by simp [results, Try.results16, go_sem]) rfl ⟨S, T, _, rfl, fS, fT, HS.out, b6⟩
        · have k1 : (0 : Int) < (k : Int) := by omega
          have k2 : 0 < k := by omega
          by_cases hin : (0 : Int) ≤ S ∧ S ≤ (y.size : Int)
          · obtain ⟨m, rfl⟩ : ∃ m : Nat, S = m := ⟨S.toNat, by omega⟩
            have i0 : (0 : Int) ≤ (m : Int) := by omega
            have i1 := hin.2
            have hms : (y.extract 0 m).size = m := by rw [size_extract _ _ _ (by omega)]; rfl
            obtain ⟨Y, hY⟩ : ∃ Y, y.extract 0 m = Y := ⟨_, rfl⟩
            rw [hY] at hms
            have HYY : Hid (Y.size ≤ 8) := Lib.hid (by omega)
            clear hc1 HY
            have HY := HYY
            clear HYY
            go_wp2_with fail
            refine (l1In_yes _ _ _ _ i0 i1).mono ?_
            rintro e w' ⟨rfl, rfl⟩
            clear hk k0 k1 k2 hms
            have hY8 : Y.size ≤ 8 := HY.out
            have hbs : b < w5.heap.size := hr5.1
            go_wp2_with fail
            have hQ : ∀ o, (w5.drew.alloc o).cell? ⟨bx, 0, none⟩ = some (.int .i64 m) ∧ (w5.drew.alloc o).cell? ⟨bx, 1, none⟩ = some (.int .i64 T) := fun o => by obtain ⟨e0, e1, -, -⟩ := hA5.kept ((drew_grow w5 none).trans (World.grownBy_alloc w5.drew o none)) (by simp); exact ⟨e0, e1⟩
            go_region_held3 (fun wx => wx.cell? ⟨bx, 0, none⟩ = some (.int .i64 m) ∧ wx.cell? ⟨bx, 1, none⟩ = some (.int .i64 T)) (first | exact ⟨d0, d1⟩ | exact ⟨c0, c1⟩ | exact hQ _) ((go_at_call 63; refine (of_any b (q4 + 1) w5.heap.size 8 1 ys _ (hr5.drew.alloc _) (TxtAt.row8 w5.drew _) hbs (by omega) (by omega) (by omega)).mono ?_; rintro e w6 ⟨u, q6, rfl, hu, hq6, r6, g6⟩; have qs : Y.size + u.size ≤ 9223372036854775807 := (by omega); have q3 := fun w => run_string_add_sum (P := Try.prog) w Y u qs; have q5 : ¬ (9223372036854775807 < Y.size + u.size) := (by omega); have g7 := ((drew_grow w5 (some b)).trans (World.grownBy_alloc w5.drew _ (some b))).trans g6; have b6 := below_grown b5 (Nat.le_refl _) g7 (by omega); obtain ⟨d0, d1, d2, dl⟩ := hA5.kept g7 (by simp; omega)))
            all_goals
              have HS : Hid ((Y ++ u : ByteArray).size ≤ 1000) := Lib.hid (by rw [ByteArray.size_append]; omega)
              clear hA5 c0 c1 c2 cl hr5 b5 g6 g7 r6
              go_wp2
              refine bodyPost_ret (v := .tuple #[.int .i64 m, .int .i64 T, .string (Y ++ u)]) (by simp [results, Try.results16, go_sem]) rfl ⟨m, T, _, rfl, fS, fT, HS.out, b6⟩
          · clear hc1
            go_wp2_with fail
            refine (l1In_no _ _ _ _ hin).mono ?_
            rintro e w' ⟨rfl, rfl⟩
            clear hin hk k0 k1 k2
            have hY8 : y.size ≤ 8 := HY.out
            have hbs : b < w5.heap.size := hr5.1
            go_wp2_with fail
            have hQ : ∀ o, (w5.drew.alloc o).cell? ⟨bx, 0, none⟩ = some (.int .i64 S) ∧ (w5.drew.alloc o).cell? ⟨bx, 1, none⟩ = some (.int .i64 T) := fun o => by obtain ⟨e0, e1, -, -⟩ := hA5.kept ((drew_grow w5 none).trans (World.grownBy_alloc w5.drew o none)) (by simp); exact ⟨e0, e1⟩
            go_region_held3 (fun wx => wx.cell? ⟨bx, 0, none⟩ = some (.int .i64 S) ∧ wx.cell? ⟨bx, 1, none⟩ = some (.int .i64 T)) (first | exact ⟨d0, d1⟩ | exact ⟨c0, c1⟩ | exact hQ _) ((go_at_call 63; refine (of_any b (q4 + 1) w5.heap.size 8 1 ys _ (hr5.drew.alloc _) (TxtAt.row8 w5.drew _) hbs (by omega) (by omega) (by omega)).mono ?_; rintro e w6 ⟨u, q6, rfl, hu, hq6, r6, g6⟩; have qs : y.size + u.size ≤ 9223372036854775807 := (by omega); have q3 := fun w => run_string_add_sum (P := Try.prog) w y u qs; have q5 : ¬ (9223372036854775807 < y.size + u.size) := (by omega); have g7 := ((drew_grow w5 (some b)).trans (World.grownBy_alloc w5.drew _ (some b))).trans g6; have b6 := below_grown b5 (Nat.le_refl _) g7 (by omega); obtain ⟨d0, d1, d2, dl⟩ := hA5.kept g7 (by simp; omega)))
            all_goals
              have HS : Hid ((y ++ u : ByteArray).size ≤ 1000) := Lib.hid (by rw [ByteArray.size_append]; omega)
              clear hA5 c0 c1 c2 cl hr5 b5 g6 g7 r6
              go_wp2
              refine bodyPost_ret (v := .tuple #[.int .i64 S, .int .i64 T, .string (y ++ u)]) (by simp [results, Try.results16, go_sem]) rfl ⟨S, T, _, rfl, fS, fT, HS.out, b6⟩
end Go.Proofs.Ytmmonhagceacjaa
