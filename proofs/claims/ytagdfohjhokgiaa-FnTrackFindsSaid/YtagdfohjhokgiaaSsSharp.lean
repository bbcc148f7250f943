/- ssSharp: a pilot with a maximal code of a small size, an offset and a gain. -/
import Derived.Test.YtagdfohjhokgiaaSsMax
import Derived.Test.YtagdfohjhokgiaaPil
import Derived.Test.YtagdfohjhokgiaaPilK
import Derived.Test.YtagdfohjhokgiaaDraw
import Derived.Deep.RegionHeld3
import Derived.BigQuiet
namespace Go.Proofs.Ytagdfohjhokgiaa
open Go.RowKit
set_option linter.unusedVariables false
set_option maxRecDepth 100000
theorem tw_small {s : Nat} (h2 : 2 ≤ s) (h5 : s ≤ 5) : 3 ≤ tw s - 1 ∧ tw s - 1 ≤ 31 := by
  have : s = 2 ∨ s = 3 ∨ s = 4 ∨ s = 5 := by omega
  rcases this with rfl | rfl | rfl | rfl <;> decide
theorem pil_froz (w : World) (c : Array Value) (t : TypeId) (o : Nat) : (w.alloc (.cells c t)).frozen? ⟨w.heap.size, o, none⟩ = false :=
  frozen_of_row _ _ _ c t (by show (w.heap.push _)[w.heap.size]? = _; simp)
theorem two_grown {w : World} {g : Nat} (p0 p1 : Nat) (y0 y1 : Value) : w.grownBy ((w.setCell ⟨g, p0, none⟩ y0).setCell ⟨g, p1, none⟩ y1) (some g) := by
  have one : ∀ (w : World) (p : Nat) (y : Value), w.grownBy (w.setCell ⟨g, p, none⟩ y) (some g) := fun w p y => ⟨rfl, rfl, rfl, by simp, fun k hk hne => Below.heap_setCell _ _ _ _ (fun e => hne (by rw [e]))⟩
  exact (one _ _ _).trans (one _ _ _)
/-- What ssSharp answers. -/
def ShPost (w : World) (e : Ending) (w' : World) : Prop :=
  ∃ s t g at_ ga : Nat, e = .returned (.tuple #[.agg #[.string (runS s t 1 (tw s - 1)), .int .i64 (g : Int)], .int .i64 (at_ : Int), .int .i64 (ga : Int)]) ∧ 2 ≤ s ∧ s ≤ 5 ∧ RegN s t 1 ∧ goodB s t = true ∧ 1 ≤ g ∧ g ≤ 6 ∧ at_ < (tw s - 1) * g ∧ 1 ≤ ga ∧ ga ≤ 9 ∧ Below w.heap.size w w'
set_option maxHeartbeats 3200000 in
theorem ssSharp_any (a0 : Option Addr) (len0 cap0 : Nat) (z0 : List Int) (a1 : Option Addr) (len1 cap1 : Nat) (w : World) (h0 : IsBytes w a0 len0 cap0 z0) (hl0 : len0 ≤ 1048576) (hl1 : len1 ≤ 1048576) :
    Calls Try.prog 6 #[.slice a0 len0 cap0, .slice a1 len1 cap1] w (ShPost w) := by
  obtain ⟨ys, hys, hyb, hyc⟩ := bytes_data h0 (min len0 4) (Nat.min_le_left _ _)
  obtain ⟨M4, hM4⟩ : ∃ M, len0 % 4 = M := ⟨_, rfl⟩
  have v1 : (len0 : Int).tmod 4 = (M4 : Int) := by rw [Int.tmod_eq_emod_of_nonneg (by omega), ← hM4]; omega
  obtain ⟨s, hs⟩ : ∃ s, 2 + M4 = s := ⟨_, rfl⟩
  have v2 : 2 + (M4 : Int) = (s : Int) := by omega
  have hs2 : 2 ≤ s := by omega
  have hs5 : s ≤ 5 := by omega
  have hM4b : M4 ≤ 3 := by omega
  obtain ⟨D3, hD3⟩ : ∃ M, len1 / 3 = M := ⟨_, rfl⟩
  have v3 : (len1 : Int).tdiv 3 = (D3 : Int) := by rw [Int.tdiv_eq_ediv_of_nonneg (by omega), ← hD3]; omega
  obtain ⟨M6, hM6⟩ : ∃ M, D3 % 6 = M := ⟨_, rfl⟩
  have v4 : (D3 : Int).tmod 6 = (M6 : Int) := by rw [Int.tmod_eq_emod_of_nonneg (by omega), ← hM6]; omega
  obtain ⟨G, hG⟩ : ∃ M, 1 + M6 = M := ⟨_, rfl⟩
  have v5 : 1 + (M6 : Int) = (G : Int) := by omega
  have hG1 : 1 ≤ G := by omega
  have hG6 : G ≤ 6 := by omega
  have hM6b : M6 ≤ 5 := by omega
  obtain ⟨D5, hD5⟩ : ∃ M, len1 / 5 = M := ⟨_, rfl⟩
  have v6 : (len1 : Int).tdiv 5 = (D5 : Int) := by rw [Int.tdiv_eq_ediv_of_nonneg (by omega), ← hD5]; omega
  obtain ⟨M9, hM9⟩ : ∃ M, D5 % 9 = M := ⟨_, rfl⟩
  have v7 : (D5 : Int).tmod 9 = (M9 : Int) := by rw [Int.tmod_eq_emod_of_nonneg (by omega), ← hM9]; omega
  obtain ⟨GA, hGA⟩ : ∃ M, 1 + M9 = M := ⟨_, rfl⟩
  have v8 : 1 + (M9 : Int) = (GA : Int) := by omega
  have hGA1 : 1 ≤ GA := by omega
  have hGA9 : GA ≤ 9 := by omega
  have hM9b : M9 ≤ 8 := by omega
  have hdb : D3 ≤ 1048576 ∧ D5 ≤ 1048576 := by omega
  obtain ⟨hdb3, hdb5⟩ := hdb
  clear hM4 hs hD3 hM6 hG hD5 hM9 hGA
  have HMX := Lib.hid (fun w => ssMax_any s len1 w hs2 hs5 hl1)
  have RA := PilAt.new w 24 ⟨#[]⟩ 0
  have fr := fun o => pil_froz w #[.string ⟨#[]⟩, .int .i64 0] 24 o
  have b0 := (Below.refl w.heap.size w).alloc (Nat.le_refl _) (.cells #[.string ⟨#[]⟩, .int .i64 0] 24)
  obtain ⟨W, hW⟩ : ∃ W, w.alloc (.cells #[.string ⟨#[]⟩, .int .i64 0] 24) = W := ⟨_, rfl⟩
  have hWs : W.heap.size = w.heap.size + 1 := by rw [← hW]; simp
  rw [hW] at RA b0
  simp only [hW] at fr
  clear h0
  go_enter Try.func6, Try.ntmps6
  go_wp2_with fail
  clear hW
  refine (HMX.out _).mono ?_
  rintro e w1 ⟨t, rfl, hr, hg, b1'⟩
  obtain ⟨c, hc⟩ : ∃ c, runS s t 1 (tw s - 1) = c := ⟨_, rfl⟩
  have hcs : c.size = tw s - 1 := by rw [← hc]; exact runS_size _ _ _ _
  have hc31 := tw_small hs2 hs5
  have HC := Lib.hid hc
  have HCS := Lib.hid hcs
  rw [hc]
  rw [← hcs] at hc31
  have hXw : w.heap.size < w1.heap.size := by have := b1'.size; omega
  have b1 := below_then b0 (Nat.le_refl _) b1'
  have RB := RA.below b1' RA.2.2
  have fr1 := fun o => frozen_kept' (fr o) RA.2.2 (grown_of_below b1') (show some w.heap.size ≠ none by simp)
  have QV := PilAt.new w1 24 c (G : Int)
  have b2 := b1.alloc b1.size (.cells #[.string c, .int .i64 (G : Int)] 24)
  have g2 := World.grownBy_alloc w1 (.cells #[.string c, .int .i64 (G : Int)] 24) none
  have RC := RB.kept g2 (by simp)
  have fr2 := fun o => frozen_kept' (fr1 o) RB.2.2 g2 (show some w.heap.size ≠ none by simp)
  have hyw : ys = [] ∨ ∃ blk off, a0 = some ⟨blk, off, none⟩ ∧ blk < w.heap.size ∧ ∀ i, i < ys.length → (w1.alloc (.cells #[.string c, .int .i64 (G : Int)] 24)).cell? ⟨blk, off + i, none⟩ = some (.int .u8 (ys.getD i 0)) := by
    rcases hyc with h | ⟨blk, off, e1, e2, e3⟩
    · exact .inl h
    · exact .inr ⟨blk, off, e1, e2, fun i hi => by rw [b2.cell (p := ⟨blk, off + i, none⟩) e2]; exact e3 i hi⟩
  clear hc hcs RA RB fr fr1 b0 b1 b1' g2 hyc HMX
  go_wp2_with fail
  obtain ⟨X, hX⟩ : ∃ X, w1.heap.size = X := ⟨_, rfl⟩
  obtain ⟨V, hV⟩ : ∃ V, w1.alloc (.cells #[.string c, .int .i64 (G : Int)] 24) = V := ⟨_, rfl⟩
  rw [hV] at QV b2 RC hyw ⊢
  simp only [hV] at fr2
  rw [hX] at QV hXw ⊢
  clear hV hX v3 v4 v5 hdb3
  have hm4 : min len0 4 ≤ 4 := Nat.min_le_right _ _
  have HYW := Lib.hid hyw
  have HYB := Lib.hid hyb
  clear hyw hyb
  go_loopw [9, 10] (fun at_ i wr => ∃ A j : Nat, j ≤ ys.length ∧ A ≤ 255 * j ∧ at_ = .int .i64 (A : Int) ∧ i = .int .i64 (j : Int) ∧ wr = V) (fun _ i _ => 4 - (intOf i).toNat)
  case atStart => exact ⟨0, 0, by omega, by omega, rfl, rfl, rfl⟩
  case round =>
    obtain ⟨A, j, hj, hA, rfl, rfl, rfl⟩ := hrel
    by_cases hlt : j < ys.length
    · have hz := HYB.out (ys.getD j 0) (by rw [List.getD_eq_getElem?_getD, List.getElem?_eq_getElem hlt]; exact List.getElem_mem hlt)
      obtain ⟨blk, off, rfl, hblk, hcell⟩ : ∃ blk off, a0 = some ⟨blk, off, none⟩ ∧ blk < w.heap.size ∧ ∀ i, i < ys.length → wr.cell? ⟨blk, off + i, none⟩ = some (.int .u8 (ys.getD i 0)) := by
        rcases HYW.out with h | h
        · rw [h] at hlt; exact absurd hlt (Nat.not_lt_zero j)
        · exact h
      have hcp := hcell j hlt
      obtain ⟨z, hzz⟩ : ∃ z, ys.getD j 0 = z := ⟨_, rfl⟩
      rw [hzz] at hcp hz
      obtain ⟨Z, rfl⟩ : ∃ Z : Nat, z = (Z : Int) := ⟨z.toNat, by omega⟩
      have hj4 : j < 4 := by omega
      have hjl : j < len0 := by omega
      have i0 : (0 : Int) ≤ (j : Int) := by omega
      have i1 : (j : Int) < (len0 : Int) := by omega
      have i2 : (j : Int) < 4 := by omega
      have hZ : Z ≤ 255 := by omega
      have hA4 : A ≤ 1020 := by omega
      clear hcell hzz hz
      go_wp2
      go_roundw
      case rel => exact ⟨A + Z, j + 1, by omega, by omega, by go_num, by go_num, by trivial⟩
      case measure => simp [intOf]; omega
    · have hjn : j = ys.length := by omega
      have hex : ¬ ((j : Int) < (len0 : Int)) ∨ ((j : Int) < (len0 : Int) ∧ ¬ ((j : Int) < 4)) := by omega
      have hAb : A ≤ 1020 := by omega
      have pos : 1 ≤ c.size * G := Nat.mul_pos (by omega) (by omega)
      have pbd : c.size * G ≤ 31 * 6 := Nat.mul_le_mul hc31.2 hG6
      obtain ⟨P, hP⟩ : ∃ P, c.size * G = P := ⟨_, rfl⟩
      rw [hP] at pos pbd
      have w1' : IntKind.i64.wrap ((c.size : Int) * (G : Int)) = (P : Int) := by rw [← Int.natCast_mul, hP]; exact IntWalk.i64_in _ (by omega)
      obtain ⟨AT, hAT⟩ : ∃ T, A % P = T := ⟨_, rfl⟩
      have w2' : (A : Int).tmod (P : Int) = (AT : Int) := by rw [Int.tmod_eq_emod_of_nonneg (by omega), ← hAT, Int.natCast_emod]
      have hATP : AT < P := by rw [← hAT]; exact Nat.mod_lt _ (by omega)
      have HATP : Hid (AT < (tw s - 1) * G) := Lib.hid (by rw [← HCS.out, hP]; exact hATP)
      have n0 : ¬ ((P : Int) = 0) := by omega
      have n1 : ((P : Int) == 0) = false := by simp; omega
      have n2 : ¬ P = 0 := by omega
      have w3' : IntKind.i64.wrap (1 + (M9 : Int)) = (GA : Int) := by rw [IntWalk.i64_in _ (by omega)]; omega
      have hcz : c.size ≤ 9223372036854775807 := by omega
      obtain ⟨d0, d1, dl⟩ := id QV
      obtain ⟨r0, r1, rl⟩ := id RC
      have f0 := fr2 0
      have f1 := fr2 1
      have kk := (Below.refl wr.heap.size wr).drew
      obtain ⟨e0, e1, el⟩ := QV.below kk QV.2.2
      obtain ⟨q0, q1, ql⟩ := RC.below kk RC.2.2
      have ff0 : wr.drew.frozen? ⟨w.heap.size, 0, none⟩ = false := frozen_kept' f0 RC.2.2 (grown_of_below kk) (by simp)
      have ff1 : wr.drew.frozen? ⟨w.heap.size, 1, none⟩ = false := frozen_kept' f1 RC.2.2 (grown_of_below kk) (by simp)
      obtain ⟨u0, u1, ul⟩ := QV.kept (two_grown (w := wr) (g := w.heap.size) 0 1 (.string c) (.int .i64 (G : Int))) (by simp; omega)
      obtain ⟨x0, x1', xl⟩ : PilAt ((wr.setCell ⟨w.heap.size, 0, none⟩ (.string c)).setCell ⟨w.heap.size, 1, none⟩ (.int .i64 (G : Int))).drew X c (G : Int) := ⟨u0, u1, ul⟩
      have b3 := Lib.hid ((b2.grown (two_grown (w := wr) (g := w.heap.size) 0 1 (.string c) (.int .i64 (G : Int))) b2.size (fun k hk => by cases hk; exact Nat.le_refl _)).drew)
      clear hP hAT hj hA hlt hjn HYW HYB hATP b2 pos QV RC fr2 hm4 HCS
      have fin : ShPost w (.returned (.tuple #[.agg #[.string c, .int .i64 (G : Int)], .int .i64 (AT : Int), .int .i64 (GA : Int)])) ((wr.setCell ⟨w.heap.size, 0, none⟩ (.string c)).setCell ⟨w.heap.size, 1, none⟩ (.int .i64 (G : Int))).drew := by
        refine ⟨s, t, G, AT, GA, by rw [HC.out], hs2, hs5, hr, hg, hG1, hG6, HATP.out, hGA1, hGA9, b3.out⟩
      have FIN := Lib.hid fin
      clear fin b3 HATP HC hr hg hs2 hs5
      rcases hex with x1 | ⟨x1, x2⟩
      all_goals
        go_wp2_with fail
        go_region
        go_wp2
        refine bodyPost_ret (v := .tuple #[.agg #[.string c, .int .i64 (G : Int)], .int .i64 (AT : Int), .int .i64 (GA : Int)]) (by simp [results, Try.results6, go_sem, r0, r1]) rfl ?_
        exact FIN.out
end Go.Proofs.Ytagdfohjhokgiaa
