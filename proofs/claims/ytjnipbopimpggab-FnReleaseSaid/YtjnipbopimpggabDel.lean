/- One station cut out of a slice of the call's own: slices.Delete at this program. -/
import Derived.Test.YtjnipbopimpggabTF
import Derived.Lib.SliceRun
import Derived.Deep.RegionLaw
import Derived.Lib.LazyBuf
namespace Go.Proofs.Ytjnipbopimpggab
open Go.RowKit
set_option linter.unusedVariables false
set_option maxRecDepth 100000
/-- Stations without the one at k. -/
def cutU (f : Nat → Usr) (k i : Nat) : Usr := if i < k then f i else f (i + 1)
/-- The cells of an own slice as a row. -/
theorem TF.row {w : World} {B g n cap : Nat} {f : Nat → Usr} (h : TF w B (.slice (some ⟨g, 0, none⟩) n cap) n f) :
    ∃ F : Nat → Value, w.rowIs g 30 (cap * 4) F ∧ B ≤ g ∧ n ≤ cap ∧ cap ≤ maxLen ∧ ∀ j, j < n * 4 → F j = (f (j / 4)).at (j % 4) := by
  obtain ⟨h1, ⟨h2, _⟩ | ⟨g', cap', cur, h2, hB, hg, hn, hm, hs, ht⟩⟩ := h
  · cases h2
  · injection h2 with h3 _ h4
    injection h3 with h3
    injection h3 with h3
    subst h3 h4
    refine ⟨fun j => cur[j]?.getD default, ⟨cur, hg, hs, fun i hi => ?_⟩, hB, hn, hm, fun j hj => ?_⟩
    · show cur[i]? = some (cur[i]?.getD default)
      rw [Array.getElem?_eq_getElem (by omega)]; rfl
    · have e := congrArg (fun l : List Value => l[j]?) ht
      rw [usrL_at hj, List.getElem?_take_of_lt hj, Array.getElem?_toList] at e
      show cur[j]?.getD default = _
      rw [e]; rfl
theorem TF.of_row {w : World} {B g n cap : Nat} {f : Nat → Usr} {F : Nat → Value} (h : w.rowIs g 30 (cap * 4) F) (hB : B ≤ g) (hn : n ≤ cap) (hm : cap ≤ maxLen) (hF : ∀ j, j < n * 4 → F j = (f (j / 4)).at (j % 4)) :
    TF w B (.slice (some ⟨g, 0, none⟩) n cap) n f := by
  obtain ⟨cur, hg, hs, hc⟩ := h
  refine ⟨usrL_len _ _, .inr ⟨g, cap, cur, rfl, hB, hg, hn, hm, hs, ?_⟩⟩
  apply List.ext_getElem?
  intro j
  by_cases hj : j < n * 4
  · rw [usrL_at hj, List.getElem?_take_of_lt hj, Array.getElem?_toList, hc j (by omega), hF j hj]
  · rw [List.getElem?_eq_none (by rw [List.length_take]; omega), List.getElem?_eq_none (by rw [usrL_len]; omega)]
theorem run_clear_station (w : World) (ty : TypeId) (b o c : Nat) (hc : ∀ j, j < 4 → (w.cell? ⟨b, o + j, none⟩).isSome = true) (hf : ∀ j, j < 4 → w.frozen? ⟨b, o + j, none⟩ = false) :
    (Builtin.clear_ #[23] ty #[.slice (some ⟨b, o, none⟩) 1 c]).run Try.prog w = .ok (.tuple #[]) (w.setCells b o [.string ⟨#[]⟩, .string ⟨#[]⟩, .int .i64 0, .int .i64 0]) := by
  have hv : ∀ w, (zeroValue 30).run Try.prog w = .ok (.agg #[.string ⟨#[]⟩, .string ⟨#[]⟩, .int .i64 0, .int .i64 0]) w := fun w => by kernel_rfl
  have hzc : (Builtin.zeroCells (Value.agg #[.string ⟨#[]⟩, .string ⟨#[]⟩, .int .i64 0, .int .i64 0]).cells 1).toList = [.string ⟨#[]⟩, .string ⟨#[]⟩, .int .i64 0, .int .i64 0] := by
    simp only [Builtin.zeroCells, Value.cells]
    simp [List.range_succ]
  have hst := run_storeCells_cells (P := Try.prog) b o [.string ⟨#[]⟩, .string ⟨#[]⟩, .int .i64 0, .int .i64 0] 0 w (by simpa using hc) (by simpa using hf) (by
    intro v hv'
    simp at hv'
    rcases hv' with rfl | rfl | rfl | rfl <;> rfl)
  simp only [Nat.add_zero] at hst
  simp [Builtin.clear_, run_underlying (show Try.prog.underlying 23 = some (.slice 30) by kernel_rfl), hv, hzc, hst]
theorem cut3 (w : World) (x : Option Addr) (n cap l h m : Nat) (h1 : l ≤ h) (h2 : h ≤ m) (h3 : m ≤ cap) :
    (Instr.sliceAt 23 (.slice x n cap) (some (.int .i64 (l : Int))) (some (.int .i64 (h : Int))) (some (.int .i64 (m : Int)))).run Try.prog w = .ok (sliced x l h m 4) w := by
  have el : (sizeOf (Try.prog.elem 23)).run Try.prog w = .ok 4 w := by kernel_rfl
  rw [run_sliceAt_slice w 23 _ _ _ _ (by kernel_rfl), run_slice_lhm w 23 _ n cap (by kernel_rfl) .i64 .i64 .i64 _ _ _ (by omega) (by omega) (by omega) (by omega), el]
  rfl
theorem cut2 (w : World) (x : Option Addr) (n cap l h : Nat) (h1 : l ≤ h) (h2 : h ≤ cap) :
    (Instr.sliceAt 23 (.slice x n cap) (some (.int .i64 (l : Int))) (some (.int .i64 (h : Int))) none).run Try.prog w = .ok (sliced x l h cap 4) w := by
  have el : (sizeOf (Try.prog.elem 23)).run Try.prog w = .ok 4 w := by kernel_rfl
  rw [run_sliceAt_slice w 23 _ _ _ _ (by kernel_rfl), run_slice_lh w 23 _ n cap (by kernel_rfl) .i64 .i64 _ _ (by omega) (by omega) (by omega), el]
  rfl
theorem cut1 (w : World) (x : Option Addr) (n cap l : Nat) (h1 : l ≤ n) (h2 : n ≤ cap) :
    (Instr.sliceAt 23 (.slice x n cap) (some (.int .i64 (l : Int))) none none).run Try.prog w = .ok (sliced x l n cap 4) w := by
  have el : (sizeOf (Try.prog.elem 23)).run Try.prog w = .ok 4 w := by kernel_rfl
  rw [run_sliceAt_slice w 23 _ _ _ _ (by kernel_rfl), run_slice_l w 23 _ n cap (by kernel_rfl) .i64 _ (by omega) (by omega), el]
  rfl
theorem cut0 (w : World) (x : Option Addr) (n cap h : Nat) (h1 : h ≤ cap) :
    (Instr.sliceAt 23 (.slice x n cap) none (some (.int .i64 (h : Int))) none).run Try.prog w = .ok (sliced x 0 h cap 4) w := by
  have el : (sizeOf (Try.prog.elem 23)).run Try.prog w = .ok 4 w := by kernel_rfl
  rw [run_sliceAt_slice w 23 _ _ _ _ (by kernel_rfl), run_slice_h w 23 _ n cap (by kernel_rfl) .i64 _ (by omega) (by omega), el]
  rfl
theorem sliced_off (g l h m : Nat) (e : l ≠ m) : sliced (some ⟨g, 0, none⟩) l h m 4 = .slice (some ⟨g, l * 4, none⟩) (h - l) (m - l) := by
  unfold sliced
  rw [if_neg (fun x => e x.symm)]
  congr 1
  show some ((⟨g, 0, none⟩ : Addr).add (l * 4)) = _
  congr 1
  unfold Addr.add
  split
  · rename_i h0
    have : l * 4 = 0 := by simpa using h0
    rw [this]
  · simp
theorem sliced_zero (g h m : Nat) : sliced (some ⟨g, 0, none⟩) 0 h m 4 = .slice (some ⟨g, 0, none⟩) h m := by
  unfold sliced
  split
  · rfl
  · congr 1
theorem grown_setCells (g : Nat) : ∀ (vs : List Value) (o : Nat) (w : World), w.grownBy (w.setCells g o vs) (some g)
  | [], o, w => ⟨rfl, rfl, rfl, Nat.le_refl _, fun _ _ _ => rfl⟩
  | v :: r, o, w => by
    have one : w.grownBy (w.setCell ⟨g, o, none⟩ v) (some g) := ⟨rfl, rfl, rfl, by simp, fun k hk hne => Below.heap_setCell _ _ _ _ (fun e => hne (by rw [e]))⟩
    exact one.trans (grown_setCells g r (o + 1) _)
set_option maxHeartbeats 1600000 in
theorem delete_at (g cap k d B : Nat) (f : Nat → Usr) (w : World) (h : TF w B (.slice (some ⟨g, 0, none⟩) (k + d + 1) cap) (k + d + 1) f) (hn : k + d ≤ 1000) :
    Calls Try.prog 46 #[.slice (some ⟨g, 0, none⟩) (k + d + 1) cap, .int .i64 (k : Int), .int .i64 ((k : Int) + 1)] w fun e w' => e = .returned (.slice (some ⟨g, 0, none⟩) (k + d) cap) ∧ TF w' B (.slice (some ⟨g, 0, none⟩) (k + d) cap) (k + d) (cutU f k) ∧ w.grownBy w' (some g) := by
  obtain ⟨F, hR, hB, hnc, hcm, hF⟩ := h.row
  have hgl := (h.lt g rfl).2
  obtain ⟨news, hnews⟩ : ∃ news, news = usrL d (fun i => f (k + 1 + i)) := ⟨_, rfl⟩
  have hlen : news.length = d * 4 := by rw [hnews, usrL_len]
  have hget : ∀ t, t < d * 4 → news[t]? = some (F ((k + 1) * 4 + t)) := by
    intro t ht
    rw [hnews, usrL_at ht, hF _ (by omega), show ((k + 1) * 4 + t) / 4 = k + 1 + t / 4 by omega, show ((k + 1) * 4 + t) % 4 = t % 4 by omega]
  have c3 := fun w1 => cut3 w1 (some ⟨g, 0, none⟩) (k + d + 1) cap k (k + 1) (k + d + 1) (by omega) (by omega) (by omega)
  have c0 := fun w1 => cut0 w1 (some ⟨g, 0, none⟩) (k + d + 1) cap k (by omega)
  have c1 := fun w1 => cut1 w1 (some ⟨g, 0, none⟩) (k + d + 1) cap (k + 1) (by omega) (by omega)
  have c2 := fun w1 => cut2 w1 (some ⟨g, 0, none⟩) (k + d) cap (k + d) (k + d + 1) (by omega) (by omega)
  obtain ⟨X3, hX3⟩ : ∃ X, sliced (some ⟨g, 0, none⟩) k (k + 1) (k + d + 1) 4 = X := ⟨_, rfl⟩
  have hA : ∃ (A : Addr) (c : Nat), sliced (some ⟨g, 0, none⟩) (k + 1) (k + d + 1) cap 4 = .slice (some A) d c ∧ Hid (∀ t u, news[t]? = some u → w.drew.cell? (A.add t) = some u) := by
    by_cases e : k + 1 = cap
    · refine ⟨⟨g, 0, none⟩, cap - (k + 1), ?_, Lib.hid (fun t u hu => ?_)⟩
      · unfold sliced
        rw [if_pos e.symm, show k + d + 1 - (k + 1) = d by omega]
      · have h0 : news.length = 0 := by rw [hlen]; omega
        rw [List.length_eq_zero_iff.1 h0] at hu
        simp at hu
    · refine ⟨⟨g, (k + 1) * 4, none⟩, cap - (k + 1), ?_, Lib.hid (fun t u hu => ?_)⟩
      · rw [sliced_off _ _ _ _ e, show k + d + 1 - (k + 1) = d by omega]
      · have ht : t < d * 4 := by
          have := (List.getElem?_eq_some_iff.1 hu).1
          rwa [hlen] at this
        rw [hget t ht] at hu
        injection hu with hu
        subst hu
        rw [show (⟨g, (k + 1) * 4, none⟩ : Addr).add t = ⟨g, (k + 1) * 4 + t, none⟩ by unfold Addr.add; split <;> simp_all]
        exact hR.cell (by omega)
  obtain ⟨A, CA, hAs, hsrc⟩ := hA
  rw [hX3] at c3
  rw [hAs] at c1
  rw [sliced_zero] at c0
  rw [sliced_off _ _ _ _ (by omega : k + d ≠ cap), show k + d + 1 - (k + d) = 1 by omega] at c2
  simp only [show (((k + 1 : Nat)) : Int) = (k : Int) + 1 by omega] at c1 c3
  have s1 : Hid (news.length = d * 4) := hlen
  have s2 : Hid (∀ u ∈ news, u.oneCell' = true) := by
    intro u hu
    rw [hnews] at hu
    unfold usrL at hu
    simp at hu
    obtain ⟨j, _, rfl⟩ := hu
    exact usr_at_cell _ _
  have hRd : w.drew.rowIs g 30 (cap * 4) F := hR
  have s3 : Hid (∀ t, t < news.length → (w.drew.cell? ⟨g, 0 + k * 4 + t, none⟩).isSome = true ∧ w.drew.frozen? ⟨g, 0 + k * 4 + t, none⟩ = false) := by
    intro t ht
    rw [hlen] at ht
    exact ⟨by rw [hRd.cell (by omega)]; rfl, hRd.frozen _⟩
  obtain ⟨i0, hi0, hzz⟩ := Option.map_eq_some_iff.1 station_info
  simp only [Prod.mk.injEq] at hzz
  obtain ⟨-, hsz, -⟩ := hzz
  obtain ⟨W1, hW1⟩ : ∃ W1, W1 = w.drew.setCells g (0 + k * 4) news := ⟨_, rfl⟩
  have R1 := rowIs_setCells news (0 + k * 4) w.drew F hRd
  rw [← hW1] at R1
  have G1 : w.grownBy W1 (some g) := by rw [hW1]; exact (show w.grownBy w.drew (some g) from ⟨rfl, rfl, rfl, Nat.le_refl _, fun _ _ _ => rfl⟩).trans (grown_setCells g _ _ _)
  have hcl : ∀ ty, (Builtin.clear_ #[23] ty #[.slice (some ⟨g, (k + d) * 4, none⟩) 1 (cap - (k + d))]).run Try.prog W1 = .ok (.tuple #[]) (W1.setCells g ((k + d) * 4) [.string ⟨#[]⟩, .string ⟨#[]⟩, .int .i64 0, .int .i64 0]) :=
    fun ty => run_clear_station W1 ty g ((k + d) * 4) _ (fun j hj => by rw [R1.cell (by omega)]; rfl) (fun j hj => R1.frozen _)
  have R2 := rowIs_setCells [.string ⟨#[]⟩, .string ⟨#[]⟩, .int .i64 0, .int .i64 0] ((k + d) * 4) W1 _ R1
  have G2 := G1.trans (grown_setCells g [.string ⟨#[]⟩, .string ⟨#[]⟩, .int .i64 0, .int .i64 0] ((k + d) * 4) W1)
  have FIN : Hid (TF (W1.setCells g ((k + d) * 4) [.string ⟨#[]⟩, .string ⟨#[]⟩, .int .i64 0, .int .i64 0]) B (.slice (some ⟨g, 0, none⟩) (k + d) cap) (k + d) (cutU f k)) := Lib.hid (TF.of_row R2 hB (by omega) hcm (fun j hj => by
    simp only [List.length_cons, List.length_nil]
    rw [if_neg (by omega)]
    unfold cutU
    by_cases e : j / 4 < k
    · rw [if_neg (by omega), if_pos e]
      exact hF j (by omega)
    · rw [if_pos (by rw [hlen]; omega), if_neg e, hget _ (by omega)]
      show F _ = _
      rw [hF _ (by omega), show ((k + 1) * 4 + (j - (0 + k * 4))) / 4 = j / 4 + 1 by omega, show ((k + 1) * 4 + (j - (0 + k * 4))) % 4 = j % 4 by omega]))
  have GG := Lib.hid G2
  have hW : Hid (W1 = w.drew.setCells g (0 + k * 4) news) := hW1
  have hkc : k ≤ cap := by omega
  have hroom : k + d ≤ cap := by omega
  have hne : ((k : Int) == (k : Int) + 1) = false := by simp; omega
  have HSZ := Lib.hid hsz
  have HI0 := Lib.hid hi0
  have CS := Lib.hid hsrc.out
  clear hW1 R1 R2 G1 G2 hR hRd hget hnews hlen hF h hX3 hAs hsz hi0 hsrc
  go_enter Try.func46, Try.ntmps46
  go_wp2_with fail
  go_region_law (refine step_append_room rfl (.tmp 22) (.tmp 25) 23 rfl 30 i0 4 (by kernel_rfl) HI0.out HSZ.out g 0 k cap (by simp [Act.eval, Act.put]) A d CA news (by simp [Act.eval, Act.put]) s1.out CS.out s2.out hroom s3.out ?_; rw [← hW.out])
  go_wp2
  go_ret
  exact ⟨rfl, FIN.out, GG.out⟩
end Go.Proofs.Ytjnipbopimpggab
