/- Stations by value, and slices of them: the laws' helpers. -/
import Derived.Test.YtjnipbopimpggabUsr0
import Derived.Test.YtjnipbopimpggabStrs2
import Derived.Test.YtjnipbopimpggabSsStr
namespace Go.Proofs.Ytjnipbopimpggab
open Go.RowKit
set_option linter.unusedVariables false
set_option maxRecDepth 100000
/-- A slice of n stations of a call's own: element i is f i. -/
def TF (w : World) (B : Nat) (v : Value) (n : Nat) (f : Nat → Usr) : Prop := w.ownsRow B 30 4 v n (usrL n f)
theorem TF.congr {w : World} {B : Nat} {v : Value} {n : Nat} {f g : Nat → Usr} (h : TF w B v n f) (e : ∀ i, i < n → f i = g i) : TF w B v n g := by
  unfold TF at h ⊢
  rw [← usrL_congr e]; exact h
theorem TF.kept {w w' : World} {B : Nat} {v : Value} {n : Nat} {f : Nat → Usr} {row : Option Nat} (h : TF w B v n f) (hg : w.grownBy w' row) (hne : v.ownBlock = none ∨ v.ownBlock ≠ row) : TF w' B v n f := World.ownsRow.kept h hg hne
theorem TF.lt {w : World} {B : Nat} {v : Value} {n : Nat} {f : Nat → Usr} (h : TF w B v n f) : ∀ k, v.ownBlock = some k → B ≤ k ∧ k < w.heap.size := World.ownsRow.lt h
theorem TF.below {w w' : World} {B : Nat} {v : Value} {n : Nat} {f : Nat → Usr} (h : TF w B v n f) (hb : Below w.heap.size w w') : TF w' B v n f :=
  h.kept (grown_of_below hb) (by cases v.ownBlock <;> simp)
theorem TF.drewN {w : World} {B : Nat} {v : Value} {n : Nat} {f : Nat → Usr} (h : TF w B v n f) (m : Nat) : TF (w.drewN m) B v n f := h.below (below_drewN (Below.refl _ _) m)
theorem TF.alloc {w : World} {B : Nat} {v : Value} {n : Nat} {f : Nat → Usr} (h : TF w B v n f) (o : Obj) : TF (w.alloc o) B v n f := World.ownsRow.alloc h o
theorem TF.mono {w : World} {B C : Nat} {v : Value} {n : Nat} {f : Nat → Usr} (h : TF w B v n f) (hC : C ≤ B) : TF w C v n f := by
  obtain ⟨h1, ⟨rfl, rfl⟩ | ⟨g, cap, cur, rfl, hB, hg, hn, hm, hs, ht⟩⟩ := h
  · exact ⟨h1, .inl ⟨rfl, rfl⟩⟩
  · exact ⟨h1, .inr ⟨g, cap, cur, rfl, Nat.le_trans hC hB, hg, hn, hm, hs, ht⟩⟩
theorem TF.form {w : World} {B : Nat} {v : Value} {n : Nat} {f : Nat → Usr} (h : TF w B v n f) : ∃ a cap, v = .slice a n cap ∧ (0 < n → ∃ g, a = some ⟨g, 0, none⟩ ∧ B ≤ g ∧ g < w.heap.size) := by
  obtain ⟨h1, ⟨rfl, rfl⟩ | ⟨g, cap, cur, rfl, hB, hg, hn, hm, hs, ht⟩⟩ := h
  · exact ⟨none, 0, rfl, fun h => absurd h (Nat.lt_irrefl 0)⟩
  · exact ⟨_, cap, rfl, fun _ => ⟨g, rfl, hB, (Array.getElem?_eq_some_iff.1 hg).1⟩⟩
theorem TF.cells {w : World} {B g n cap : Nat} {f : Nat → Usr} (h : TF w B (.slice (some ⟨g, 0, none⟩) n cap) n f) (i : Nat) (hi : i < n) : UsrCells w g (i * 4) (f i) := by
  have c := fun (j : Nat) (hj : j < 4) => (World.ownsRow.cellAt h (i * 4 + j) (by omega)).trans (usrL_cell hi hj)
  exact ⟨c 0 (by omega), c 1 (by omega), c 2 (by omega), c 3 (by omega)⟩
theorem TF.free {w : World} {B g n cap : Nat} {f : Nat → Usr} (h : TF w B (.slice (some ⟨g, 0, none⟩) n cap) n f) (j : Nat) : w.frozen? ⟨g, j, none⟩ = false := World.ownsRow.frozenAt h j
theorem TF.stations {w : World} {B : Nat} {v : Value} {n : Nat} {f : Nat → Usr} (h : TF w B v n f) : UsrsR w v n f := by
  obtain ⟨a, cap, rfl, hc⟩ := h.form
  refine ⟨a, cap, rfl, fun i hi => ?_⟩
  obtain ⟨g, rfl, _, hl⟩ := hc (by omega)
  exact ⟨g, 0, rfl, hl, by have := h.cells i hi; rwa [Nat.zero_add]⟩
theorem TF.stationsC {w : World} {B : Nat} {v : Value} {n : Nat} {f : Nat → Usr} (h : TF w B v n f) : UsrsC w v n f := by
  obtain ⟨h1, ⟨rfl, rfl⟩ | ⟨g, cap, cur, rfl, hB, hg, hn, hm, hs, ht⟩⟩ := id h
  · exact ⟨none, 0, rfl, ⟨Nat.le_refl _, fun _ => ⟨rfl, rfl⟩⟩, fun i hi => absurd hi (Nat.not_lt_zero i)⟩
  · exact ⟨_, cap, rfl, ⟨hn, fun e => by cases e⟩, fun i hi => ⟨g, 0, rfl, (Array.getElem?_eq_some_iff.1 hg).1, by have := h.cells i hi; rwa [Nat.zero_add]⟩⟩
theorem TF.made (w : World) (n : Nat) (hm : n ≤ 1048576) : TF (w.alloc (.cells (madeCells #[.string ⟨#[]⟩, .string ⟨#[]⟩, .int .i64 0, .int .i64 0] (n * 4)) 30)) w.heap.size (.slice (some ⟨w.heap.size, 0, none⟩) n n) n (fun _ => ⟨⟨#[]⟩, ⟨#[]⟩, 0, 0⟩) := by
  have hs : (madeCells #[Value.string ⟨#[]⟩, .string ⟨#[]⟩, .int .i64 0, .int .i64 0] (n * 4)).size = n * 4 := size_madeCells _ _
  refine ⟨usrL_len _ _, .inr ⟨w.heap.size, n, madeCells #[.string ⟨#[]⟩, .string ⟨#[]⟩, .int .i64 0, .int .i64 0] (n * 4), rfl, Nat.le_refl _, ?_, Nat.le_refl _, by unfold maxLen; omega, hs, ?_⟩⟩
  · show (w.heap.push _)[w.heap.size]? = _
    simp
  · rw [List.take_of_length_le (by rw [Array.length_toList, hs]; omega)]
    apply List.ext_getElem?
    intro t
    by_cases ht : t < n * 4
    · rw [usrL_at ht]
      have hj : t % 4 = 0 ∨ t % 4 = 1 ∨ t % 4 = 2 ∨ t % 4 = 3 := by omega
      rcases hj with e | e | e | e <;> simp [madeCells, Usr.at, e, ht]
    · rw [List.getElem?_eq_none (by rw [Array.length_toList, hs]; omega), List.getElem?_eq_none (by rw [usrL_len]; omega)]
theorem make_stations (n : Nat) (h : n ≤ 1048576) (w : World) :
    (Instr.makeSlice 23 (.int .i64 (n : Int)) (.int .i64 (n : Int))).run Try.prog w = .ok (.slice (some ⟨w.heap.size, 0, none⟩) n n) (w.alloc (.cells (madeCells #[.string ⟨#[]⟩, .string ⟨#[]⟩, .int .i64 0, .int .i64 0] (n * 4)) 30)) := by
  obtain ⟨i0, hi, hzz⟩ := Option.map_eq_some_iff.1 (show (Try.prog.info? 30).map (fun i => (i.zero, i.size, i.bytes)) = some (some (.agg #[.string ⟨#[]⟩, .string ⟨#[]⟩, .int .i64 0, .int .i64 0]), 4, 48) by kernel_rfl)
  simp only [Prod.mk.injEq] at hzz
  obtain ⟨hz, hsz, hby⟩ := hzz
  have hr := run_make (P := Try.prog) w 23 30 i0 _ (by kernel_rfl) hi hz .i64 .i64 (n : Int) (n : Int) (by omega) (by omega) (by rw [hby]; omega) (by omega)
  simp only [Int.toNat_natCast, hsz] at hr
  exact hr
theorem TF.set {w : World} {B g cap n : Nat} {f : Nat → Usr} (h : TF w B (.slice (some ⟨g, 0, none⟩) n cap) n f) (p : Nat) (y : Value) (f' : Nat → Usr)
    (e : ∀ t, t < n * 4 → (f' (t / 4)).at (t % 4) = if t = p then y else (f (t / 4)).at (t % 4)) : TF (w.setCell ⟨g, p, none⟩ y) B (.slice (some ⟨g, 0, none⟩) n cap) n f' := by
  have := (World.ownsRow.stored h p y).1
  rw [usrL_set e] at this
  exact this
theorem TF.set0 {w : World} {B g cap n : Nat} {f : Nat → Usr} (h : TF w B (.slice (some ⟨g, 0, none⟩) n cap) n f) (k : Nat) (y : ByteArray) : TF (w.setCell ⟨g, k * 4, none⟩ (.string y)) B (.slice (some ⟨g, 0, none⟩) n cap) n (upU f k ⟨y, (f k).data, (f k).gain, (f k).delay⟩) :=
  h.set (k * 4) _ _ (fun t _ => by
    have := upd_at (f := f) (f' := upU f k ⟨y, (f k).data, (f k).gain, (f k).delay⟩) (k := k) (j := 0) (y := .string y) (by omega) (fun i hi => upU_ne hi) (by rw [upU_eq]; rfl) (fun t h1 h2 => by
      rw [upU_eq]
      have : t = 1 ∨ t = 2 ∨ t = 3 := by omega
      rcases this with rfl | rfl | rfl <;> rfl) t
    simpa using this)
theorem TF.set1 {w : World} {B g cap n : Nat} {f : Nat → Usr} (h : TF w B (.slice (some ⟨g, 0, none⟩) n cap) n f) (k : Nat) (y : ByteArray) : TF (w.setCell ⟨g, k * 4 + 1, none⟩ (.string y)) B (.slice (some ⟨g, 0, none⟩) n cap) n (upU f k ⟨(f k).code, y, (f k).gain, (f k).delay⟩) :=
  h.set (k * 4 + 1) _ _ (fun t _ => upd_at (k := k) (j := 1) (by omega) (fun i hi => upU_ne hi) (by rw [upU_eq]; rfl) (fun t h1 h2 => by
      rw [upU_eq]
      have : t = 0 ∨ t = 2 ∨ t = 3 := by omega
      rcases this with rfl | rfl | rfl <;> rfl) t)
theorem TF.set2 {w : World} {B g cap n : Nat} {f : Nat → Usr} (h : TF w B (.slice (some ⟨g, 0, none⟩) n cap) n f) (k : Nat) (y : Int) : TF (w.setCell ⟨g, k * 4 + 2, none⟩ (.int .i64 y)) B (.slice (some ⟨g, 0, none⟩) n cap) n (upU f k ⟨(f k).code, (f k).data, y, (f k).delay⟩) :=
  h.set (k * 4 + 2) _ _ (fun t _ => upd_at (k := k) (j := 2) (by omega) (fun i hi => upU_ne hi) (by rw [upU_eq]; rfl) (fun t h1 h2 => by
      rw [upU_eq]
      have : t = 0 ∨ t = 1 ∨ t = 3 := by omega
      rcases this with rfl | rfl | rfl <;> rfl) t)
theorem TF.set3 {w : World} {B g cap n : Nat} {f : Nat → Usr} (h : TF w B (.slice (some ⟨g, 0, none⟩) n cap) n f) (k : Nat) (y : Int) : TF (w.setCell ⟨g, k * 4 + 3, none⟩ (.int .i64 y)) B (.slice (some ⟨g, 0, none⟩) n cap) n (upU f k ⟨(f k).code, (f k).data, (f k).gain, y⟩) :=
  h.set (k * 4 + 3) _ _ (fun t _ => upd_at (k := k) (j := 3) (by omega) (fun i hi => upU_ne hi) (by rw [upU_eq]; rfl) (fun t h1 h2 => by
      rw [upU_eq]
      have : t = 0 ∨ t = 1 ∨ t = 2 := by omega
      rcases this with rfl | rfl | rfl <;> rfl) t)
theorem TF.put {w : World} {B g cap n : Nat} {f : Nat → Usr} (h : TF w B (.slice (some ⟨g, 0, none⟩) n cap) n f) (k : Nat) (c d : ByteArray) (x y : Int) :
    TF ((((w.setCell ⟨g, k * 4, none⟩ (.string c)).setCell ⟨g, k * 4 + 1, none⟩ (.string d)).setCell ⟨g, k * 4 + 2, none⟩ (.int .i64 x)).setCell ⟨g, k * 4 + 3, none⟩ (.int .i64 y)) B (.slice (some ⟨g, 0, none⟩) n cap) n (upU f k ⟨c, d, x, y⟩) := by
  have := (((h.set0 k c).set1 k d).set2 k x).set3 k y
  simp only [upU_eq, upU_up] at this
  exact this
end Go.Proofs.Ytjnipbopimpggab
