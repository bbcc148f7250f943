/- Cells: CellValid of both sides. -/
import Derived.Test.YtjnipbopimpggabCel2
import Derived.Test.YtjnipbopimpggabStn
namespace Go.Proofs.Ytjnipbopimpggab
open Go.RowKit
set_option linter.unusedVariables false
set_option maxRecDepth 100000
def Usr.stn (u : Usr) : Bool := stnB u.code u.data u.gain u.delay
/-- Two stations that cannot stand in one cell. -/
def clashB (u v : Usr) : Bool := (u.code.toList == v.code.toList) || begB u.data v.data
theorem toList_all (s : ByteArray) : s.extract 0 s.size = s := by
  apply ba_ext (by rw [size_extract _ _ _ (Nat.le_refl _)]; omega)
  intro i hi
  rw [size_extract _ _ _ (Nat.le_refl _)] at hi
  rw [zb_extract s 0 s.size i (Nat.le_refl _) (by omega), Nat.zero_add]
theorem begB_comm (p q : ByteArray) : begB p q = begB q p := by
  unfold begB
  by_cases h1 : p.size ≤ q.size
  · by_cases h2 : q.size ≤ p.size
    · have e : p.size = q.size := by omega
      rw [if_pos h1, if_pos h2]
      rw [e, toList_all, ← e, toList_all]
      exact BEq.comm
    · rw [if_pos h1, if_neg h2]; exact BEq.comm
  · rw [if_neg h1, if_pos (by omega)]; exact BEq.comm
theorem clash_comm (u v : Usr) : clashB u v = clashB v u := by
  unfold clashB; rw [begB_comm]; congr 1; exact BEq.comm
/-- Does none of the first m stations clash with station i? -/
def freeN (f : Nat → Usr) (i : Nat) : Nat → Bool
  | 0 => true
  | m + 1 => freeN f i m && !(clashB (f m) (f i))
def celN (f : Nat → Usr) : Nat → Bool
  | 0 => true
  | k + 1 => celN f k && ((f k).stn && freeN f k k)
def cellB (n : Nat) (f : Nat → Usr) : Bool := celN f n && decide (n ≤ 8)
theorem freeN_bad {f : Nat → Usr} {i m : Nat} (h : clashB (f m) (f i) = true) : ∀ n, m < n → freeN f i n = false
  | 0, hk => absurd hk (Nat.not_lt_zero m)
  | n + 1, hk => by
    simp only [freeN]
    by_cases e : m = n
    · rw [← e, h]; simp
    · rw [freeN_bad h n (by omega)]; rfl
theorem celN_bad {f : Nat → Usr} {k : Nat} (h : ((f k).stn && freeN f k k) = false) : ∀ n, k < n → celN f n = false
  | 0, hk => absurd hk (Nat.not_lt_zero k)
  | n + 1, hk => by
    simp only [celN]
    by_cases e : k = n
    · rw [← e, h, Bool.and_false]
    · rw [celN_bad h n (by omega)]; rfl
theorem celN_at {f : Nat → Usr} {k : Nat} : ∀ n, celN f n = true → k < n → (f k).stn = true
  | 0, _, hk => absurd hk (Nat.not_lt_zero k)
  | n + 1, h, hk => by
    simp only [celN, Bool.and_eq_true] at h
    by_cases e : k = n
    · rw [e]; exact h.2.1
    · exact celN_at n h.1 (by omega)
theorem cell_long {n : Nat} {f : Nat → Usr} (h : ¬ n ≤ 8) : false = cellB n f := by unfold cellB; rw [decide_eq_false h, Bool.and_false]
theorem cell_stn {n k : Nat} {f : Nat → Usr} (hk : k < n) (h : (f k).stn = false) : false = cellB n f := by unfold cellB; rw [celN_bad (by rw [h]; rfl) n hk]; rfl
theorem cell_clash {n k m : Nat} {f : Nat → Usr} (hk : k < n) (hm : m < k) (h : clashB (f m) (f k) = true) : false = cellB n f := by
  unfold cellB; rw [celN_bad (by rw [freeN_bad h k hm, Bool.and_false]) n hk]; rfl
theorem cell_all {n : Nat} {f : Nat → Usr} (h : celN f n = true) : decide (n ≤ 8) = cellB n f := by unfold cellB; rw [h]; rfl
theorem clash_name {u v : Usr} (h : (u.code.toList == v.code.toList) = true) : clashB u v = true := by unfold clashB; rw [h]; rfl
theorem clash_path {u v : Usr} (h : (u.code.toList == v.code.toList) = false) : clashB u v = begB u.data v.data := by unfold clashB; rw [h]; rfl
theorem headT {w : World} {a : Option Addr} {n cap : Nat} {f : Nat → Usr} (h : UsrsC w (.slice a n cap) n f) (m : Nat) (hm : m ≤ n) :
    ∀ w1, (Instr.sliceAt 23 (.slice a n cap) none (some (.int .i64 (m : Int))) none).run Try.prog w1 = .ok (.slice a m cap) w1 := by
  obtain ⟨a', cap', e, ⟨hcap, -⟩, hc⟩ := h
  injection e with e1 e2 e3
  subst e1 e3
  intro w1
  have el : (sizeOf (Try.prog.elem 23)).run Try.prog w1 = .ok 4 w1 := by kernel_rfl
  rw [run_sliceAt_slice w1 23 _ _ _ _ (by kernel_rfl), run_slice_h w1 23 a n cap (by kernel_rfl) .i64 _ (by omega) (by omega), el]
  simp [Result.andThen, sliced]
  intro _
  cases a with
  | none => rfl
  | some x =>
    show some (x.add 0) = some x
    congr 1
end Go.Proofs.Ytjnipbopimpggab
