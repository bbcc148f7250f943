/- The laws' marks on slices of strings: markText, markStringS, heldStringS. -/
import Derived.Test.YtdafepfjjmdkeaaDoorStrs
import Derived.Test.YtdafepfjjmdkeaaDoorSeqFun
import Derived.Deep.RegionHeld3
namespace Go.Proofs.YtdafepfjjmdkeaaDoor
open Go.RowKit
set_option linter.unusedVariables false
def digT : Nat → Nat → ByteArray → ByteArray
  | 0, _, s => s
  | n + 1, k, s => if k = 0 then s else digT n (k / 10) (strF 1 (fun _ => 48 + k % 10) ++ s)
/-- The mark of a number. -/
def mkT (k : Nat) : ByteArray := (⟨#[109]⟩ : ByteArray) ++ digT 9 k ⟨#[]⟩
set_option maxRecDepth 100000 in
theorem markText_any (k : Nat) (w : World) (h0 : 1 ≤ k) (hk : k ≤ 100000000) :
    Calls Tryd.prog 32 #[.int .i64 k] w fun e w' => e = .returned (.string (mkT k)) ∧ Below w.heap.size w w' := by
  obtain ⟨Z, hZ⟩ : ∃ Z, digT 9 k ⟨#[]⟩ = Z := ⟨_, rfl⟩
  have HM : Hid (mkT k = (⟨#[109]⟩ : ByteArray) ++ Z) := Lib.hid (by unfold mkT; rw [hZ])
  have HZ := Lib.hid hZ
  clear hZ
  go_enter Tryd.func32, Tryd.ntmps32
  go_wp2
  go_loopw [0, 3] (fun q s wr => ∃ (c m : Nat) (z : ByteArray), c ≤ 9 ∧ q = .int .i64 m ∧ s = .string z ∧ m < 10 ^ c ∧ z.size ≤ 9 - c ∧ Hid (digT c m z = Z) ∧ Below w.heap.size w wr) (fun q _ _ => (intOf q).toNat)
  case atStart => exact ⟨9, k, ⟨#[]⟩, by omega, rfl, rfl, by omega, by decide, HZ, Below.refl _ _⟩
  case round =>
    obtain ⟨c, m, z, hc, rfl, rfl, hm, hz, rI, rb⟩ := hrel
    by_cases hm0 : m = 0
    · subst hm0
      have HE : Hid (z = Z) := Lib.hid (by
        rw [← rI.out]
        cases c with
        | zero => rfl
        | succ c => simp [digT])
      clear rI hm
      go_wp2
      go_ret
      exact ⟨ret_str (by rw [HM.out, HE.out]), rb⟩
    · obtain ⟨c, rfl⟩ : ∃ c', c = c' + 1 := ⟨c - 1, by
        rcases Nat.eq_zero_or_pos c with h | h
        · subst h; omega
        · omega⟩
      have hstep : digT (c + 1) m z = digT c (m / 10) (strF 1 (fun _ => 48 + m % 10) ++ z) := by simp only [digT]; rw [if_neg hm0]
      have hI := rI.out
      rw [hstep] at hI
      have hdiv : m / 10 < 10 ^ c := by rw [Nat.pow_succ] at hm; omega
      have hm9 : m < 1000000000 := Nat.lt_of_lt_of_le hm (Nat.pow_le_pow_right (n := 10) (by omega) (by omega : c + 1 ≤ 9))
      obtain ⟨V, hV⟩ : ∃ V, 48 + m % 10 = V := ⟨_, rfl⟩
      have v1 : (48 : Int) + (m : Int) % 10 = (V : Int) := by omega
      have v2 : IntKind.u8.wrap (V : Int) = (V : Int) := IntWalk.u8_in _ (by omega)
      have hB : Bytes (wr.alloc (.cells #[.int .u8 (V : Nat)] 5)) wr.heap.size 5 1 (fun _ => V) := World.rowIs_alloc wr #[.int .u8 (V : Nat)] 5 _ (fun i hi => by
        obtain rfl : i = 0 := by simp at hi; omega
        rfl)
      have hst := fun cap => hB.str (P := Tryd.prog) 31 5 9 (by kernel_rfl) (by kernel_rfl) (by kernel_rfl) 0 1 cap (by omega)
      rw [hV] at hI
      obtain ⟨y, hy⟩ : ∃ y, strF 1 (fun _ => V) = y := ⟨_, rfl⟩
      have hys : y.size = 1 := by rw [← hy]; exact strF_size _ _
      rw [hy] at hst hI
      have hsum : y.size + z.size ≤ 9223372036854775807 := by omega
      have hz2 : (y ++ z).size ≤ 9 - c := by rw [ByteArray.size_append, hys]; omega
      have HI := Lib.hid hI
      have HZ2 := Lib.hid hz2
      have HD := Lib.hid hdiv
      have b1 := rb.alloc rb.size (.cells #[.int .u8 (V : Nat)] 5)
      have HMl : Hid (m / 10 < m) := Lib.hid (by omega)
      clear hstep hI hdiv hV hB hy hz2 rI rb hys hm
      go_wp2
      clear v1 v2 hst
      go_roundw
      case rel => exact ⟨c, m / 10, y ++ z, by omega, by go_num, rfl, HD.out, HZ2.out, HI, b1⟩
      case measure => have := HMl.out; simp [intOf]; omega
set_option maxRecDepth 100000 in
theorem markStringS_any (v : Value) (B n : Nat) (f : Nat → ByteArray) (w : World) (hv : SF w B v n f) (hn : n ≤ 1000000) (hB : B ≤ w.heap.size) :
    Calls Tryd.prog 15 #[v, .int .i64 1] w fun e w' => e = .returned (.int .i64 (1 + (n : Int))) ∧ SF w' B v n (fun j => mkT (1 + j)) ∧ Below B w w' := by
  obtain ⟨a, cap, rfl, ha⟩ := hv.form
  have HV := Lib.hid hv
  have HG : Hid (∀ i, i < n → ∃ g, a = some ⟨g, 0, none⟩ ∧ B ≤ g) := Lib.hid (fun i hi => by
    obtain ⟨g, e, h1, _⟩ := ha (by omega)
    exact ⟨g, e, h1⟩)
  clear hv ha
  go_enter Tryd.func15, Tryd.ntmps15
  go_wp2
  go_loopw [5, 1] (fun i q wr => ∃ k : Nat, k ≤ n ∧ i = .int .i64 k ∧ q = .int .i64 (1 + (k : Int)) ∧ SF wr B (.slice a n cap) n (fun j => if j < k then mkT (1 + j) else f j) ∧ Below B w wr) (fun i _ _ => n - (intOf i).toNat)
  case atStart => exact ⟨0, by omega, rfl, rfl, HV.out.congr (fun j _ => by simp), Below.refl _ _⟩
  case round =>
    obtain ⟨k, hk, rfl, rfl, rO, rb⟩ := hrel
    by_cases hlt : k < n
    · obtain ⟨g, rfl, hBg⟩ := HG.out k hlt
      have hM := fun w => markText_any (1 + k) w (by omega) (by omega)
      rw [show ((1 + k : Nat) : Int) = 1 + (k : Int) by omega] at hM
      obtain ⟨y, hy⟩ : ∃ y, mkT (1 + k) = y := ⟨_, rfl⟩
      rw [hy] at hM
      have HM := Lib.hid hM
      have HY := Lib.hid hy
      clear hM hy
      go_wp2_with fail
      refine (HM.out _).mono ?_
      rintro e w1 ⟨rfl, hb⟩
      have O1 := rO.below hb
      have b1 : Below B w w1 := rb.trans (hb.mono (Nat.le_trans hB rb.size))
      clear rO rb hb
      obtain ⟨c1, c2⟩ := O1.at k hlt
      have i0 : (0 : Int) ≤ (k : Int) := by omega
      have i1 : (k : Int) < (n : Int) := by omega
      have nO : Hid (SF (w1.setCell ⟨g, k, none⟩ (.string y)) B (.slice (some ⟨g, 0, none⟩) n cap) n (fun j => if j < k + 1 then mkT (1 + j) else f j)) :=
        Lib.hid (O1.set k y hlt (fun j hj => by
          by_cases e : j = k
          · subst e; rw [if_pos (by omega), if_pos rfl]; exact HY.out
          · rw [if_neg e]
            by_cases e' : j < k
            · rw [if_pos (by omega), if_pos e']
            · rw [if_neg (by omega), if_neg e']))
      have nb : Hid (Below B w (w1.setCell ⟨g, k, none⟩ (.string y))) := Lib.hid (b1.setCell (p := ⟨g, k, none⟩) hBg _)
      clear O1 b1
      go_wp2
      go_roundw
      case rel => exact ⟨k + 1, by omega, by go_num, by go_num, nO.out, nb.out⟩
      case measure => simp [intOf]; omega
    · obtain rfl : k = n := by omega
      have nO := Lib.hid (rO.congr (g := fun j => mkT (1 + j)) (fun j hj => by rw [if_pos hj]))
      clear rO
      go_wp2
      go_ret
      exact ⟨rfl, nO.out, rb⟩
set_option maxHeartbeats 1600000 in
set_option maxRecDepth 100000 in
theorem heldStringS_any (v : Value) (B n : Nat) (w : World) (hv : SF w B v n (fun j => mkT (1 + j))) (hn : n ≤ 1000000) :
    Calls Tryd.prog 16 #[v, .int .i64 1] w fun e w' => e = .returned (.int .i64 (1 + (n : Int))) ∧ Below w.heap.size w w' := by
  obtain ⟨a, cap, rfl, ha⟩ := hv.form
  have HC : Hid (∀ i, i < n → ∃ g, a = some ⟨g, 0, none⟩ ∧ g < w.heap.size ∧ w.cell? ⟨g, i, none⟩ = some (.string (mkT (1 + i)))) := Lib.hid (fun i hi => by
    obtain ⟨g, e, _, h2, h3⟩ := ha (by omega)
    exact ⟨g, e, h2, (h3 i hi).1⟩)
  clear hv ha
  go_enter Tryd.func16, Tryd.ntmps16
  go_wp2
  go_loopw [5, 1] (fun i q wr => ∃ k : Nat, k ≤ n ∧ i = .int .i64 k ∧ q = .int .i64 (1 + (k : Int)) ∧ Below w.heap.size w wr) (fun i _ _ => n - (intOf i).toNat)
  case atStart => exact ⟨0, by omega, rfl, rfl, Below.refl _ _⟩
  case round =>
    obtain ⟨k, hk, rfl, rfl, rb⟩ := hrel
    by_cases hlt : k < n
    · obtain ⟨g, rfl, hgl, hcc⟩ := HC.out k hlt
      have c0 : wr.cell? ⟨g, k, none⟩ = some (.string (mkT (1 + k))) := (rb.cell (p := ⟨g, k, none⟩) hgl).trans hcc
      have hgl2 : g < wr.heap.size := Nat.lt_of_lt_of_le hgl rb.size
      have hM := fun w => markText_any (1 + k) w (by omega) (by omega)
      rw [show ((1 + k : Nat) : Int) = 1 + (k : Int) by omega] at hM
      obtain ⟨y, hy⟩ : ∃ y, mkT (1 + k) = y := ⟨_, rfl⟩
      rw [hy] at hM c0
      have HM := Lib.hid hM
      have i0 : (0 : Int) ≤ (k : Int) := by omega
      have i1 : (k : Int) < (n : Int) := by omega
      clear hM hy hcc
      have r0 := Below.refl wr.heap.size wr
      go_wp2_with fail
      go_region_held3 (fun wx => Below wr.heap.size wr wx ∧ wx.cell? ⟨g, k, none⟩ = some (.string y)) (first | exact ⟨c50, c51⟩ | exact ⟨r0.drew, c0⟩) (first | (go_at_call 32; refine (HM.out _).mono ?_; rintro e w5 ⟨rfl, hB⟩; have c50 := below_then r0.drew (Nat.le_refl _) hB; have c51 : w5.cell? ⟨g, k, none⟩ = some (.string y) := (c50.cell (p := ⟨g, k, none⟩) hgl2).trans c0))
      all_goals
        go_wp2
        go_roundw
        case rel => exact ⟨k + 1, by omega, by go_num, by go_num, below_then rb (Nat.le_refl _) c50⟩
        case measure => simp [intOf]; omega
    · obtain rfl : k = n := by omega
      go_wp2
      go_ret
      exact ⟨rfl, rb⟩
end Go.Proofs.YtdafepfjjmdkeaaDoor
