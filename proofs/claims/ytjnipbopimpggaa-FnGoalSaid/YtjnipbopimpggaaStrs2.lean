/- The laws' marks on slices of strings: markText, markStringS, heldStringS. -/
import Derived.Test.YtjnipbopimpggaaStrs
import Derived.Test.YtjnipbopimpggaaSeqFun
import Derived.Deep.RegionHeld3
namespace Go.Proofs.Ytjnipbopimpggaa
open Go.RowKit
set_option linter.unusedVariables false
def digT : Nat → Nat → ByteArray → ByteArray
  | 0, _, s => s
  | n + 1, k, s => if k = 0 then s else digT n (k / 10) (strF 1 (fun _ => 48 + k % 10) ++ s)
/-- The mark of a number. -/
def mkT (k : Nat) : ByteArray := (⟨#[109]⟩ : ByteArray) ++ digT 9 k ⟨#[]⟩
set_option maxRecDepth 100000 in
theorem markText_any (k : Nat) (w : World) (h0 : 1 ≤ k) (hk : k ≤ 100000000) :
    Calls Try.prog 52 #[.int .i64 k] w fun e w' => e = .returned (.string (mkT k)) ∧ Below w.heap.size w w' := by
  obtain ⟨Z, hZ⟩ : ∃ Z, digT 9 k ⟨#[]⟩ = Z := ⟨_, rfl⟩
  have HM : Hid (mkT k = (⟨#[109]⟩ : ByteArray) ++ Z) := Lib.hid (by unfold mkT; rw [hZ])
  have HZ := Lib.hid hZ
  clear hZ
  go_enter Try.func52, Try.ntmps52
  go_wp2
  go_loopw [0, 3] (fun q s wr => ∃ (c m : Nat) (z : ByteArray), c ≤ 9 ∧ q = .int .i64 m ∧ s = .string z ∧ m < 10 ^ c ∧ z.size ≤ 9 - c ∧ Hid (digT c m z = Z) ∧ Below w.heap.size w wr) (fun q _ _ => (intOf q).toNat)
  case atStart => exact ⟨9, k, ⟨#[]⟩, by omega, rfl, rfl, by omega, by decide, HZ, Below.refl _ _⟩
  case round =>
    obtain ⟨c, m, z, hc, rfl, rfl, hm, hz, rI, rb⟩ := hrel
    by_cases hm0 : m = 0
    · subst hm0
      have HE : Hid (z = Z) := Lib.hid (by
        rw [← rI.out]
        cases c with
        | zero => rfl
        | succ c => simp [digT])
      clear rI hm
      go_wp2
      go_ret
      exact ⟨ret_str (by rw [HM.out, HE.out]), rb⟩
    · obtain ⟨c, rfl⟩ : ∃ c', c = c' + 1 := ⟨c - 1, by
        rcases Nat.eq_zero_or_pos c with h | h
        · subst h; omega
        · omega⟩
      have hstep : digT (c + 1) m z = digT c (m / 10) (strF 1 (fun _ => 48 + m % 10) ++ z) := by simp only [digT]; rw [if_neg hm0]
      have hI := rI.out
      rw [hstep] at hI
      have hdiv : m / 10 < 10 ^ c := by rw [Nat.pow_succ] at hm; omega
      have hm9 : m < 1000000000 := Nat.lt_of_lt_of_le hm (Nat.pow_le_pow_right (n := 10) (by omega) (by omega : c + 1 ≤ 9))
      obtain ⟨V, hV⟩ : ∃ V, 48 + m % 10 = V := ⟨_, rfl⟩
      have v1 : (48 : Int) + (m : Int) % 10 = (V : Int) := by omega
      have v2 : IntKind.u8.wrap (V : Int) = (V : Int) := IntWalk.u8_in _ (by omega)
      have hB : Bytes (wr.alloc (.cells #[.int .u8 (V : Nat)] 5)) wr.heap.size 5 1 (fun _ => V) := World.rowIs_alloc wr #[.int .u8 (V : Nat)] 5 _ (fun i hi => by
        obtain rfl : i = 0 := by simp at hi; omega
        rfl)
      have hst := fun cap => hB.str (P := Try.prog) 52 5 9 (by kernel_rfl) (by kernel_rfl) (by kernel_rfl) 0 1 cap (by omega)
      rw [hV] at hI
      obtain ⟨y, hy⟩ : ∃ y, strF 1 (fun _ => V) = y := ⟨_, rfl⟩
      have hys : y.size = 1 := by rw [← hy]; exact strF_size _ _
      rw [hy] at hst hI
      have hsum : y.size + z.size ≤ 9223372036854775807 := by omega
      have hz2 : (y ++ z).size ≤ 9 - c := by rw [ByteArray.size_append, hys]; omega
      have HI := Lib.hid hI
      have HZ2 := Lib.hid hz2
      have HD := Lib.hid hdiv
      have b1 := rb.alloc rb.size (.cells #[.int .u8 (V : Nat)] 5)
      have HMl : Hid (m / 10 < m) := Lib.hid (by omega)
      clear hstep hI hdiv hV hB hy hz2 rI rb hys hm
      go_wp2
      clear v1 v2 hst
      go_roundw
      case rel => exact ⟨c, m / 10, y ++ z, by omega, by go_num, rfl, HD.out, HZ2.out, HI, b1⟩
      case measure => have := HMl.out; simp [intOf]; omega
end Go.Proofs.Ytjnipbopimpggaa
