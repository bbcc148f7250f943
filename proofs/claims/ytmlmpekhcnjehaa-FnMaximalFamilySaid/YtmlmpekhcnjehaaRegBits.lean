/- Bits of a text: which texts are bits, of both sides. -/
import Derived.Test.YtmlmpekhcnjehaaRegBase
namespace Go.Proofs.Ytmlmpekhcnjehaa
open Go.RowKit
/-- Are the first n bytes of a text '0' or '1'? -/
def okB (s : ByteArray) (n : Nat) : Bool := (s.data.toList.take n).all (fun c => c == 48 || c == 49)
def bitsB (s : ByteArray) : Bool := okB s s.size && decide (s.size ≤ 600)
theorem take_snoc' (s : ByteArray) (k : Nat) (h : k < s.size) : s.data.toList.take (k + 1) = s.data.toList.take k ++ [s[k]] := by
  rw [List.take_succ_eq_append_getElem (by simpa using h)]; rfl
theorem okB_zero (s : ByteArray) : okB s 0 = true := rfl
theorem okB_succ (s : ByteArray) (k : Nat) (h : k < s.size) : okB s (k + 1) = (okB s k && (s[k] == 48 || s[k] == 49)) := by
  unfold okB
  rw [take_snoc' s k h, List.all_append]
  simp
theorem okB_mono (s : ByteArray) : ∀ d k, k + d ≤ s.size → okB s k = false → okB s (k + d) = false
  | 0, _, _, h => h
  | d + 1, k, hk, h => by
    rw [← Nat.add_assoc, okB_succ s (k + d) (by omega), okB_mono s d k (by omega) h]; rfl
theorem okB_bad (s : ByteArray) (k : Nat) (h : k < s.size) (h1 : ¬ s[k].toNat = 48) (h2 : ¬ s[k].toNat = 49) : okB s s.size = false := by
  have h3 : okB s (k + 1) = false := by
    rw [okB_succ s k h]
    have e1 : (s[k] == 48) = false := by simp; intro e; exact h1 (by rw [e]; rfl)
    have e2 : (s[k] == 49) = false := by simp; intro e; exact h2 (by rw [e]; rfl)
    rw [e1, e2]; simp
  have := okB_mono s (s.size - (k + 1)) (k + 1) (by omega) h3
  rwa [show k + 1 + (s.size - (k + 1)) = s.size by omega] at this
theorem okB_good (s : ByteArray) (k : Nat) (h : k < s.size) (hk : okB s k = true) (h1 : s[k].toNat = 48 ∨ s[k].toNat = 49) : okB s (k + 1) = true := by
  rw [okB_succ s k h, hk]
  rcases h1 with e | e
  · have : s[k] = 48 := UInt8.toNat_inj.1 (by rw [e]; rfl)
    rw [this]; rfl
  · have : s[k] = 49 := UInt8.toNat_inj.1 (by rw [e]; rfl)
    rw [this]; rfl
theorem bitsValid_any (s : ByteArray) (w : World) (hs : s.size ≤ 9223372036854775807) :
    Calls Try.prog 60 #[.string s] w fun e w' => e = .returned (.bool (bitsB s)) ∧ w = w' := by
  by_cases h6 : 600 < s.size
  · go_enter Try.func60, Try.ntmps60
    go_wp2
    go_ret
    exact ⟨ret_bool (by unfold bitsB; rw [decide_eq_false (by omega)]; simp), rfl⟩
  · go_enter Try.func60, Try.ntmps60
    go_wp2
    go_loop [9] (fun i => ∃ k : Nat, k ≤ s.size ∧ i = .int .i64 k ∧ okB s k = true) (fun i => s.size - (intOf i).toNat)
    case atStart => exact ⟨0, by omega, rfl, rfl⟩
    case round =>
      obtain ⟨k, hk, rfl, hok⟩ := hrel
      have HO := Lib.hid hok
      clear hok
      by_cases hlt : k < s.size
      · by_cases c0 : s[k].toNat = 48
        · have HG := Lib.hid (okB_good s k hlt HO.out (.inl c0))
          have e1 : (((s[k].toNat : Nat) : Int) != 48) = false := by rw [c0]; rfl
          clear c0
          go_wp2
          go_round
          case rel => exact ⟨k + 1, by omega, by go_num, HG.out⟩
          case measure => simp [intOf]; omega
        · by_cases c1 : s[k].toNat = 49
          · have HG := Lib.hid (okB_good s k hlt HO.out (.inr c1))
            have e1 : (((s[k].toNat : Nat) : Int) != 48) = true := by rw [c1]; rfl
            have e2 : (((s[k].toNat : Nat) : Int) != 49) = false := by rw [c1]; rfl
            clear c0 c1
            go_wp2
            go_round
            case rel => exact ⟨k + 1, by omega, by go_num, HG.out⟩
            case measure => simp [intOf]; omega
          · have HB := Lib.hid (okB_bad s k hlt c0 c1)
            have e1 : (((s[k].toNat : Nat) : Int) != 48) = true := by simp; omega
            have e2 : (((s[k].toNat : Nat) : Int) != 49) = true := by simp; omega
            clear c0 c1
            go_wp2
            go_ret
            exact ⟨ret_bool (by unfold bitsB; rw [HB.out]; rfl), rfl⟩
      · obtain rfl : k = s.size := by omega
        go_wp2
        go_ret
        exact ⟨ret_bool (by unfold bitsB; rw [HO.out, decide_eq_true (by omega)]; rfl), rfl⟩
theorem l1Bits_any (s : ByteArray) (w : World) (hs : s.size ≤ 9223372036854775807) :
    Calls Try.prog 104 #[.string s] w fun e w' => e = .returned (.bool (bitsB s)) ∧ w = w' := by
  go_enter Try.func104, Try.ntmps104
  go_wp2
  go_loop [3] (fun i => ∃ k : Nat, k ≤ s.size ∧ i = .int .i64 k ∧ okB s k = true) (fun i => s.size - (intOf i).toNat)
  case atStart => exact ⟨0, by omega, rfl, rfl⟩
  case round =>
    obtain ⟨k, hk, rfl, hok⟩ := hrel
    have HO := Lib.hid hok
    clear hok
    by_cases hlt : k < s.size
    · by_cases c0 : s[k].toNat = 48
      · have HG := Lib.hid (okB_good s k hlt HO.out (.inl c0))
        have e1 : (((s[k].toNat : Nat) : Int) != 48) = false := by rw [c0]; rfl
        clear c0
        go_wp2
        go_round
        case rel => exact ⟨k + 1, by omega, by go_num, HG.out⟩
        case measure => simp [intOf]; omega
      · by_cases c1 : s[k].toNat = 49
        · have HG := Lib.hid (okB_good s k hlt HO.out (.inr c1))
          have e1 : (((s[k].toNat : Nat) : Int) != 48) = true := by rw [c1]; rfl
          have e2 : (((s[k].toNat : Nat) : Int) != 49) = false := by rw [c1]; rfl
          clear c0 c1
          go_wp2
          go_round
          case rel => exact ⟨k + 1, by omega, by go_num, HG.out⟩
          case measure => simp [intOf]; omega
        · have HB := Lib.hid (okB_bad s k hlt c0 c1)
          have e1 : (((s[k].toNat : Nat) : Int) != 48) = true := by simp; omega
          have e2 : (((s[k].toNat : Nat) : Int) != 49) = true := by simp; omega
          clear c0 c1
          go_wp2
          go_ret
          exact ⟨ret_bool (by unfold bitsB; rw [HB.out]; rfl), rfl⟩
    · obtain rfl : k = s.size := by omega
      go_wp2
      go_ret
      exact ⟨ret_bool (by unfold bitsB; rw [HO.out, Bool.true_and, decide_eq_decide]; omega), rfl⟩
end Go.Proofs.Ytmlmpekhcnjehaa
