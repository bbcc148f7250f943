/- A string of bits drawn. -/
import Derived.Test.YtdafepfjjmdkeaaDoorDraw5
import Derived.Test.YtdafepfjjmdkeaaDoorSsStr
namespace Go.Proofs.YtdafepfjjmdkeaaDoor
open Go.RowKit
set_option linter.unusedVariables false
set_option maxRecDepth 100000
/-- Bits were drawn: at most m. -/
def BitPost (m b p : Nat) (zs : List Int) (w : World) (e : Ending) (w' : World) : Prop :=
  ∃ (z : ByteArray) (q : Nat), e = .returned (.string z) ∧ okB z z.size = true ∧ z.size ≤ m ∧ q ≤ p + 100 ∧ RdAt w' b q zs ∧ w.grownBy w' (some b)
set_option maxHeartbeats 800000 in
theorem l1String_bits (b p m : Nat) (zs : List Int) (w : World) (hr : RdAt w b p zs) (hp : p ≤ 900000) (hm : m ≤ 90) :
    Calls Tryd.prog 54 #[.pointer (some ⟨b, 0, none⟩), .int .i64 m] w (BitPost m b p zs w) := by
  have hmk := make_bytes_cap m (by omega)
  have hbl := hr.1
  have hr0 := hr.alloc (.cells (madeCells #[.int .u8 0] m) 5)
  have hO := BO.made0 w m (fun _ => 48) (by omega)
  have hg0 := World.grownBy_alloc w (.cells (madeCells #[.int .u8 0] m) 5) (some b)
  go_enter Tryd.func54, Tryd.ntmps54
  go_wp2_with fail
  have hm1 : (m : Int) + 1 = ((m + 1 : Nat) : Int) := by omega
  rw [hm1]
  clear hm1 hmk
  refine (pick_any b p (m + 1) zs _ hr0 (by omega) (by omega) (by omega)).mono ?_
  rintro e w1 ⟨k, hk, rfl, hr1, hg1⟩
  have hO1 := hO.kept hg1 (.inr (by simp [Value.ownBlock]; omega))
  have hg1' := hg0.trans hg1
  have hz1 : w.heap.size < w1.heap.size := by have := hg1.size; simp at this; omega
  clear hr hr0 hO hg0 hg1
  go_wp2
  go_loopw [5, 6] (fun v i wr => ∃ (j n : Nat) (f : Nat → Nat), n + j ≤ m ∧ i = .int .i64 j ∧ v = .slice (some ⟨w.heap.size, 0, none⟩) n m ∧ BO wr w.heap.size (.slice (some ⟨w.heap.size, 0, none⟩) n m) n f ∧ Hid (∀ t, t < n → f t = 48 ∨ f t = 49) ∧ RdAt wr b (p + 1 + n) zs ∧ w.grownBy wr (some b) ∧ w.heap.size < wr.heap.size) (fun _ i _ => (intOf i).toNat)
  case atStart => exact ⟨k, 0, _, by omega, rfl, rfl, hO1, Lib.hid (fun t ht => absurd ht (Nat.not_lt_zero t)), hr1, hg1', hz1⟩
  case round =>
    obtain ⟨j, n, f, hjn, rfl, rfl, rO, rF, rR, rg, rz⟩ := hrel
    clear hO1 hr1 hg1' hz1
    by_cases h0 : 0 < j
    · go_wp2_with fail
      refine (pick_any b (p + 1 + n) 2 zs _ rR (by omega) (by omega) (by omega)).mono ?_
      rintro e w2 ⟨k2, hk2, rfl, hr2, hg2⟩
      have hO2 := rO.kept hg2 (.inr (by simp [Value.ownBlock]; omega))
      have hgg := rg.trans hg2
      have hsz : w.heap.size < w2.heap.size := Nat.lt_of_lt_of_le rz hg2.size
      have u1 : IntKind.u8.wrap (48 + (k2 : Int)) = ((48 + k2 : Nat) : Int) := by rw [show (48 : Int) + (k2 : Int) = ((48 + k2 : Nat) : Int) by omega]; exact IntWalk.u8_in _ (by omega)
      have HF : Hid (∀ t, t < n + 1 → (if t < n then f t else 48 + k2) = 48 ∨ (if t < n then f t else 48 + k2) = 49) := Lib.hid (fun t ht => by
        by_cases e : t < n
        · rw [if_pos e]; exact rF.out t e
        · rw [if_neg e]; omega)
      clear rO rR rg hg2 rF rz
      go_wp2_with (at_builtin; refine wpList_append_bfit rfl _ _ rfl w.heap.size w.heap.size n m _ rfl (hO2.alloc _) w2.heap.size 1 (48 + k2) rfl ?c1 ?c2 ?_; rotate_left 2; intro w' O3 g3)
      case c1 => simp
      case c2 => omega
      have hr3 : RdAt w' b (p + 1 + n + 1) zs := (hr2.alloc _).kept g3 (fun q hq => by cases hq; exact hbl)
      have hg3 : w.grownBy w' (some b) := grown_own (hgg.trans (World.grownBy_alloc w2 _ (some b))) g3 (fun q hq => by cases hq; exact Nat.le_refl _)
      have hz3 : w.heap.size < w'.heap.size := by have := g3.size; simp at this; omega
      clear hO2 hr2 hgg g3 u1 hsz
      go_wp2
      go_roundw
      case rel => exact ⟨j - 1, n + 1, _, by omega, by rw [show ((j - 1 : Nat) : Int) = (j : Int) - 1 by omega], rfl, O3, HF, hr3, hg3, hz3⟩
      case measure => simp [intOf]; omega
    · obtain rfl : j = 0 := by omega
      have hst := rO.text
      have hok : Hid (okB (strF n f) (strF n f).size = true ∧ (strF n f).size = n) := Lib.hid ⟨okB_of_zb _ fun i hi => by
        rw [strF_size] at hi
        have := rF.out i hi
        rw [zb_strF hi (by omega)]; exact this, strF_size _ _⟩
      obtain ⟨z, hz⟩ : ∃ z, strF n f = z := ⟨_, rfl⟩
      rw [hz] at hst hok
      clear hz rF
      go_wp2
      go_ret
      exact ⟨z, p + 1 + n, rfl, hok.out.1, by have := hok.out.2; omega, by omega, rR, rg⟩
end Go.Proofs.YtdafepfjjmdkeaaDoor
