/- GoldFamily of both sides, and the walk of its exact law. -/
import Derived.Test.YtbkppjelljljcaaFamGold
import Derived.Test.YtbkppjelljljcaaStrs2
namespace Go.Proofs.Ytbkppjelljljcaa
open Go.RowKit
set_option linter.unusedVariables false
theorem SF.under {w w' : World} {B C : Nat} {v : Value} {n : Nat} {f : Nat → ByteArray} (h : SF w B v n f) (hC : ∀ k, v.ownBlock = some k → k < C) (hb : Below C w w') : SF w' B v n f := by
  obtain ⟨h1, ⟨rfl, rfl⟩ | ⟨g, cap, cur, rfl, hB, hg, hn, hm, hs, ht⟩⟩ := h
  · exact ⟨h1, .inl ⟨rfl, rfl⟩⟩
  · exact ⟨h1, .inr ⟨g, cap, cur, rfl, hB, (hb.block g (hC g rfl)).trans hg, hn, hm, hs, ht⟩⟩
theorem SF.snoc1 {w : World} {B : Nat} {v : Value} {i : Nat} {f : Nat → ByteArray} {y : ByteArray} (h : SF w B v (i + 1) (fun j => if j < i then f j else y)) (hy : f i = y) : SF w B v (i + 1) f :=
  h.congr fun j hj => by
    by_cases e : j < i
    · simp only [if_pos e]
    · obtain rfl : j = i := by omega
      simp only [if_neg e]; exact hy.symm
/-- The codes of a family. -/
def gfN (M : Int → Int → Bool) (S a b : Int) : Nat := if bothB M S a b then tw S.toNat + 1 else 0
def gfF (S a b : Int) (i : Nat) : ByteArray := goldS S a b ((i : Int) - 2)
theorem gfN_le {M : Int → Int → Bool} {S a b : Int} : gfN M S a b ≤ 1000000 := by
  unfold gfN
  split
  · rename_i h
    have h6 := ((bothB_iff M S a b).1 h).1
    have h7 : S.toNat ≤ 6 := by omega
    have : tw S.toNat ≤ 64 := Nat.pow_le_pow_right (n := 2) (by decide) h7
    omega
  · omega
theorem gf_yes {M : Int → Int → Bool} {S a b : Int} {i : Nat} (h : i < gfN M S a b) : goldC M S a b ((i : Int) - 2) = (gfF S a b i, true) := by
  unfold gfN at h
  split at h
  · rename_i hb
    exact goldC_yes ⟨hb, by omega, by omega⟩
  · omega
theorem gf_no {M : Int → Int → Bool} {S a b : Int} : goldC M S a b (((gfN M S a b : Nat) : Int) - 2) = noS := by
  apply goldC_no
  rintro ⟨hb, h1, h2⟩
  unfold gfN at h2
  rw [if_pos hb] at h2
  omega
set_option maxRecDepth 100000 in
theorem iGoldF_any (M : Int → Int → Bool) (hM : MaxIs M) (S a b : Int) (w : World) :
    Calls Try.prog 14 #[.int .i64 S, .int .i64 a, .int .i64 b] w fun e w' => ∃ v, e = .returned v ∧ SF w' w.heap.size v (gfN M S a b) (gfF S a b) ∧ Below w.heap.size w w' := by
  have HG := Lib.hid (fun k w => iGoldC_any M hM S a b k w)
  have hn := gfN_le (M := M) (S := S) (a := a) (b := b)
  have HY := Lib.hid (fun i h => gf_yes (M := M) (S := S) (a := a) (b := b) (i := i) h)
  have hno := gf_no (M := M) (S := S) (a := a) (b := b)
  obtain ⟨N, hN⟩ : ∃ N, gfN M S a b = N := ⟨_, rfl⟩
  rw [hN] at hn HY hno ⊢
  have HN := Lib.hid hno
  clear hno hN hM
  go_enter Try.func14, Try.ntmps14
  go_wp2
  go_loopw [7, 8] (fun o k wr => ∃ i : Nat, i ≤ N ∧ k = .int .i64 ((i : Int) - 2) ∧ SF wr w.heap.size o i (gfF S a b) ∧ Below w.heap.size w wr) (fun _ k _ => N + 1 - (intOf k + 2).toNat)
  case atStart => exact ⟨0, by omega, rfl, SF.nil _ _ _, Below.refl _ _⟩
  case round =>
    obtain ⟨i, hi, rfl, rO, rb⟩ := hrel
    have hG := fun w => HG.out ((i : Int) - 2) w
    by_cases hlt : i < N
    · rw [HY.out i hlt] at hG
      obtain ⟨y, hy⟩ : ∃ y, gfF S a b i = y := ⟨_, rfl⟩
      rw [hy] at hG
      have HI := Lib.hid hG
      have HE := Lib.hid hy
      clear hG hy
      go_wp2_with fail
      refine (HI.out _).mono ?_
      rintro e w2 ⟨rfl, hb⟩
      have b2 := below_then rb (Nat.le_refl _) hb
      have O2 := rO.below hb
      clear rO rb hb
      have bs := b2.size
      go_wp2_with (at_builtin; refine wpList_append_str rfl (.tmp 24) (.tmp 26) rfl w.heap.size _ i (gfF S a b) rfl (O2.alloc _) w2.heap.size 1 y rfl (by simp) (by omega) (by simp; omega) ?_; intro v' w3 O3 g3; have b3 : Below w.heap.size w w3 := (b2.alloc bs _).grown g3 (by simp; omega) (fun q hq => (O2.lt q hq).1); have O4 := SF.snoc1 O3 HE.out; clear O2 g3 b2 O3)
      go_roundw
      case rel => exact ⟨i + 1, by omega, by go_num, O4, b3⟩
      case measure => simp [intOf]; omega
    · obtain rfl : i = N := by omega
      rw [HN.out] at hG
      have HI := Lib.hid hG
      clear hG
      go_wp2_with fail
      refine (HI.out _).mono ?_
      rintro e w2 ⟨rfl, hb⟩
      have b2 := below_then rb (Nat.le_refl _) hb
      have O2 := rO.below hb
      clear rO rb hb
      go_wp2
      go_ret
      exact ⟨_, rfl, O2, b2⟩
end Go.Proofs.Ytbkppjelljljcaa
