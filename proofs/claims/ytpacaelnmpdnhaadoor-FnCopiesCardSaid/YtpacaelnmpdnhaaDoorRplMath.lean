/- What strings.ReplaceAll makes of a letter put in the place of another one. -/
import Derived.Lib.Replace
import Derived.Lib.ReplaceLaws
import Derived.Test.YtpacaelnmpdnhaaDoorSeqTurn
namespace Go.Proofs.YtpacaelnmpdnhaaDoor
open Go.RowKit
set_option linter.unusedVariables false
/-- One letter in the place of another one. -/
def subL (c d : UInt8) (b : UInt8) : UInt8 := if b = c then d else b
theorem idx_cons (c b : UInt8) (l : List UInt8) : Lib.index (b :: l) [c] = if b = c then 0 else if Lib.index l [c] = -1 then -1 else Lib.index l [c] + 1 := by
  by_cases h : b = c
  · subst h; rw [if_pos rfl]; unfold Lib.index; simp [List.isPrefixOf]
  · rw [if_neg h]
    have h2 : ([c].isPrefixOf (b :: l)) = false := by simp [List.isPrefixOf]; exact fun e => h e.symm
    generalize hr : Lib.index l [c] = r
    unfold Lib.index
    rw [h2, hr]
    by_cases e : r = -1 <;> simp [e]
theorem rplK_one (c d : UInt8) : ∀ s : List UInt8, Lib.replaceK [c] [d] (Lib.count s [c]) s = s.map (subL c d)
  | [] => by
    have h : Lib.index ([] : List UInt8) [c] = -1 := rfl
    rw [Lib.count_miss h]; rfl
  | b :: l => by
    have ih := rplK_one c d l
    have hi := idx_cons c b l
    by_cases h : b = c
    · rw [if_pos h] at hi
      have hc := Lib.count_hit (s := b :: l) (sub := [c]) (i := 0) (by simp) (by rw [hi]; rfl)
      simp only [List.length_cons, List.length_nil, Nat.zero_add, List.drop_succ_cons, List.drop_zero] at hc
      have hk : Lib.count (b :: l) [c] = Lib.count l [c] + 1 := by omega
      rw [hk, Lib.replaceK_hit _ _ _ _ 0 (by rw [hi]; rfl)]
      simp only [List.take_zero, List.nil_append, List.length_cons, List.length_nil, Nat.zero_add, List.drop_succ_cons, List.drop_zero, List.cons_append, List.map_cons]
      rw [ih]; unfold subL; rw [if_pos h]
    · rw [if_neg h] at hi
      have hb : subL c d b = b := by unfold subL; rw [if_neg h]
      by_cases e : Lib.index l [c] = -1
      · rw [if_pos e] at hi
        rw [Lib.count_miss e] at ih
        rw [Lib.count_miss hi, List.map_cons, hb, ← ih]; rfl
      · rw [if_neg e] at hi
        have hge := Lib.index_ge l [c]
        obtain ⟨i, hii⟩ : ∃ i : Nat, Lib.index l [c] = i := ⟨(Lib.index l [c]).toNat, by omega⟩
        rw [hii] at hi
        have h1 := Lib.count_hit (s := l) (sub := [c]) (i := i) (by simp) hii
        have h2 := Lib.count_hit (s := b :: l) (sub := [c]) (i := i + 1) (by simp) (by rw [hi]; omega)
        simp only [List.length_cons, List.length_nil, Nat.zero_add, List.drop_succ_cons] at h1 h2
        obtain ⟨k, hk⟩ : ∃ k, Lib.count l [c] = k + 1 := ⟨Lib.count (l.drop (i + 1)) [c], by omega⟩
        have hk2 : Lib.count (b :: l) [c] = k + 1 := by omega
        rw [hk, Lib.replaceK_hit _ _ _ _ i hii] at ih
        rw [hk2, Lib.replaceK_hit _ _ _ _ (i + 1) (by rw [hi]; omega), List.map_cons, hb, ← ih]
        simp [List.take_succ_cons, List.drop_succ_cons]
/-- A string with one letter in the place of another one. -/
def subS (c d : UInt8) (s : ByteArray) : ByteArray := ⟨(Lib.replaceAll s.data.toList [c] [d]).toArray⟩
theorem subS_data (c d : UInt8) (hcd : c ≠ d) (s : ByteArray) : (subS c d s).data.toList = s.data.toList.map (subL c d) := by
  unfold subS Lib.replaceAll Lib.replace
  rw [if_neg (by simp; exact hcd)]
  have : Lib.replaceNum s.data.toList [c] (-1) = Lib.count s.data.toList [c] := by unfold Lib.replaceNum; rw [if_pos (Or.inl (by decide))]
  rw [this, rplK_one]
end Go.Proofs.YtpacaelnmpdnhaaDoor
