/- A string repeated: the contract of l9Many. -/
import Derived.Test.YtlcnlhephhbhcaaSeqTurn
namespace Go.Proofs.Ytlcnlhephhbhcaa
open Go.RowKit
set_option linter.unusedVariables false
/-- A string repeated. -/
def many (s : ByteArray) (n : Nat) : ByteArray := strF (s.size * n) (fun i => zb s (i % s.size))
theorem many_size (s : ByteArray) (n : Nat) : (many s n).size = s.size * n := strF_size _ _
theorem zb_many (s : ByteArray) (n i : Nat) (h : i < s.size * n) : zb (many s n) i = zb s (i % s.size) := zb_strF h (zb_lt _ _)
def Rep (s O : ByteArray) (d : Nat) : Prop := O.size = s.size * d ∧ ∀ i, i < O.size → zb O i = zb s (i % s.size)
theorem Rep.append {s O S : ByteArray} {d c : Nat} (h : Rep s O d) (k : Rep s S c) : Rep s (O ++ S) (d + c) := by
  refine ⟨by rw [ByteArray.size_append, h.1, k.1, Nat.mul_add], fun i hi => ?_⟩
  rw [ByteArray.size_append] at hi
  by_cases e : i < O.size
  · rw [zb_append_left _ _ _ e, h.2 i e]
  · rw [zb_append_right _ _ _ (by omega) hi, k.2 _ (by omega), h.1, Nat.sub_mul_mod (by rw [← h.1]; omega)]
theorem Rep.eq {s O : ByteArray} {n : Nat} (h : Rep s O n) : O = many s n := strF_of _ _ _ h.1 fun i hi => h.2 i (by rw [h.1]; exact hi)
/-- What holds at each round: the rest is to be repeated m times. -/
def MInv (s : ByteArray) (n : Nat) (S O : ByteArray) (m : Nat) : Prop := ∃ c d, Rep s S c ∧ Rep s O d ∧ d + m * c = n
theorem MInv.start (s : ByteArray) (n : Nat) : MInv s n s ⟨#[]⟩ n :=
  ⟨1, 0, ⟨by omega, fun i hi => by rw [Nat.mod_eq_of_lt hi]⟩, ⟨rfl, fun i hi => absurd hi (Nat.not_lt_zero i)⟩, by omega⟩
theorem MInv.odd {s S O : ByteArray} {n m : Nat} (h : MInv s n S O m) (hm : m % 2 = 1) : MInv s n (S ++ S) (O ++ S) (m / 2) := by
  obtain ⟨c, d, h1, h2, h3⟩ := h
  refine ⟨c + c, d + c, h1.append h1, h2.append h1, ?_⟩
  have e : m = 2 * (m / 2) + 1 := by omega
  have e2 : m * c = 2 * (m / 2) * c + 1 * c := by rw [← Nat.add_mul, ← e]
  rw [Nat.mul_assoc, Nat.mul_comm 2, Nat.mul_assoc] at e2
  rw [Nat.mul_add]
  have e3 : m / 2 * (c * 2) = m / 2 * c + m / 2 * c := by rw [Nat.mul_comm c 2, Nat.two_mul, Nat.mul_add]
  omega
theorem MInv.even {s S O : ByteArray} {n m : Nat} (h : MInv s n S O m) (hm : ¬ m % 2 = 1) : MInv s n (S ++ S) O (m / 2) := by
  obtain ⟨c, d, h1, h2, h3⟩ := h
  refine ⟨c + c, d, h1.append h1, h2, ?_⟩
  have e : m = 2 * (m / 2) := by omega
  have e2 : m * c = 2 * (m / 2) * c := by rw [← e]
  rw [Nat.mul_assoc, Nat.mul_comm 2, Nat.mul_assoc] at e2
  rw [Nat.mul_add]
  have e3 : m / 2 * (c * 2) = m / 2 * c + m / 2 * c := by rw [Nat.mul_comm c 2, Nat.two_mul, Nat.mul_add]
  omega
theorem MInv.done {s S O : ByteArray} {n : Nat} (h : MInv s n S O 0) : O = many s n := by
  obtain ⟨c, d, h1, h2, h3⟩ := h
  obtain rfl : d = n := by omega
  exact h2.eq
theorem MInv.bd {s S O : ByteArray} {n m B : Nat} (h : MInv s n S O m) (hm : 0 < m) (hB : s.size * n ≤ B) : S.size ≤ B ∧ O.size + S.size ≤ B := by
  obtain ⟨c, d, h1, h2, h3⟩ := h
  have e1 : c ≤ m * c := Nat.le_mul_of_pos_left c hm
  have e2 : s.size * (d + c) ≤ s.size * n := Nat.mul_le_mul_left _ (by omega)
  rw [Nat.mul_add] at e2
  have := h1.1
  have := h2.1
  omega
set_option maxRecDepth 100000 in
theorem l9Many_any (s : ByteArray) (n : Nat) (w : World) (h : s.size * n ≤ 4611686018427387903) (hn : n ≤ 4611686018427387903) :
    Calls Try.prog 112 #[.string s, .int .i64 n] w fun e w' => e = .returned (.string (many s n)) ∧ w = w' := by
  have H := Lib.hid h
  clear h
  go_enter Try.func112, Try.ntmps112
  go_wp2
  go_loop [0, 1, 5] (fun S' m' O' => ∃ (S O : ByteArray) (m : Nat), S' = .string S ∧ m' = .int .i64 m ∧ O' = .string O ∧ m ≤ 4611686018427387903 ∧ MInv s n S O m) (fun _ m' _ => (intOf m').toNat)
  case atStart => exact ⟨s, ⟨#[]⟩, n, rfl, rfl, rfl, hn, MInv.start s n⟩
  case round =>
    obtain ⟨S, O, m, rfl, rfl, rfl, hm, hI⟩ := hrel
    clear hn
    by_cases hp : 0 < m
    · obtain ⟨b1, b2⟩ := hI.bd hp H.out
      have b3 : S.size + S.size ≤ 9223372036854775807 := by omega
      have b4 : O.size + S.size ≤ 9223372036854775807 := by omega
      clear b1 b2
      by_cases ho : m % 2 = 1
      · have ht : (((m : Int) % 2) == 1) = true := by simp; omega
        have HN := Lib.hid (hI.odd ho)
        clear hI ho
        go_wp2
        go_round
        case rel => exact ⟨_, _, m / 2, rfl, by go_num, rfl, by omega, HN.out⟩
        case measure => simp [intOf]; omega
      · have ht : (((m : Int) % 2) == 1) = false := by simp; omega
        have HN := Lib.hid (hI.even ho)
        clear hI ho
        go_wp2
        go_round
        case rel => exact ⟨_, _, m / 2, rfl, by go_num, rfl, by omega, HN.out⟩
        case measure => simp [intOf]; omega
    · obtain rfl : m = 0 := by omega
      have HN := Lib.hid hI.done
      clear hI
      go_wp2
      go_ret
      exact ⟨ret_str HN.out, rfl⟩
end Go.Proofs.Ytlcnlhephhbhcaa
