/- RunLengths of the model, of both sides for every string, and the joined names of the answer. -/
import Derived.Test.YtkkakfkebjdkeaaSeqRuns2
import Derived.BigQuiet
namespace Go.Proofs.Ytkkakfkebjdkeaa
open Go.RowKit
set_option linter.unusedVariables false
theorem OF.one (w : World) (y : Int) : OF (w.alloc (.cells #[.int .i64 y] 3)) w.heap.size (.slice (some ⟨w.heap.size, 0, none⟩) 1 1) 1 (fun _ => y) := by
  refine ⟨by simp, .inr ⟨w.heap.size, 1, #[.int .i64 y], rfl, Nat.le_refl _, ?_, Nat.le_refl _, by unfold maxLen; omega, rfl, rfl⟩⟩
  show (w.heap.push _)[w.heap.size]? = _
  simp
theorem OF.none1 (w : World) (f : Nat → Int) : OF (w.alloc (.cells #[] 3)) w.heap.size (.slice (some ⟨w.heap.size, 0, none⟩) 0 0) 0 f := by
  refine ⟨by simp, .inr ⟨w.heap.size, 0, #[], rfl, Nat.le_refl _, ?_, Nat.le_refl _, by unfold maxLen; omega, rfl, rfl⟩⟩
  show (w.heap.push _)[w.heap.size]? = _
  simp
/-- The runs of a sequence. -/
def rlL (z : ByteArray) : List Int := srt (runsA (shB z (modN (startN z : Nat) z.size)) z.size)
def rlN (z : ByteArray) : Nat := if seqB z then (rlL z).length else 0
def rlF (z : ByteArray) : Nat → Int := LF (rlL z)
theorem runsA_len (t : Nat → Nat) (n : Nat) : (runsA t n).length ≤ n + 1 := by
  unfold runsA
  split
  · simp
  · have := (runsC_bd t n).1
    simp; omega
theorem rlN_le6 (z : ByteArray) : rlN z ≤ 1000000 := by
  unfold rlN
  split
  · rename_i h
    have := size_le h
    have := runsA_len (shB z (modN (startN z : Nat) z.size)) z.size
    unfold rlL
    rw [srt_len]
    omega
  · omega
/-- Where no run begins there is one. -/
theorem rl_one {z : ByteArray} (h : 1 ≤ z.size) (h0 : firstN (startP z) z.size = z.size) : rlL z = [(z.size : Int)] := by
  have hs : startN z = 0 := by unfold startN; rw [if_neg (by omega)]
  unfold rlL
  have e0 : modN ((0 : Nat) : Int) z.size = 0 := by rw [modN_of_nat]; exact Nat.zero_mod _
  rw [hs, e0, runsA_same h fun i hi hin => ?_]
  · simp [srt]
  · have hp := firstN_none h0 i hin
    unfold startP at hp
    have hp' : zb z i = zb z (modN ((i : Int) - 1) z.size) := by simpa using hp
    rw [show (i : Int) - 1 = ((i - 1 : Nat) : Int) by omega, modN_of_nat, Nat.mod_eq_of_lt (by omega)] at hp'
    unfold shB
    rw [Nat.zero_add, Nat.zero_add, Nat.mod_eq_of_lt hin, Nat.mod_eq_of_lt (by omega)]
    exact hp'
/-- What holds before a place: the runs that are over, and how long the open one is. -/
def St (t : Nat → Nat) (n i : Nat) (X : List Int) (P : Nat) : Prop := (i < n → (X, P + 1) = runsC t (i + 1)) ∧ (i = n → X = runsA t n)
theorem St.zero {t : Nat → Nat} {n : Nat} (h : 1 ≤ n) : St t n 0 [] 0 := ⟨fun _ => rfl, fun e => by omega⟩
theorem St.last {t : Nat → Nat} {n i : Nat} {X : List Int} {P : Nat} (h : St t n i X P) (hi : i < n) (e : i + 1 = n) : St t n (i + 1) (X ++ [((P + 1 : Nat) : Int)]) 0 :=
  ⟨fun h' => by omega, fun _ => by
    have hc := h.1 hi
    rw [← e]
    unfold runsA
    rw [if_neg (by omega), ← hc]⟩
theorem St.turn {t : Nat → Nat} {n i : Nat} {X : List Int} {P : Nat} (h : St t n i X P) (hi : i + 1 < n) (e : t (i + 1) ≠ t i) : St t n (i + 1) (X ++ [((P + 1 : Nat) : Int)]) 0 :=
  ⟨fun _ => by
    have hc := h.1 (by omega)
    rw [runsC_new (by omega) (by rw [Nat.add_sub_cancel]; exact e)]
    unfold runsA
    rw [if_neg (by omega), ← hc], fun e => by omega⟩
theorem St.same {t : Nat → Nat} {n i : Nat} {X : List Int} {P : Nat} (h : St t n i X P) (hi : i + 1 < n) (e : t (i + 1) = t i) : St t n (i + 1) X (P + 1) :=
  ⟨fun _ => by
    have hc := h.1 (by omega)
    rw [runsC_old (.inr (by rw [Nat.add_sub_cancel]; exact e)), ← hc], fun e => by omega⟩
theorem St.bd {t : Nat → Nat} {n i : Nat} {X : List Int} {P : Nat} (h : St t n i X P) (hi : i < n) : X.length ≤ i + 1 ∧ P ≤ i := by
  have hc := h.1 hi
  have := runsC_bd t (i + 1)
  rw [← hc] at this
  have h2 : P + 1 ≤ i + 1 := this.2
  exact ⟨this.1, by omega⟩
theorem insAll_len (l : List Int) : (insAll l).length = l.length := by rw [insAll_srt, srt_len]
theorem iRuns_any (z : ByteArray) (w : World) (hz : z.size ≤ 9223372036854775807) :
    Calls Try.prog 56 #[.string z] w fun e w' => ∃ v, e = .returned v ∧ OF w' w.heap.size v (rlN z) (rlF z) ∧ Below w.heap.size w w' := by
  unfold rlN rlF
  cases h : seqB z with
  | true => exact iRuns_yes z w h
  | false =>
    have HV := Lib.hid (fun w => iSequenceValid_no z w hz h)
    clear h
    go_enter Try.func56, Try.ntmps56
    go_wp2_with fail
    refine (HV.out _).mono ?_
    rintro e w' ⟨rfl, rfl⟩
    go_wp2
    go_ret
    exact ⟨_, rfl, OF.nil _ _ _, Below.refl _ _⟩
end Go.Proofs.Ytkkakfkebjdkeaa
