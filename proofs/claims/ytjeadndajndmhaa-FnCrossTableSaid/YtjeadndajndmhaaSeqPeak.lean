/- Contracts of PeakOf, of both sides. -/
import Derived.Test.YtjeadndajndmhaaSeqTable
namespace Go.Proofs.Ytjeadndajndmhaa
open Go.RowKit
set_option linter.unusedVariables false
/-- The index of the first greatest of the first n values; -1 if there is none. -/
def peakI (f : Nat → Int) : Nat → Int
  | 0 => -1
  | n + 1 => if peakI f n < 0 ∨ f (peakI f n).toNat < f n then (n : Int) else peakI f n
theorem peakI_bd (f : Nat → Int) : ∀ n : Nat, -1 ≤ peakI f n ∧ peakI f n < n ∧ (0 < n → 0 ≤ peakI f n)
  | 0 => by simp [peakI]
  | n + 1 => by
    have := peakI_bd f n
    simp only [peakI]
    split
    · omega
    · rename_i h
      have h1 : ¬ peakI f n < 0 := fun e => h (.inl e)
      omega
theorem peakI_zero (f : Nat → Int) : peakI f 0 = -1 := rfl
theorem peakI_new (f : Nat → Int) (n q : Nat) (h : peakI f n = q) (hl : f q < f n) : peakI f (n + 1) = (n : Int) := by
  simp only [peakI]; rw [if_pos]; right; rw [h]; exact hl
theorem peakI_old (f : Nat → Int) (n q : Nat) (h : peakI f n = q) (hl : ¬ f q < f n) : peakI f (n + 1) = (q : Int) := by
  simp only [peakI]; rw [if_neg, h]; intro e; rw [h] at e
  rcases e with e | e
  · omega
  · exact hl e
theorem peakI_one (f : Nat → Int) : peakI f 1 = (0 : Nat) := by simp [peakI]
def peakAns (a b : ByteArray) : Int := peakI (tabF a b) (tabN a b)
set_option maxRecDepth 100000 in
theorem iPeak_any (a b : ByteArray) (w : World) (ha : a.size ≤ 9223372036854775807) (hb : b.size ≤ 9223372036854775807) :
    Calls Try.prog 22 #[.string a, .string b] w fun e w' => e = .returned (.int .i64 (peakAns a b)) ∧ Below w.heap.size w w' := by
  have hi := fun w => iTab_any a b w ha hb
  have hn := tabN_le a b
  unfold peakAns
  obtain ⟨n, hN⟩ : ∃ n, tabN a b = n := ⟨_, rfl⟩
  obtain ⟨f, hF⟩ : ∃ f, tabF a b = f := ⟨_, rfl⟩
  rw [hN, hF] at hi
  rw [hN] at hn
  rw [hN, hF]
  clear hN hF
  have HI := Lib.hid hi
  clear hi
  go_enter Try.func22, Try.ntmps22
  go_wp2_with fail
  refine (HI.out _).mono ?_
  rintro e w1 ⟨v, rfl, O, b1⟩
  obtain ⟨s, cap, rfl, hs⟩ := O.form
  clear O
  by_cases h0 : 0 < n
  · obtain ⟨g, rfl, _, _, hg⟩ := hs h0
    have HG := Lib.hid hg
    clear hs hg
    go_wp2
    go_loop [14, 6] (fun i p => ∃ k : Nat, k ≤ n ∧ i = .int .i64 k ∧ p = .int .i64 (peakI f k)) (fun i _ => n - (intOf i).toNat)
    case atStart => exact ⟨0, by omega, rfl, rfl⟩
    case round =>
      obtain ⟨k, hk, rfl, rfl⟩ := hrel
      by_cases hlt : k < n
      · obtain ⟨c1, c2⟩ := HG.out k hlt
        have i0 : (0 : Int) ≤ (k : Int) := by omega
        have i1 : (k : Int) < (n : Int) := by omega
        by_cases hz : k = 0
        · subst hz
          rw [peakI_zero]
          go_wp2
          go_round
          case rel => exact ⟨1, by omega, by go_num, by rw [peakI_one]⟩
          case measure => simp [intOf]; omega
        · have hbd := peakI_bd f k
          obtain ⟨q, hq⟩ : ∃ q : Nat, peakI f k = q := ⟨(peakI f k).toNat, by omega⟩
          have hq1 : q < n := by omega
          obtain ⟨d1, d2⟩ := HG.out q hq1
          have HO := Lib.hid (peakI_old f k q hq)
          have HN := Lib.hid (peakI_new f k q hq)
          rw [hq]
          have j0 : (0 : Int) ≤ (q : Int) := by omega
          have j1 : (q : Int) < (n : Int) := by omega
          have j2 : ¬ ((q : Int) < 0) := by omega
          obtain ⟨x, hx⟩ : ∃ x, f q = x := ⟨_, rfl⟩
          obtain ⟨y, hy⟩ : ∃ y, f k = y := ⟨_, rfl⟩
          rw [hx] at d1 HO HN
          rw [hy] at c1 HO HN
          clear hq hbd hx hy
          by_cases hl : x < y
          · go_wp2
            go_round
            case rel => exact ⟨k + 1, by omega, by go_num, by rw [HN.out hl]⟩
            case measure => simp [intOf]; omega
          · go_wp2
            go_round
            case rel => exact ⟨k + 1, by omega, by go_num, by rw [HO.out hl]⟩
            case measure => simp [intOf]; omega
      · obtain rfl : k = n := by omega
        go_wp2
        go_ret
        exact ⟨rfl, b1⟩
  · obtain rfl : n = 0 := by omega
    clear hs
    go_wp2
    go_loop [14, 6] (fun i p => i = .int .i64 (0 : Nat) ∧ p = .int .i64 (-1)) (fun i _ => (intOf i).toNat)
    case atStart => exact ⟨rfl, rfl⟩
    case round =>
      obtain ⟨rfl, rfl⟩ := hrel
      go_wp2
      go_ret
      exact ⟨rfl, b1⟩
set_option maxRecDepth 100000 in
theorem sPeak_any (a b : ByteArray) (w : World) (ha : a.size ≤ 9223372036854775807) (hb : b.size ≤ 9223372036854775807) :
    Calls Try.prog 23 #[.string a, .string b] w fun e w' => e = .returned (.int .i64 (peakAns a b)) ∧ Below w.heap.size w w' := by
  have hi := fun w => sTab_any a b w ha hb
  have hn := tabN_le a b
  unfold peakAns
  obtain ⟨n, hN⟩ : ∃ n, tabN a b = n := ⟨_, rfl⟩
  obtain ⟨f, hF⟩ : ∃ f, tabF a b = f := ⟨_, rfl⟩
  rw [hN, hF] at hi
  rw [hN] at hn
  rw [hN, hF]
  clear hN hF
  have HI := Lib.hid hi
  clear hi
  go_enter Try.func23, Try.ntmps23
  go_wp2_with fail
  refine (HI.out _).mono ?_
  rintro e w1 ⟨v, rfl, O, b1⟩
  obtain ⟨s, cap, rfl, hs⟩ := O.form
  clear O
  by_cases h0 : 0 < n
  · obtain ⟨g, rfl, _, _, hg⟩ := hs h0
    have HG := Lib.hid hg
    clear hs hg
    go_wp2
    go_loopw [7, 6] (fun i p wr => ∃ k m : Nat, k ≤ n ∧ i = .int .i64 k ∧ p = .int .i64 (peakI f k) ∧ wr = w1.drewN m) (fun i _ _ => n - (intOf i).toNat)
    case atStart => exact ⟨0, 0, by omega, rfl, rfl, rfl⟩
    case round =>
      obtain ⟨k, m, hk, rfl, rfl, rfl⟩ := hrel
      by_cases hlt : k < n
      · have c1 : (w1.drewN m).cell? ⟨g, k, none⟩ = some (.int .i64 (f k)) := (HG.out k hlt).1
        have i0 : (0 : Int) ≤ (k : Int) := by omega
        have i1 : (k : Int) < (n : Int) := by omega
        by_cases hz : k = 0
        · subst hz
          rw [peakI_zero]
          obtain ⟨W, hW⟩ : ∃ W, w1.drewN m = W := ⟨_, rfl⟩
          rw [hW] at c1 ⊢
          have HW := Lib.hid hW
          clear hW
          go_wp2_with fail
          go_quiet (fail)
          clear c1
          go_wp2
          go_roundw
          case rel => exact ⟨1, m + nq, by omega, by go_num, by rw [peakI_one], by rw [← HW.out, World.drewN_drewN]⟩
          case measure => simp [intOf]; omega
        · have hbd := peakI_bd f k
          obtain ⟨q, hq⟩ : ∃ q : Nat, peakI f k = q := ⟨(peakI f k).toNat, by omega⟩
          have hq1 : q < n := by omega
          have d1 : (w1.drewN m).cell? ⟨g, q, none⟩ = some (.int .i64 (f q)) := (HG.out q hq1).1
          have HO := Lib.hid (peakI_old f k q hq)
          have HN := Lib.hid (peakI_new f k q hq)
          rw [hq]
          have j0 : (0 : Int) ≤ (q : Int) := by omega
          have j1 : (q : Int) < (n : Int) := by omega
          have j2 : decide ((q : Int) < 0) = false := by simp
          obtain ⟨x, hx⟩ : ∃ x, f q = x := ⟨_, rfl⟩
          obtain ⟨y, hy⟩ : ∃ y, f k = y := ⟨_, rfl⟩
          obtain ⟨W, hW⟩ : ∃ W, w1.drewN m = W := ⟨_, rfl⟩
          rw [hx] at d1 HO HN
          rw [hy] at c1 HO HN
          rw [hW] at c1 d1 ⊢
          have HW := Lib.hid hW
          clear hq hbd hx hy hW
          by_cases hl : x < y
          · go_wp2_with fail
            go_quiet (fail)
            clear c1 d1
            go_wp2
            go_roundw
            case rel => exact ⟨k + 1, m + nq, by omega, by go_num, by rw [HN.out hl], by rw [← HW.out, World.drewN_drewN]⟩
            case measure => simp [intOf]; omega
          · go_wp2_with fail
            go_quiet (fail)
            clear c1 d1
            go_wp2
            go_roundw
            case rel => exact ⟨k + 1, m + nq, by omega, by go_num, by rw [HO.out hl], by rw [← HW.out, World.drewN_drewN]⟩
            case measure => simp [intOf]; omega
      · obtain rfl : k = n := by omega
        go_wp2
        go_ret
        exact ⟨rfl, below_drewN b1 _⟩
  · obtain rfl : n = 0 := by omega
    clear hs
    go_wp2
    go_loop [7, 6] (fun i p => i = .int .i64 (0 : Nat) ∧ p = .int .i64 (-1)) (fun i _ => (intOf i).toNat)
    case atStart => exact ⟨rfl, rfl⟩
    case round =>
      obtain ⟨rfl, rfl⟩ := hrel
      go_wp2
      go_ret
      exact ⟨rfl, b1⟩
end Go.Proofs.Ytjeadndajndmhaa
