/- inOrder: steps, each of which takes what the one before it answered. -/
import Derived.Test.YtabokoodpobnnaaDoorFrm2
namespace Go.Proofs.YtabokoodpobnnaaDoor
open Go.RowKit
set_option linter.unusedVariables false
set_option maxRecDepth 100000
/-- A step: a function value that answers so at this string. -/
def StepIs (v : Value) (z y : ByteArray) (ok : Bool) (w : World) : Prop :=
  ∃ g lb, v = .func (.func g) #[] lb ∧ (∀ args w, (callFunc g args).run Tryd.prog w = .ok (.enter g args) w) ∧ ∀ W, Below w.heap.size w W → Calls Tryd.prog g (#[.string z] ++ lb) W fun e W' => e = .returned (.tuple #[.string y, .bool ok]) ∧ Below W.heap.size W W'
def allB (ok : Nat → Bool) : Nat → Bool
  | 0 => true
  | k + 1 => allB ok k && ok k
theorem allB_not {ok : Nat → Bool} {k : Nat} (h : ok k = false) : ∀ n, k < n → allB ok n = false
  | 0, hn => by omega
  | n + 1, hn => by
    simp only [allB]
    by_cases e : k = n
    · subst e; rw [h, Bool.and_false]
    · rw [allB_not h n (by omega), Bool.false_and]
def ordAns (z : Nat → ByteArray) (ok : Nat → Bool) (n : Nat) : ByteArray × Bool := if allB ok n then (z n, true) else noS
set_option maxHeartbeats 1600000 in
theorem inOrder_any (n g c : Nat) (v : Nat → Value) (z : Nat → ByteArray) (ok : Nat → Bool) (w : World) (hn : n ≤ 1000) (hg : g < w.heap.size)
    (hcell : ∀ i, i < n → w.cell? ⟨g, i, none⟩ = some (v i)) (hs : ∀ i, i < n → StepIs (v i) (z i) (z (i + 1)) (ok i) w) :
    Calls Tryd.prog 29 #[.string (z 0), .slice (some ⟨g, 0, none⟩) n c] w fun e w' => e = .returned (.tuple #[.string (ordAns z ok n).1, .bool (ordAns z ok n).2]) ∧ Below w.heap.size w w' := by
  have HC := Lib.hid hcell
  have HS := Lib.hid hs
  have HG := Lib.hid hg
  obtain ⟨Z, hZ⟩ : ∃ Z, z 0 = Z := ⟨_, rfl⟩
  have HZ := Lib.hid hZ
  rw [hZ]
  clear hcell hs hg hZ
  go_enter Tryd.func29, Tryd.ntmps29
  go_wp2
  go_loopw [0, 12] (fun s i wr => ∃ k : Nat, k ≤ n ∧ i = .int .i64 k ∧ s = .string (z k) ∧ Hid (allB ok k = true) ∧ Below w.heap.size w wr) (fun _ i _ => n - (intOf i).toNat)
  case atStart => exact ⟨0, by omega, rfl, by rw [HZ.out], Lib.hid rfl, Below.refl _ _⟩
  case round =>
    obtain ⟨k, hk, rfl, rfl, ra, rb⟩ := hrel
    by_cases hlt : k < n
    · obtain ⟨f, lb, hv, eg, hcall0⟩ := HS.out k hlt
      have hcl := (rb.cell (p := ⟨g, k, none⟩) HG.out).trans (HC.out k hlt)
      rw [hv] at hcl
      have hcall := hcall0 wr rb
      have i0 : (0 : Int) ≤ (k : Int) := by omega
      have i1 : (k : Int) < (n : Int) := by omega
      cases ho : ok k with
      | true =>
        rw [ho] at hcall
        have HN : Hid (allB ok (k + 1) = true) := Lib.hid (by simp only [allB]; rw [ra.out, ho]; rfl)
        clear hcall0 hv ho
        go_wp2_with fail
        refine hcall.mono ?_
        rintro e w1 ⟨rfl, hb1⟩
        have b1 := below_then rb (Nat.le_refl _) hb1
        clear hcall hcl hb1 rb ra
        go_wp2
        go_roundw
        case rel => exact ⟨k + 1, by omega, by go_num, rfl, HN, b1⟩
        case measure => simp [intOf]; omega
      | false =>
        rw [ho] at hcall
        have HN : Hid (ordAns z ok n = noS) := Lib.hid (by unfold ordAns; rw [allB_not ho n hlt]; rfl)
        clear hcall0 hv ho
        go_wp2_with fail
        refine hcall.mono ?_
        rintro e w1 ⟨rfl, hb1⟩
        have b1 := below_then rb (Nat.le_refl _) hb1
        clear hcall hcl hb1 rb ra
        go_wp2
        go_ret2
        exact ⟨ret_sA HN.out, b1⟩
    · obtain rfl : k = n := by omega
      have HN : Hid (ordAns z ok k = (z k, true)) := Lib.hid (by unfold ordAns; rw [ra.out]; rfl)
      go_wp2
      go_ret2
      exact ⟨ret_sA HN.out, rb⟩
end Go.Proofs.YtabokoodpobnnaaDoor
