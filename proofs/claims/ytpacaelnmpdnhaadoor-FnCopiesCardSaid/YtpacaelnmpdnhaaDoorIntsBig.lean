/- Slices of numbers that came in: read by index; the laws' helpers up to their own bound. -/
import Derived.Test.YtpacaelnmpdnhaaDoorSeqTable
import Derived.Test.YtpacaelnmpdnhaaDoorStrs
namespace Go.Proofs.YtpacaelnmpdnhaaDoor
open Go.RowKit
set_option linter.unusedVariables false
/-- A slice of n numbers that can be read: element i is f i. -/
def IntsR (w : World) (v : Value) (n : Nat) (f : Nat → Int) : Prop :=
  ∃ a cap, v = .slice a n cap ∧ ∀ i, i < n → ∃ x : Addr, a = some x ∧ x.block < w.heap.size ∧ w.cell? (x.add i) = some (.int .i64 (f i))
theorem IntsR.below {w w' : World} {v : Value} {n : Nat} {f : Nat → Int} (h : IntsR w v n f) (hb : Below w.heap.size w w') : IntsR w' v n f := by
  obtain ⟨a, cap, rfl, hc⟩ := h
  refine ⟨a, cap, rfl, fun i hi => ?_⟩
  obtain ⟨x, rfl, h1, h2⟩ := hc i hi
  exact ⟨x, rfl, Nat.lt_of_lt_of_le h1 hb.size, (hb.cell (p := x.add i) (by rw [add_block]; exact h1)).trans h2⟩
theorem OF.ints {w : World} {B : Nat} {v : Value} {n : Nat} {f : Nat → Int} (h : OF w B v n f) : IntsR w v n f := by
  obtain ⟨a, cap, rfl, hc⟩ := h.form
  refine ⟨a, cap, rfl, fun i hi => ?_⟩
  obtain ⟨g, rfl, _, hl, hcc⟩ := hc (by omega)
  have e : (⟨g, 0, none⟩ : Addr).add i = ⟨g, i, none⟩ := by unfold Addr.add; split <;> simp_all
  exact ⟨_, rfl, hl, by rw [e]; exact (hcc i hi).1⟩
theorem OF.empty0 (w : World) (f : Nat → Int) : OF (w.alloc (.cells #[] 3)) w.heap.size (.slice (some ⟨w.heap.size, 0, none⟩) 0 0) 0 f := by
  refine ⟨by simp, .inr ⟨w.heap.size, 0, #[], rfl, Nat.le_refl _, ?_, Nat.le_refl _, by unfold maxLen; omega, rfl, rfl⟩⟩
  show (w.heap.push _)[w.heap.size]? = _
  simp
theorem OF.under {w w' : World} {B C : Nat} {v : Value} {n : Nat} {f : Nat → Int} (h : OF w B v n f) (hC : ∀ k, v.ownBlock = some k → k < C) (hb : Below C w w') : OF w' B v n f := by
  obtain ⟨h1, ⟨rfl, rfl⟩ | ⟨g, cap, cur, rfl, hB, hg, hn, hm, hs, ht⟩⟩ := h
  · exact ⟨h1, .inl ⟨rfl, rfl⟩⟩
  · exact ⟨h1, .inr ⟨g, cap, cur, rfl, hB, (hb.block g (hC g rfl)).trans hg, hn, hm, hs, ht⟩⟩
theorem OF.made_big (w : World) (n : Nat) (hm : n ≤ 1048576) : OF (w.alloc (.cells (madeCells #[.int .i64 0] n) 3)) w.heap.size (.slice (some ⟨w.heap.size, 0, none⟩) n n) n (fun _ => 0) := by
  have hs : (madeCells #[Value.int .i64 0] n).size = n := by simp [madeCells]
  refine ⟨by simp, .inr ⟨w.heap.size, n, madeCells #[.int .i64 0] n, rfl, Nat.le_refl _, ?_, Nat.le_refl _, by unfold maxLen; omega, by rw [hs]; omega, ?_⟩⟩
  · show (w.heap.push _)[w.heap.size]? = _
    simp
  · apply List.ext_getElem?
    intro j
    by_cases hj : j < n
    · simp [madeCells, hj, Nat.mod_one]
    · simp [hj, hs]
theorem make_ints_big (n : Nat) (h : n ≤ 1048576) (w : World) :
    (Instr.makeSlice 31 (.int .i64 (n : Int)) (.int .i64 (n : Int))).run Tryd.prog w = .ok (.slice (some ⟨w.heap.size, 0, none⟩) n n) (w.alloc (.cells (madeCells #[.int .i64 0] n) 3)) :=
  run_make_row' (P := Tryd.prog) 31 3 (.int .i64 0) 8 (by kernel_rfl) (by kernel_rfl) rfl .i64 .i64 n (by omega) (by omega) w
set_option maxRecDepth 100000 in
theorem eqIntS_big (v u : Value) (B C n : Nat) (f : Nat → Int) (w : World) (hv : OF w B v n f) (hu : OF w C u n f) (hn : n ≤ 1048576) :
    Calls Tryd.prog 20 #[v, u] w fun e w' => e = .returned (.bool true) ∧ ∃ m, w' = w.drewN m := by
  obtain ⟨a, cap, rfl, ha⟩ := hv.form
  obtain ⟨b, cap', rfl, hb⟩ := hu.form
  clear hv hu
  by_cases h0 : 0 < n
  · obtain ⟨g, rfl, _, _, hg⟩ := ha h0
    obtain ⟨g', rfl, _, _, hg'⟩ := hb h0
    have HG := Lib.hid hg
    have HG' := Lib.hid hg'
    clear ha hb hg hg'
    go_enter Tryd.func20, Tryd.ntmps20
    go_wp2
    go_loopw [5] (fun i wr => ∃ k m : Nat, k ≤ n ∧ i = .int .i64 k ∧ wr = w.drewN m) (fun i _ => n - (intOf i).toNat)
    case atStart => exact ⟨0, 0, by omega, rfl, rfl⟩
    case round =>
      obtain ⟨k, m, hk, rfl, rfl⟩ := hrel
      by_cases hlt : k < n
      · have c1 : (w.drewN m).cell? ⟨g, k, none⟩ = some (.int .i64 (f k)) := (HG.out k hlt).1
        have c2 : (w.drewN m).cell? ⟨g', k, none⟩ = some (.int .i64 (f k)) := (HG'.out k hlt).1
        obtain ⟨W, hW⟩ : ∃ W, w.drewN m = W := ⟨_, rfl⟩
        rw [hW] at c1 c2 ⊢
        have HW := Lib.hid hW
        have i0 : (0 : Int) ≤ (k : Int) := by omega
        have i1 : (k : Int) < (n : Int) := by omega
        clear hW
        go_wp2_with fail
        go_quiet (fail)
        clear c1 c2
        go_wp2
        go_roundw
        case rel => exact ⟨k + 1, m + nq, by omega, by go_num, by rw [← HW.out, World.drewN_drewN]⟩
        case measure => simp [intOf]; omega
      · obtain rfl : k = n := by omega
        go_wp2
        go_ret
        exact ⟨rfl, m, rfl⟩
  · obtain rfl : n = 0 := by omega
    clear ha hb
    go_enter Tryd.func20, Tryd.ntmps20
    go_wp2
    go_loop [5] (fun i => i = .int .i64 (0 : Nat)) (fun i => (intOf i).toNat)
    case atStart => exact rfl
    case round =>
      obtain rfl := hrel
      go_wp2
      go_ret
      exact ⟨rfl, 0, rfl⟩
set_option maxRecDepth 100000 in
theorem toIntS_any (v : Value) (n : Nat) (f : Nat → Int) (w : World) (h : IntsR w v n f) (hn : n ≤ 1048576) :
    Calls Tryd.prog 18 #[v] w fun e w' => ∃ v', e = .returned v' ∧ OF w' w.heap.size v' n f ∧ Below w.heap.size w w' := by
  obtain ⟨a, cap, rfl, hc⟩ := h
  have hmk := make_ints_big n (by omega)
  have HC := Lib.hid hc
  clear hc
  go_enter Tryd.func18, Tryd.ntmps18
  go_wp2
  go_loopw [4] (fun i wr => ∃ k : Nat, k ≤ n ∧ i = .int .i64 k ∧ OF wr w.heap.size (.slice (some ⟨w.heap.size, 0, none⟩) n n) n (fun j => if j < k then f j else 0) ∧ Below w.heap.size w wr) (fun i _ => n - (intOf i).toNat)
  case atStart => exact ⟨0, by omega, rfl, (OF.made_big w n (by omega)).congr (fun j _ => by simp), (Below.refl _ _).alloc (Nat.le_refl _) _⟩
  case round =>
    obtain ⟨k, hk, rfl, rO, rb⟩ := hrel
    clear hmk
    by_cases hlt : k < n
    · obtain ⟨x, rfl, hx, hcc⟩ := HC.out k hlt
      rw [← rb.cell (p := x.add k) (by rw [add_block]; exact hx)] at hcc
      obtain ⟨c1, c2⟩ := rO.at k hlt
      obtain ⟨y, hy⟩ : ∃ y, f k = y := ⟨_, rfl⟩
      rw [hy] at hcc
      have i0 : (0 : Int) ≤ (k : Int) := by omega
      have i1 : (k : Int) < (n : Int) := by omega
      have nO : Hid (OF (wr.setCell ⟨w.heap.size, k, none⟩ (.int .i64 y)) w.heap.size (.slice (some ⟨w.heap.size, 0, none⟩) n n) n (fun j => if j < k + 1 then f j else 0)) :=
        Lib.hid (rO.set k y hlt (fun j hj => by
          by_cases e : j = k
          · subst e; rw [if_pos (by omega), if_pos rfl]; exact hy
          · rw [if_neg e]
            by_cases e' : j < k
            · rw [if_pos (by omega), if_pos e']
            · rw [if_neg (by omega), if_neg e']))
      have nb : Hid (Below w.heap.size w (wr.setCell ⟨w.heap.size, k, none⟩ (.int .i64 y))) := Lib.hid (rb.setCell (p := ⟨w.heap.size, k, none⟩) (Nat.le_refl _) _)
      clear hy rO rb hx
      go_wp2
      go_roundw
      case rel => exact ⟨k + 1, by omega, by go_num, nO.out, nb.out⟩
      case measure => simp [intOf]; omega
    · obtain rfl : k = n := by omega
      have nO := Lib.hid (rO.congr (g := f) (fun j hj => by rw [if_pos hj]))
      clear rO
      go_wp2
      go_ret
      exact ⟨_, rfl, nO.out, rb⟩
end Go.Proofs.YtpacaelnmpdnhaaDoor
