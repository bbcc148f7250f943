/- Draws: RakeReceive. -/
import Derived.Test.YthfcfnamaedffaaDrawUser4
import Derived.Test.YthfcfnamaedffaaSeqTable
import Derived.Test.YthfcfnamaedffaaSig4
import Derived.BigQuiet
namespace Go.Proofs.Ythfcfnamaedffaa
open Go.RowKit
set_option linter.unusedVariables false
set_option maxRecDepth 100000
theorem OF.single (w : World) (y : Int) : OF (w.alloc (.cells #[.int .i64 y] 3)) w.heap.size (.slice (some ⟨w.heap.size, 0, none⟩) 1 1) 1 (fun _ => y) := by
  refine ⟨by simp, .inr ⟨w.heap.size, 1, #[.int .i64 y], rfl, Nat.le_refl _, ?_, Nat.le_refl _, by unfold maxLen; omega, rfl, rfl⟩⟩
  show (w.heap.push _)[w.heap.size]? = _
  simp
/-- The first m numbers of a slice, by x[:m]. -/
theorem headC {w : World} {a : Option Addr} {n cap : Nat} {f : Nat → Int} (h : IntsC w (.slice a n cap) n f) (m : Nat) (y : Int) (hy : y = (m : Int)) (hm : m ≤ n) : (∀ w1, (Instr.sliceAt 25 (.slice a n cap) none (some (.int .i64 y)) none).run Try.prog w1 = .ok (.slice a m cap) w1) ∧
    IntsC w (.slice a m cap) m f := by
  obtain ⟨a', cap', e, hcap, hc⟩ := h
  injection e with e1 e2 e3
  subst e1 e3
  subst hy
  refine ⟨fun w1 => ?_, ⟨a, cap, rfl, by omega, fun i hi => hc i (by omega)⟩⟩
  rw [run_sliceAt_slice w1 25 _ _ _ _ (by kernel_rfl), run_slice_h w1 25 a n cap (by kernel_rfl) .i64 _ (by omega) (by omega), ints_elem]
  simp [Result.andThen, sliced]
  intro _
  cases a with
  | none => rfl
  | some x =>
    show some (x.add 0) = some x
    congr 1
/-- A signal, a code, delays and a number of bits were drawn. -/
def RkPost (w : World) (e : Ending) (w' : World) : Prop :=
  ∃ (v : Value) (n : Nat) (f : Nat → Int) (z : ByteArray) (dv : Value) (m : Nat) (g : Nat → Int) (c : Int), e = .returned (.tuple #[v, .string z, dv, .int .i64 c]) ∧ OF w' w.heap.size v n f ∧ n ≤ 3001 ∧ z.size ≤ 1000 ∧ IntsC w' dv m g ∧ m ≤ 3 ∧ Below w.heap.size w w'
set_option maxHeartbeats 3200000 in
theorem drawRake_any (a : Option Addr) (len cap : Nat) (zs : List Int) (w : World) (h : IsBytes w a len cap zs) :
    Calls Try.prog 39 #[.slice a len cap] w (RkPost w) := by
  go_enter Try.func39, Try.ntmps39
  go_wp2_with fail
  refine (open_any a len cap zs _ h).mono ?_
  rintro e w1 ⟨b, ys, rfl, hr, hb, hlb⟩
  go_wp2_with fail
  refine (l4Heard_any b 0 ys _ hr (by omega)).mono ?_
  rintro e w2 ⟨v, n, f, z, d, c, q, rfl, O, hn, hf, hz, hd, hc, hq, hr2, hg2⟩
  have b2 := Lib.hid (below_grown hb (Nat.le_refl _) hg2 hlb)
  have O2 := Lib.hid (O.mono hb.size)
  have HOB := Lib.hid (O.offb hr.1)
  have hb2 := hr2.1
  have hlb2 := b2.out.size
  have D0 := OF.single w2 d
  have hr3 := hr2.alloc (.cells #[.int .i64 d] 3)
  have hg3 := World.grownBy_alloc w2 (.cells #[.int .i64 d] 3) (some b)
  clear hr hb hg2 hf O hr2 hd hc
  go_wp2_with fail
  refine (pick_any b q 3 ys _ hr3 (by omega) (by omega) (by omega)).mono ?_
  rintro e w4 ⟨k1, hk1, rfl, hr4, hg4⟩
  have D4 := Lib.hid (D0.kept hg4 (D0.offb hb2))
  have hg4' := Lib.hid (hg3.trans hg4)
  have HR4 := Lib.hid hr4
  clear D0 hr3 hg3 hr4 hg4
  go_wp2_with fail
  go_loopw [11, 12] (fun dv t wr => ∃ (k i : Nat) (g : Nat → Int), t = .int .i64 (k : Int) ∧ i + k ≤ 3 ∧ 1 ≤ i ∧ OF wr w2.heap.size dv i g ∧ RdAt wr b (q + i) ys ∧ w2.grownBy wr (some b)) (fun _ t _ => (intOf t).toNat)
  case atStart => exact ⟨k1, 1, _, rfl, by omega, by omega, D4.out, HR4.out, hg4'.out⟩
  case round =>
    obtain ⟨k, i, g, rfl, hik, hi1, rO, rR, rg⟩ := hrel
    clear D4 HR4 hg4'
    by_cases hk : 0 < k
    · have k0 : (0 : Int) < (k : Int) := by omega
      go_wp2_with fail
      refine (pick_any b (q + i) 9 ys _ rR (by omega) (by omega) (by omega)).mono ?_
      rintro e w5 ⟨k9, hk9, rfl, hr5, hg5⟩
      have O5 := rO.kept hg5 (rO.offb hb2)
      have g5 := rg.trans hg5
      have hs5 := g5.size
      clear rO rR rg hg5 hk9
      have hgr : ∀ w6 : World, ∀ row, (w5.alloc (.cells #[.int .i64 (k9 : Int)] 3)).grownBy w6 row → (∀ j, row = some j → w2.heap.size ≤ j) → w2.grownBy w6 (some b) := fun w6 row g6 hj => (g5.trans (World.grownBy_alloc w5 (.cells #[.int .i64 (k9 : Int)] 3) (some b))).andThen g6 (fun j e => .inl (hj j e))
      have HGR := Lib.hid hgr
      have HOL := Lib.hid (fun j hj => (O5.lt j hj).1)
      have HRR : Hid (∀ (w6 : World) (row : Option Nat), (w5.alloc (.cells #[.int .i64 (k9 : Int)] 3)).grownBy w6 row → (∀ j, row = some j → w2.heap.size ≤ j) → RdAt w6 b (q + i + 1) ys) := Lib.hid (fun w6 row g6 hj => (hr5.alloc (.cells #[.int .i64 (k9 : Int)] 3)).kept g6 (fun j e => Nat.lt_of_lt_of_le hb2 (hj j e)))
      clear hgr g5 hr5
      go_wp2_with (at_builtin; refine wpList_append_int rfl (.tmp 30) (.tmp 33) rfl w2.heap.size _ i g rfl (O5.alloc _) w5.heap.size 1 (k9 : Int) rfl (by simp) (by omega) (by simp; omega) ?_; intro v' w6 O6 g6; have hgg := Lib.hid (HGR.out w6 _ g6 HOL.out); have hrr := Lib.hid (HRR.out w6 _ g6 HOL.out); clear O5 hs5 g6)
      go_roundw
      case rel => exact ⟨k - 1, i + 1, _, by go_num, by omega, by omega, O6, hrr.out, hgg.out⟩
      case measure => simp [intOf]; omega
    · have k0 : ¬ (0 : Int) < (k : Int) := by omega
      go_wp2_with fail
      refine (pick_any b (q + i) 24 ys _ rR (by omega) (by omega) (by omega)).mono ?_
      rintro e w5 ⟨k9, hk9, rfl, hr5, hg5⟩
      have O5 := rO.kept hg5 (rO.offb hb2)
      have g5 := rg.trans hg5
      have S5 := O2.out.kept g5 HOB.out
      have b5 := below_grown b2.out (Nat.le_refl _) g5 hlb
      obtain ⟨da, dc, rfl, -⟩ := O5.form
      have H5 := O5.intsC
      clear rO rR rg hg5 O5 g5 hr5
      by_cases c0 : k9 = 0
      · subst c0
        obtain ⟨hh, H6⟩ := headC H5 0 0 rfl (Nat.zero_le _)
        clear H5 hk9
        go_wp2_with fail
        go_quiet (fail)
        have H7 := H6.below (below_drewN (Below.refl _ _) nq)
        have S7 := S5.drewN nq
        have b7 := below_drewN b5 nq
        clear H6 S5 b5 hh
        go_wp2
        try simp only [Exit.inBlock, Exit.then]
        refine bodyPost_ret (results_tmp4 rfl _ _ _) rfl ?_
        exact ⟨v, n, f, z, _, 0, g, c, rfl, S7, hn, hz, H7, by omega, b7⟩
      · go_wp2
        try simp only [Exit.inBlock, Exit.then]
        refine bodyPost_ret (results_tmp4 rfl _ _ _) rfl ?_
        exact ⟨v, n, f, z, _, i, g, c, rfl, S5, hn, hz, H5, by omega, b5⟩
end Go.Proofs.Ythfcfnamaedffaa
