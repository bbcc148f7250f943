/- The draws of SendHops and CopiesNeeded. -/
import Derived.Test.YtpacaelnmpdnhaaDoorDrawHop2
import Derived.Test.YtpacaelnmpdnhaaDoorDrawFrm
import Derived.Test.YtpacaelnmpdnhaaDoorDrawBits
namespace Go.Proofs.YtpacaelnmpdnhaaDoor
open Go.RowKit
set_option linter.unusedVariables false
set_option maxRecDepth 100000
/-- Data, hops and a set of channels were drawn. -/
def DrawSend (w : World) (e : Ending) (w' : World) : Prop := ∃ (z : ByteArray) (v : Value) (n : Nat) (f : Nat → Int) (u : Value) (m : Nat) (g : Nat → Int), e = .returned (.tuple #[.string z, v, u]) ∧ z.size ≤ 700 ∧ OF w' w.heap.size v n f ∧ n ≤ 301 ∧ (∀ j, j < n → FitsI (f j)) ∧ OF w' w.heap.size u m g ∧ m ≤ 17 ∧ (∀ j, j < m → -1 ≤ g j ∧ g j ≤ 16) ∧ Below w.heap.size w w'
set_option maxHeartbeats 800000 in
theorem drawSend_any (a : Option Addr) (len cap : Nat) (zs : List Int) (w : World) (h : IsBytes w a len cap zs) :
    Calls Tryd.prog 21 #[.slice a len cap] w (DrawSend w) := by
  go_enter Tryd.func21, Tryd.ntmps21
  go_wp2_with fail
  refine (open_any a len cap zs _ h).mono ?_
  rintro e w1 ⟨b, ys, rfl, hr, hb, hlb⟩
  go_wp2_with fail
  refine (l7Some_any b 0 ys _ hr (by omega)).mono ?_
  rintro e w2 ⟨v, n, f, c, q, rfl, O2, hn1, hn, hc1, hc2, hf, hq, hr2, hg2⟩
  have b2 := below_grown hb (Nat.le_refl _) hg2 hlb
  have hb1 := hr.1
  have hs1 : w.heap.size ≤ w1.heap.size := hb.size
  have hs2 : w1.heap.size ≤ w2.heap.size := hg2.size
  have HFF : Hid (∀ j, j < n → FitsI (f j)) := Lib.hid (fun j hj => by have := hf j hj; unfold FitsI; omega)
  clear hr hf hn1 hb hg2
  go_wp2_with fail
  refine (l1String_bits b q 20 ys _ hr2 (by omega) (by omega)).mono ?_
  rintro e w3 ⟨z1, q3, rfl, ho1, hz1, hq3, hr3, hg3⟩
  have b3 := below_grown b2 (Nat.le_refl _) hg3 hlb
  have O3 := O2.kept hg3 (own_ne O2 hb1)
  have hs3 : w1.heap.size ≤ w3.heap.size := Nat.le_trans hs2 hg3.size
  clear hr2 b2 O2 hg3 ho1 hs2
  go_wp2_with fail
  refine (l6Wild_any b q3 ys z1 _ hr3 (by omega) (by omega)).mono ?_
  rintro e w4 ⟨z, q4, rfl, hz, hq4, hr4, hg4⟩
  have b4 := below_grown b3 (Nat.le_refl _) hg4 hlb
  have O4 := O3.kept hg4 (own_ne O3 hb1)
  have hs4 : w1.heap.size ≤ w4.heap.size := Nat.le_trans hs3 hg4.size
  clear hr3 b3 O3 hg4 hs3
  go_wp2_with fail
  refine (l7Bad_any b q4 w1.heap.size ys v n f _ hr4 (by omega) O4 (by omega) HFF.out hb1 hs4).mono ?_
  rintro e w6 ⟨u, m, g, q2, rfl, O6, hm, hg, hq2, hr6, W, hgw, hgv⟩
  have b6 := b4.grown hgw b4.size (fun k e => by cases e; omega)
  have b7 := b6.grown hgv b6.size (fun k e => by have := (O4.lt k e).1; omega)
  have HG := Lib.hid hg
  clear hr4 b4 hg hgw hgv b6 HFF O4
  go_wp2_with fail
  refine (l7Set_any b q2 c ys _ hr6 (by omega) hc1 hc2).mono ?_
  rintro e w7 ⟨x, l, y, q5, rfl, O7, hl, hy, hq5, hr7, hg7⟩
  have b8 := below_grown b7 (Nat.le_refl _) hg7 hlb
  have O8 := (O6.kept hg7 (own_ne O6 hb1)).mono hs1
  have O9 := O7.mono b7.size
  have HY := Lib.hid hy
  clear hr6 hr7 hg7 b7 O6 O7 hy
  go_wp2
  refine bodyPost_ret (v := .tuple #[.string z, u, x]) (by simp [results, Tryd.results21, go_sem]) rfl ?_
  exact ⟨z, u, m, g, x, l, y, rfl, hz, O8, hm, HG.out, O9, hl, HY.out, b8⟩
/-- Data, hops, a set of channels and a number were drawn. -/
def DrawNeed (w : World) (e : Ending) (w' : World) : Prop := ∃ (z : ByteArray) (v : Value) (n : Nat) (f : Nat → Int) (u : Value) (m : Nat) (g : Nat → Int) (M : Int), e = .returned (.tuple #[.string z, v, u, .int .i64 M]) ∧ z.size ≤ 700 ∧ OF w' w.heap.size v n f ∧ n ≤ 301 ∧ (∀ j, j < n → FitsI (f j)) ∧ OF w' w.heap.size u m g ∧ m ≤ 17 ∧ (∀ j, j < m → -1 ≤ g j ∧ g j ≤ 16) ∧ (-1 ≤ M ∧ M ≤ 17) ∧ Below w.heap.size w w'
set_option maxHeartbeats 800000 in
theorem drawNeed_any (a : Option Addr) (len cap : Nat) (zs : List Int) (w : World) (h : IsBytes w a len cap zs) :
    Calls Tryd.prog 27 #[.slice a len cap] w (DrawNeed w) := by
  go_enter Tryd.func27, Tryd.ntmps27
  go_wp2_with fail
  refine (open_any a len cap zs _ h).mono ?_
  rintro e w1 ⟨b, ys, rfl, hr, hb, hlb⟩
  have hs1 : w.heap.size ≤ w1.heap.size := hb.size
  have hb1 := hr.1
  go_wp2_with fail
  refine (drawSend_any a len cap zs _ (h.below hb)).mono ?_
  rintro e w2 ⟨z, v, n, f, u, m, g, rfl, hz, O2, hn, hf, P2, hm, hg, hb2⟩
  have b2 := below_then hb (Nat.le_refl _) hb2
  have hr2 := hr.below hb2
  have HF := Lib.hid hf
  have HG := Lib.hid hg
  clear hb hr hb2 h hf hg
  go_wp2_with fail
  refine (pick_any b 0 12 ys _ hr2 (by omega) (by omega) (by omega)).mono ?_
  rintro e w3 ⟨k, hk, rfl, hr3, hg3⟩
  have b3 := below_grown b2 (Nat.le_refl _) hg3 hlb
  have O3 := O2.kept hg3 (own_ne O2 hb1)
  have P3 := P2.kept hg3 (own_ne P2 hb1)
  clear b2 O2 P2 hr2 hg3
  by_cases k0 : k = 0
  · subst k0
    go_wp2_with fail
    refine (num_any b 1 ys _ w3.heap.size 4 [0, 16, 17, -1] (hr3.alloc _) (IntsAt.new w3 _ [0, 16, 17, -1]) rfl hr3.1 (by omega) (by omega) (by omega)).mono ?_
    rintro e w4 ⟨M, hM, rfl, hr4, hg4'⟩
    have hM2 : -1 ≤ M ∧ M ≤ 17 := by
      simp only [List.mem_cons, List.not_mem_nil, or_false] at hM
      omega
    have hg4 := (World.grownBy_alloc w3 (.cells #[.int .i64 0, .int .i64 16, .int .i64 17, .int .i64 (-1)] 3) (some b)).trans hg4'
    have b4 := below_grown b3 (Nat.le_refl _) hg4 hlb
    have O4 := (O3.kept hg4 (own_ne O3 hb1)).mono hs1
    have P4 := (P3.kept hg4 (own_ne P3 hb1)).mono hs1
    clear b3 O3 P3 hM hg4' hg4
    go_wp2
    refine bodyPost_ret (v := .tuple #[.string z, v, u, .int .i64 M]) (by simp [results, Tryd.results27, go_sem]) rfl ?_
    exact ⟨z, v, n, f, u, m, g, M, rfl, hz, O4, hn, HF.out, P4, hm, HG.out, hM2, b4⟩
  · have e0 : ((k : Int) == 0) = false := by rw [beq_eq_false_iff_ne]; omega
    clear k0
    go_wp2_with fail
    refine (pick_any b 1 8 ys _ hr3 (by omega) (by omega) (by omega)).mono ?_
    rintro e w4 ⟨M, hM, rfl, hr4, hg4⟩
    have b4 := below_grown b3 (Nat.le_refl _) hg4 hlb
    have O4 := (O3.kept hg4 (own_ne O3 hb1)).mono hs1
    have P4 := (P3.kept hg4 (own_ne P3 hb1)).mono hs1
    clear b3 O3 P3 hg4
    go_wp2
    refine bodyPost_ret (v := .tuple #[.string z, v, u, .int .i64 (1 + (M : Int))]) (by simp [results, Tryd.results27, go_sem]) rfl ?_
    exact ⟨z, v, n, f, u, m, g, _, rfl, hz, O4, hn, HF.out, P4, hm, HG.out, by omega, b4⟩
end Go.Proofs.YtpacaelnmpdnhaaDoor
