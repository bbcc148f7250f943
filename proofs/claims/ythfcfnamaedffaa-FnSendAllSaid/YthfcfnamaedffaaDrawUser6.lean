/- Draws: l4BadList. -/
import Derived.Test.YthfcfnamaedffaaDrawUser3
namespace Go.Proofs.Ythfcfnamaedffaa
open Go.RowKit
set_option linter.unusedVariables false
set_option maxRecDepth 100000
/-- A user with strings of at most N bytes. -/
def BdU (N : Nat) (u : Usr) : Prop := u.code.size ≤ N ∧ u.data.size ≤ N ∧ FitsI u.gain ∧ FitsI u.delay
theorem BdU.mono {N M : Nat} {u : Usr} (h : BdU N u) (hm : N ≤ M) : BdU M u := ⟨Nat.le_trans h.1 hm, Nat.le_trans h.2.1 hm, h.2.2⟩
theorem DrU.bd {u : Usr} (h : DrU u) : BdU 300 u := by
  obtain ⟨_, h1, _, h2, h3, h4, h5, h6⟩ := h
  exact ⟨by omega, by omega, by unfold FitsI; omega, by unfold FitsI; omega⟩
theorem bd_up {N M n : Nat} {f : Nat → Usr} {k : Nat} {u : Usr} (h : ∀ i, i < n → BdU N (f i)) (hm : N ≤ M) (hu : BdU M u) : ∀ i, i < n → BdU M (upU f k u i) := fun i hi => by
  unfold upU
  split
  · exact hu
  · exact (h i hi).mono hm
theorem cell_grown (g : Nat) (W : World) (p : Nat) (u : Value) : W.grownBy (W.setCell ⟨g, p, none⟩ u) (some g) := ⟨rfl, rfl, rfl, by simp, fun k hk hne => Below.heap_setCell _ _ _ _ (fun e => hne (by rw [e]))⟩
/-- A list was handed back, one of its users perhaps spoilt. -/
def BadLPost (n b p : Nat) (zs : List Int) (w0 : World) (e : Ending) (w' : World) : Prop :=
  ∃ (u : Value) (N : Nat) (F : Nat → Usr) (q : Nat), e = .returned u ∧ UF w' w0.heap.size u N F ∧ N ≤ 9 ∧ (n = 0 ∨ 1 ≤ N) ∧ (∀ i, i < N → BdU 1000 (F i)) ∧ q ≤ p + 310 ∧ RdAt w' b q zs ∧ w0.grownBy w' (some b)
def slLen : Value → Nat
  | .slice _ n _ => n
  | _ => 0
set_option maxHeartbeats 3200000 in
theorem l4BadList_any (b p : Nat) (zs : List Int) (v : Value) (n : Nat) (f : Nat → Usr) (w0 w : World) (hr : RdAt w b p zs) (hp : p ≤ 700000) (hv : UF w w0.heap.size v n f) (hb : b < w0.heap.size) (hn : n ≤ 9) (hd : ∀ i, i < n → BdU 300 (f i)) (hg : w0.grownBy w (some b)) :
    Calls Try.prog 73 #[.pointer (some ⟨b, 0, none⟩), v] w (BadLPost n b p zs w0) := by
  obtain ⟨a, cap, rfl, hf⟩ := hv.form
  by_cases hn0 : n = 0
  · subst hn0
    go_enter Try.func73, Try.ntmps73
    go_wp2
    go_ret
    exact ⟨_, 0, f, p, rfl, hv, by omega, .inl rfl, fun i hi => absurd hi (Nat.not_lt_zero _), by omega, hr, hg⟩
  · obtain ⟨g, rfl, hg1, hg2⟩ := hf (by omega)
    have l0 : ¬ ((n : Int) = 0) := by omega
    have HD := Lib.hid hd
    have HOF := Lib.hid (hv.off hb)
    clear hf hg2 hd
    go_enter Try.func73, Try.ntmps73
    go_wp2_with fail
    refine (pick_any b p n zs _ hr (by omega) (by omega) (by omega)).mono ?_
    rintro e w1 ⟨k, hk, rfl, hr1, h1⟩
    have O1 := hv.kept h1 HOF.out
    have gg1 := hg.trans h1
    clear hr hg hv h1
    go_wp2_with fail
    refine (pick_any b (p + 1) 30 zs _ hr1 (by omega) (by omega) (by omega)).mono ?_
    rintro e w2 ⟨k2, hk2, rfl, hr2, h2⟩
    have O2 := O1.kept h2 HOF.out
    have gg2 := gg1.trans h2
    clear hr1 gg1 O1 h2
    obtain ⟨q1, hq1⟩ : ∃ q, p + 1 + 1 = q := ⟨_, rfl⟩
    rw [hq1] at hr2
    have hne : b < g := by omega
    have i0 : (0 : Int) ≤ (k : Int) := by omega
    have i1 : (k : Int) < (n : Int) := by omega
    by_cases e0 : k2 = 0
    · subst e0
      clear hk2
      obtain ⟨C, hC⟩ : ∃ C, (f k).code = C := ⟨_, rfl⟩
      obtain ⟨c0, c1, c2, c3⟩ := O2.cells k hk
      rw [hC] at c0
      have hCs : C.size ≤ 300 := by rw [← hC]; exact (HD.out k hk).1
      have s1 : C.size + ByteArray.size ⟨#[48]⟩ ≤ 9223372036854775807 := by show C.size + 1 ≤ _; omega
      have hZs : (C ++ ⟨#[48]⟩ : ByteArray).size ≤ 900 := by rw [ByteArray.size_append]; show C.size + 1 ≤ _; omega
      obtain ⟨Z, hZ⟩ : ∃ Z : ByteArray, C ++ ⟨#[48]⟩ = Z := ⟨_, rfl⟩
      rw [hZ] at hZs
      clear hC
      go_wp2_with fail
      refine (l2Bad_big b q1 zs Z _ hr2 (by omega) hZs).mono ?_
      rintro e w6 ⟨y, q6, rfl, hy, hq6, hr6, h6⟩
      have O6 := O2.kept h6 HOF.out
      have gg6 := gg2.trans h6
      clear O2 gg2 h6 c0 c1 c2 c3 hr2
      have O7 := Lib.hid (O6.set0 k y)
      have g7 := cell_grown g w6 (k * 4) (.string y)
      have hr7 := Lib.hid (hr6.kept g7 (fun j e => by cases e; exact hne))
      have gg7 := Lib.hid (gg6.andThen g7 (fun j e => by cases e; exact .inl hg1))
      have HBD := Lib.hid (bd_up (k := k) HD.out (show 300 ≤ 1000 by omega) (u := ⟨y, (f k).data, (f k).gain, (f k).delay⟩) ⟨hy, by have := (HD.out k hk).2.1; show (f k).data.size ≤ 1000; omega, (HD.out k hk).2.2⟩)
      obtain ⟨c0, c1, c2, c3⟩ := O6.cells k hk
      have fr := O6.free
      clear O6 g7 hr6 gg6
      go_wp2
      go_ret
      exact ⟨_, n, _, q6, rfl, O7.out, hn, .inr (by omega), HBD.out, by omega, hr7.out, gg7.out⟩
    by_cases e1 : k2 = 1
    · subst e1
      clear hk2
      go_wp2_with fail
      refine (num_any b q1 zs _ w2.heap.size 4 [-1, 0, 1000, 1001] (hr2.alloc _) (IntsAt.new w2 _ [-1, 0, 1000, 1001]) rfl hr2.1 (by omega) (by omega) (by omega)).mono ?_
      rintro e w6 ⟨y, hy, rfl, hr6, h6⟩
      have h6' := (World.grownBy_alloc w2 (.cells #[.int .i64 (-1), .int .i64 0, .int .i64 1000, .int .i64 1001] 3) (some b)).trans h6
      have O6 := O2.kept h6' HOF.out
      have gg6 := gg2.trans h6'
      have hyF : FitsI y := by
        simp only [List.mem_cons, List.not_mem_nil, or_false] at hy
        unfold FitsI; omega
      clear O2 gg2 h6 h6' hr2 hy
      have O7 := Lib.hid (O6.set2 k y)
      have g7 := cell_grown g w6 (k * 4 + 2) (.int .i64 y)
      have hr7 := Lib.hid (hr6.kept g7 (fun j e => by cases e; exact hne))
      have gg7 := Lib.hid (gg6.andThen g7 (fun j e => by cases e; exact .inl hg1))
      have HBD := Lib.hid (bd_up (k := k) HD.out (show 300 ≤ 1000 by omega) (u := ⟨(f k).code, (f k).data, y, (f k).delay⟩) ⟨by have := (HD.out k hk).1; show (f k).code.size ≤ 1000; omega, by have := (HD.out k hk).2.1; show (f k).data.size ≤ 1000; omega, hyF, (HD.out k hk).2.2.2⟩)
      obtain ⟨c0, c1, c2, c3⟩ := O6.cells k hk
      have fr := O6.free
      clear O6 g7 hr6 gg6
      go_wp2
      go_ret
      exact ⟨_, n, _, q1 + 1, rfl, O7.out, hn, .inr (by omega), HBD.out, by omega, hr7.out, gg7.out⟩
    by_cases e2 : k2 = 2
    · subst e2
      clear hk2
      go_wp2_with fail
      refine (num_any b q1 zs _ w2.heap.size 4 [-1, 1000, 1001, 9223372036854775807] (hr2.alloc _) (IntsAt.new w2 _ [-1, 1000, 1001, 9223372036854775807]) rfl hr2.1 (by omega) (by omega) (by omega)).mono ?_
      rintro e w6 ⟨y, hy, rfl, hr6, h6⟩
      have h6' := (World.grownBy_alloc w2 (.cells #[.int .i64 (-1), .int .i64 1000, .int .i64 1001, .int .i64 9223372036854775807] 3) (some b)).trans h6
      have O6 := O2.kept h6' HOF.out
      have gg6 := gg2.trans h6'
      have hyF : FitsI y := by
        simp only [List.mem_cons, List.not_mem_nil, or_false] at hy
        unfold FitsI; omega
      clear O2 gg2 h6 h6' hr2 hy
      have O7 := Lib.hid (O6.set3 k y)
      have g7 := cell_grown g w6 (k * 4 + 3) (.int .i64 y)
      have hr7 := Lib.hid (hr6.kept g7 (fun j e => by cases e; exact hne))
      have gg7 := Lib.hid (gg6.andThen g7 (fun j e => by cases e; exact .inl hg1))
      have HBD := Lib.hid (bd_up (k := k) HD.out (show 300 ≤ 1000 by omega) (u := ⟨(f k).code, (f k).data, (f k).gain, y⟩) ⟨by have := (HD.out k hk).1; show (f k).code.size ≤ 1000; omega, by have := (HD.out k hk).2.1; show (f k).data.size ≤ 1000; omega, (HD.out k hk).2.2.1, hyF⟩)
      obtain ⟨c0, c1, c2, c3⟩ := O6.cells k hk
      have fr := O6.free
      clear O6 g7 hr6 gg6
      go_wp2
      go_ret
      exact ⟨_, n, _, q1 + 1, rfl, O7.out, hn, .inr (by omega), HBD.out, by omega, hr7.out, gg7.out⟩
    by_cases e3 : k2 = 3
    · subst e3
      clear hk2
      obtain ⟨C, hC⟩ : ∃ C, (f k).data = C := ⟨_, rfl⟩
      obtain ⟨c0, c1, c2, c3⟩ := O2.cells k hk
      have fr := O2.free
      rw [hC] at c1
      have hCs : C.size ≤ 300 := by rw [← hC]; exact (HD.out k hk).2.1
      have s1 : C.size + ByteArray.size ⟨#[50]⟩ ≤ 9223372036854775807 := by show C.size + 1 ≤ _; omega
      have hYs : (C ++ ⟨#[50]⟩ : ByteArray).size ≤ 1000 := by rw [ByteArray.size_append]; show C.size + 1 ≤ _; omega
      obtain ⟨Y, hY⟩ : ∃ Y : ByteArray, C ++ ⟨#[50]⟩ = Y := ⟨_, rfl⟩
      rw [hY] at hYs
      have O7 := Lib.hid (O2.set1 k Y)
      have g7 := cell_grown g w2 (k * 4 + 1) (.string Y)
      have hr7 := Lib.hid (hr2.kept g7 (fun j e => by cases e; exact hne))
      have gg7 := Lib.hid (gg2.andThen g7 (fun j e => by cases e; exact .inl hg1))
      have HBD := Lib.hid (bd_up (k := k) HD.out (show 300 ≤ 1000 by omega) (u := ⟨(f k).code, Y, (f k).gain, (f k).delay⟩) ⟨by have := (HD.out k hk).1; show (f k).code.size ≤ 1000; omega, hYs, (HD.out k hk).2.2⟩)
      clear O2 g7 hr2 gg2 hC hYs
      go_wp2
      go_ret
      exact ⟨_, n, _, q1, rfl, O7.out, hn, .inr (by omega), HBD.out, by omega, hr7.out, gg7.out⟩
    by_cases e4 : k2 = 4
    · subst e4
      clear hk2 i0 i1
      have HO := Lib.hid O2
      have HG := Lib.hid gg2
      have HR := Lib.hid hr2
      clear O2 gg2 hr2
      go_wp2_with fail
      go_loopw [1] (fun u wr => ∃ (j : Nat) (F : Nat → Usr), 1 ≤ j ∧ j ≤ 9 ∧ UF wr w0.heap.size u j F ∧ Hid (∀ i, i < j → BdU 300 (F i)) ∧ RdAt wr b q1 zs ∧ w0.grownBy wr (some b)) (fun u _ => 9 - slLen u)
      case atStart => exact ⟨n, f, by omega, hn, HO.out, HD, HR.out, HG.out⟩
      case round =>
        obtain ⟨j, F, hj1, hj9, rO, rF, rR, rg⟩ := hrel
        clear HO HG HR
        obtain ⟨ua, uc, rfl, hu⟩ := rO.form
        obtain ⟨g', rfl, hg1', hg2'⟩ := hu (by omega)
        by_cases hlt : j < 9
        · have j0 : (j : Int) < 9 := by omega
          have j1 : (0 : Int) < (j : Int) := by omega
          obtain ⟨c0, c1, c2, c3⟩ := rO.cells 0 (by omega)
          have hu0 := rF.out 0 (by omega)
          obtain ⟨⟨c, d, x, y⟩, hF0⟩ : ∃ u, F 0 = u := ⟨_, rfl⟩
          rw [hF0] at c0 c1 c2 c3 hu0
          dsimp only at c0 c1 c2 c3
          clear hF0
          clear hu
          have HLT := Lib.hid (fun k hk => (rO.lt k hk).1)
          have hsz : w0.heap.size ≤ wr.heap.size := rg.size
          have HRR := Lib.hid rR
          have HGG := Lib.hid rg
          clear rR rg
          go_wp2_with (at_builtin; refine wpList_append_user rfl (.tmp 65) (.tmp 69) rfl w0.heap.size _ j F rfl (rO.alloc _) _ 1 ⟨c, d, x, y⟩ rfl ⟨by simp, by simp, by simp, by simp⟩ (by omega) (by simp; omega) ?_; intro v' w' O3 g3; have hr3 := Lib.hid ((HRR.out.alloc _).kept g3 (fun q hq => by have := HLT.out q hq; omega)); have hg3 := Lib.hid ((HGG.out.trans (World.grownBy_alloc wr _ (some b))).andThen g3 (fun q hq => .inl (HLT.out q hq))); clear rO g3)
          go_roundw
          case rel => exact ⟨j + 1, _, by omega, by omega, O3, Lib.hid (fun i hi => by
            show BdU 300 (if i < j then F i else ⟨c, d, x, y⟩)
            split
            · exact rF.out i (by assumption)
            · exact hu0), hr3.out, hg3.out⟩
          case measure => obtain ⟨_, _, rfl, _⟩ := O3.form; simp [slLen]; omega
        · have j0 : ¬ (j : Int) < 9 := by omega
          go_wp2
          go_ret
          exact ⟨_, j, F, q1, rfl, rO, by omega, .inr hj1, fun i hi => (rF.out i hi).mono (by omega), by omega, rR, rg⟩
    · go_wp2
      go_ret
      exact ⟨_, n, f, q1, rfl, O2, hn, .inr (by omega), fun i hi => (HD.out i hi).mono (by omega), by omega, hr2, gg2⟩
/-- Users were drawn. -/
def SaPost (w : World) (e : Ending) (w' : World) : Prop :=
  ∃ (u : Value) (N : Nat) (F : Nat → Usr), e = .returned u ∧ UF w' w.heap.size u N F ∧ N ≤ 9 ∧ (∀ i, i < N → BdU 1000 (F i)) ∧ Below w.heap.size w w'
theorem drawSendAll_any (a : Option Addr) (len cap : Nat) (zs : List Int) (w : World) (h : IsBytes w a len cap zs) :
    Calls Try.prog 17 #[.slice a len cap] w (SaPost w) := by
  go_enter Try.func17, Try.ntmps17
  go_wp2_with fail
  refine (open_any a len cap zs _ h).mono ?_
  rintro e w1 ⟨b, ys, rfl, hr, hb, hlb⟩
  go_wp2_with fail
  refine (l4List_any b 0 ys _ hr (by omega)).mono ?_
  rintro e w2 ⟨v, n, f, q, rfl, O, hn, hD, hq, hr2, hg2⟩
  have hbl := hr.1
  have hbb := Lib.hid hb
  clear hr hb
  go_wp2_with fail
  refine (l4BadList_any b q ys v n f w1 w2 hr2 (by omega) O hbl (by omega) (fun i hi => (hD i hi).bd) hg2).mono ?_
  rintro e w3 ⟨u, N, F, q3, rfl, O3, hN, -, hBD, -, hr3, hg3⟩
  have b3 := below_grown hbb.out (Nat.le_refl _) hg3 hlb
  have O4 := O3.mono hbb.out.size
  have HB := Lib.hid hBD
  clear O hD hr2 hg2 hr3 hg3 O3 hBD
  go_wp2
  go_ret
  exact ⟨u, N, F, rfl, O4, hN, HB.out, b3⟩
end Go.Proofs.Ythfcfnamaedffaa
