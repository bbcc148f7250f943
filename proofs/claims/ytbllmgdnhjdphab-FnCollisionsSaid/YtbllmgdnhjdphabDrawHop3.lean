/- The contract of the draw of two users' hops. -/
import Derived.Test.YtbllmgdnhjdphabDrawHop2
import Derived.Test.YtbllmgdnhjdphabHopLaw
namespace Go.Proofs.Ytbllmgdnhjdphab
open Go.RowKit
set_option linter.unusedVariables false
set_option maxRecDepth 100000
/-- Two users' hops and a number were drawn. -/
def DrawTwoHops (w : World) (e : Ending) (w' : World) : Prop := ∃ (v : Value) (n : Nat) (f : Nat → Int) (u : Value) (m : Nat) (g : Nat → Int) (k : Int), e = .returned (.tuple #[v, u, .int .i64 k]) ∧ OF w' w.heap.size v n f ∧ n ≤ 301 ∧ IntsC w' u m g ∧ m ≤ 14 ∧ FitsI k ∧ Below w.heap.size w w'
set_option maxHeartbeats 3200000 in
theorem drawTwoHops_any (a : Option Addr) (len cap : Nat) (zs : List Int) (w : World) (h : IsBytes w a len cap zs) :
    Calls Try.prog 33 #[.slice a len cap] w (DrawTwoHops w) := by
  go_enter Try.func33, Try.ntmps33
  go_wp2_with fail
  refine (open_any a len cap zs _ h).mono ?_
  rintro e w1 ⟨b, ys, rfl, hr, hb, hlb⟩
  go_wp2_with fail
  refine (l7Some_any b 0 ys _ hr (by omega)).mono ?_
  rintro e w2 ⟨v, n, f, c, q, rfl, O2, hn1, hn, hc1, hc2, hf, hq, hr2, hg2⟩
  have b2 := below_grown hb (Nat.le_refl _) hg2 hlb
  have hb1 := hr.1
  have hs1 : w.heap.size ≤ w1.heap.size := hb.size
  have hs2 : w1.heap.size ≤ w2.heap.size := hg2.size
  have HFF : Hid (∀ j, j < n → FitsI (f j)) := Lib.hid (fun j hj => by have := hf j hj; unfold FitsI; omega)
  have HMV : Hid (∀ k : Nat, k < 3 → mvB n f c k = true) := Lib.hid (fun k hk => (mvB_iff _ _ _ _).2 ⟨(hopB_iff _ _ _).2 ⟨by omega, by omega, hf⟩, (mvD_iff _).2 (by omega)⟩)
  obtain ⟨va, vc, rfl, -⟩ := O2.form
  have HLT0 := Lib.hid (fun q hq => (O2.lt q hq).2)
  clear hr hf hb hg2
  have hw0 : w2.grownBy (w2.alloc (.cells #[] 3)) (some b) := World.grownBy_alloc w2 _ _
  have hr0 := hr2.alloc (.cells #[] 3)
  have hO0 := OF.empty0 w2 (fun _ => 0)
  go_wp2
  go_loopw [8] (fun x wr => ∃ (j : Nat) (g : Nat → Int), j ≤ n ∧ OF wr w2.heap.size x j g ∧ RdAt wr b (q + j) ys ∧ w2.grownBy wr (some b)) (fun x _ => n - (match x with | .slice _ l _ => l | _ => 0))
  case atStart => exact ⟨0, fun _ => 0, Nat.zero_le _, hO0, hr0, hw0⟩
  case round =>
    obtain ⟨j, g, hj, rO, rR, rg⟩ := hrel
    obtain ⟨ga, gc, rfl, -⟩ := rO.form
    clear hO0 hr0 hw0
    by_cases hlt : j < n
    · skip
      have i1 : (j : Int) < (n : Int) := by omega
      go_wp2_with fail
      refine (pick_any b (q + j) c ys _ rR (by omega) (by omega) (by omega)).mono ?_
      rintro e w4 ⟨y, hy, rfl, hr4, hg4⟩
      have hO4 := rO.kept hg4 (own_ne rO (show b < w2.heap.size by omega))
      have hgg := rg.trans hg4
      have hsz : w2.heap.size ≤ w4.heap.size := hgg.size
      clear rO rR rg hg4
      go_wp2_with (at_builtin; refine wpList_append_int rfl (.tmp 22) (.tmp 26) rfl w2.heap.size _ j g rfl (hO4.alloc _) w4.heap.size 1 (y : Int) rfl (by simp) (by omega) (by simp; omega) ?_; intro v' w' O3 g3)
      have hr5 : RdAt w' b (q + j + 1) ys := (hr4.alloc _).kept g3 (fun q hq => by have := (hO4.lt q hq).1; omega)
      have hg5 : w2.grownBy w' (some b) := grown_own (hgg.trans (World.grownBy_alloc w4 _ (some b))) g3 (fun q hq => (hO4.lt q hq).1)
      obtain ⟨na, nc, rfl, -⟩ := O3.form
      clear hO4 hr4 hgg g3
      go_wp2
      go_roundw
      case rel => exact ⟨j + 1, _, by omega, O3, hr5, hg5⟩
      case measure => show n - (j + 1) < n - j; omega
    · obtain rfl : j = n := by omega
      have hsr : w2.heap.size ≤ wr.heap.size := rg.size
      have O5 := O2.kept rg (own_ne O2 hb1)
      have b5 := below_grown b2 (Nat.le_refl _) rg hlb
      have hbw2 : b < w2.heap.size := by omega
      clear O2 b2 rg hr2
      go_wp2_with fail
      refine (pick_any b (q + j) 3 ys _ rR (by omega) (by omega) (by omega)).mono ?_
      rintro e w6 ⟨k3, hk3, rfl, hr6, hg6⟩
      have O6 := O5.kept hg6 (own_ne O5 hb1)
      have P6 := rO.kept hg6 (own_ne rO hbw2)
      have b6 := below_grown b5 (Nat.le_refl _) hg6 hlb
      have hs6 : w2.heap.size ≤ w6.heap.size := Nat.le_trans hsr hg6.size
      clear rR hg6 O5 rO b5 hsr
      have HLT : Hid (∀ q, (Value.slice va j vc).ownBlock = some q → q < w2.heap.size) := HLT0
      by_cases k0 : k3 = 0
      · subst k0
        clear hk3
        go_wp2_with fail
        refine (pick_any b (q + j + 1) 3 ys _ hr6 (by omega) (by omega) (by omega)).mono ?_
        rintro e w7 ⟨kd, hkd, rfl, hr7, hg7⟩
        have O7 := O6.kept hg7 (own_ne O6 hb1)
        have b7 := below_grown b6 (Nat.le_refl _) hg7 hlb
        have hs7 : w2.heap.size ≤ w7.heap.size := Nat.le_trans hs6 hg7.size
        have hmv := fun w h => sMove_any (.slice va j vc) j f c kd w h (by omega)
        rw [HMV.out kd hkd, mvN_yes (HMV.out kd hkd)] at hmv
        have HM := Lib.hid hmv
        obtain ⟨G, hG⟩ : ∃ G, mvF f c kd = G := ⟨_, rfl⟩
        rw [hG] at HM
        clear hmv hG hr6 hg7 O6 b6 P6
        go_wp2_with fail
        refine (HM.out _ O7.ints).mono ?_
        rintro e wM ⟨x, rfl, PM, hbM⟩
        have hrX := hr7.below hbM
        have OX := O7.below hbM
        have PX := PM.mono hs7
        have bX := below_then b7 (Nat.le_refl _) hbM
        have hsX : w2.heap.size ≤ wM.heap.size := Nat.le_trans hs7 hbM.size
        clear HM hr7 O7 PM b7 hbM
        obtain ⟨pa, pc, rfl, -⟩ := PX.form
        go_wp2_with fail
        refine (pick_any b (q + j + 1 + 1) 16 ys _ hrX (by omega) (by omega) (by omega)).mono ?_
        rintro e w8 ⟨k16, hk16, rfl, hr8, hg8⟩
        have O8 := OX.kept hg8 (own_ne OX hb1)
        have P8 := PX.kept hg8 (own_ne PX hbw2)
        have b8 := below_grown bX (Nat.le_refl _) hg8 hlb
        have hs8 : w2.heap.size ≤ w8.heap.size := Nat.le_trans hsX hg8.size
        have hs81 : w1.heap.size ≤ w8.heap.size := Nat.le_trans hs2 hs8
        clear hrX OX PX bX hsX hg8
        by_cases k0 : k16 = 0
        · skip
          subst k0
          clear hk16
          obtain ⟨ta, tc, t1, t2⟩ := tailC P8.intsC 1 hn1
          have t1' : ∀ w1, (Instr.sliceAt 22 (.slice pa j pc) (some (.int .i64 1)) none none).run Try.prog w1 = .ok (.slice ta (j - 1) tc) w1 := t1
          have T1 := Lib.hid t1
          clear t1 t2
          go_wp2_with fail
          refine (l7Bad_any b ((q + j + 1 + 1) + 1) w1.heap.size ys _ j f _ hr8 (by omega) O8 (by omega) HFF.out hb1 hs81).mono ?_
          rintro e w9 ⟨u, m, g9, q9, rfl, O9, hm, hg9, hq9, hr9, W, hgw, hgv⟩
          have b9 := (b8.grown hgw b8.size (fun k e => by cases e; omega)).grown hgv (b8.grown hgw b8.size (fun k e => by cases e; omega)).size (fun k e => by have := (O8.lt k e).1; omega)
          have hne : (Value.slice pa j pc).ownBlock = none ∨ (Value.slice pa j pc).ownBlock ≠ (Value.slice va j vc).ownBlock := by
            cases hx : (Value.slice pa j pc).ownBlock with
            | none => exact .inl rfl
            | some q => right; intro e; have h1 := (P8.lt _ hx).1; have h2 := HLT.out _ e.symm; omega
          have P9 := (P8.kept hgw (own_ne P8 hbw2)).kept hgv hne
          clear hr8 b8 hgw hgv O8 P8 hne hg9
          go_wp2_with fail
          refine (l2Number_any b q9 ys _ hr9 (by omega)).mono ?_
          rintro e w10 ⟨k, q10, rfl, hk, hq10, hr10, hg10⟩
          have b10 := below_grown b9 (Nat.le_refl _) hg10 hlb
          have O10 := (O9.kept hg10 (own_ne O9 hb1)).mono hs1
          have P10 := P9.kept hg10 (own_ne P9 hbw2)
          clear hr9 hr10 hg10 b9 O9 P9
          have T2 : IntsC w10 (.slice ta (j - 1) tc) (j - 1) (fun i => G (1 + i)) := by
            obtain ⟨a', c', t3, t4⟩ := tailC P10.intsC 1 hn1
            have := (t3 w10).symm.trans (T1.out w10)
            injection this with this _
            injection this with e1 _ e3
            rw [← e1, ← e3]; exact t4
          go_wp2
          go_ret3
          exact ⟨u, m, g9, _, j - 1, _, k, rfl, O10, hm, T2, by omega, hk, b10⟩
        · skip
          have e16 : ((k16 : Int) == 0) = false := by simp; omega
          go_wp2_with fail
          refine (l7Bad_any b ((q + j + 1 + 1) + 1) w1.heap.size ys _ j f _ hr8 (by omega) O8 (by omega) HFF.out hb1 hs81).mono ?_
          rintro e w9 ⟨u, m, g9, q9, rfl, O9, hm, hg9, hq9, hr9, W, hgw, hgv⟩
          have b9 := (b8.grown hgw b8.size (fun k e => by cases e; omega)).grown hgv (b8.grown hgw b8.size (fun k e => by cases e; omega)).size (fun k e => by have := (O8.lt k e).1; omega)
          have hne : (Value.slice pa j pc).ownBlock = none ∨ (Value.slice pa j pc).ownBlock ≠ (Value.slice va j vc).ownBlock := by
            cases hx : (Value.slice pa j pc).ownBlock with
            | none => exact .inl rfl
            | some q => right; intro e; have h1 := (P8.lt _ hx).1; have h2 := HLT.out _ e.symm; omega
          have P9 := (P8.kept hgw (own_ne P8 hbw2)).kept hgv hne
          clear hr8 b8 hgw hgv O8 P8 hne hg9
          go_wp2_with fail
          refine (l2Number_any b q9 ys _ hr9 (by omega)).mono ?_
          rintro e w10 ⟨k, q10, rfl, hk, hq10, hr10, hg10⟩
          have b10 := below_grown b9 (Nat.le_refl _) hg10 hlb
          have O10 := (O9.kept hg10 (own_ne O9 hb1)).mono hs1
          have P10 := P9.kept hg10 (own_ne P9 hbw2)
          clear hr9 hr10 hg10 b9 O9 P9
          go_wp2
          go_ret3
          exact ⟨u, m, g9, _, j, _, k, rfl, O10, hm, P10.intsC, by omega, hk, b10⟩
      · skip
        have e3 : ((k3 : Int) == 0) = false := by simp; omega
        go_wp2_with fail
        clear e3
        have hrX := hr6
        have OX := O6
        have PX := P6
        have bX := b6
        have hsX := hs6
        clear hr6 O6 P6 b6
        refine (pick_any b (q + j + 1) 16 ys _ hrX (by omega) (by omega) (by omega)).mono ?_
        rintro e w8 ⟨k16, hk16, rfl, hr8, hg8⟩
        have O8 := OX.kept hg8 (own_ne OX hb1)
        have P8 := PX.kept hg8 (own_ne PX hbw2)
        have b8 := below_grown bX (Nat.le_refl _) hg8 hlb
        have hs8 : w2.heap.size ≤ w8.heap.size := Nat.le_trans hsX hg8.size
        have hs81 : w1.heap.size ≤ w8.heap.size := Nat.le_trans hs2 hs8
        clear hrX OX PX bX hsX hg8
        by_cases k0 : k16 = 0
        · skip
          subst k0
          clear hk16
          obtain ⟨ta, tc, t1, t2⟩ := tailC P8.intsC 1 hn1
          have t1' : ∀ w1, (Instr.sliceAt 22 (.slice ga j gc) (some (.int .i64 1)) none none).run Try.prog w1 = .ok (.slice ta (j - 1) tc) w1 := t1
          have T1 := Lib.hid t1
          clear t1 t2
          go_wp2_with fail
          refine (l7Bad_any b ((q + j + 1) + 1) w1.heap.size ys _ j f _ hr8 (by omega) O8 (by omega) HFF.out hb1 hs81).mono ?_
          rintro e w9 ⟨u, m, g9, q9, rfl, O9, hm, hg9, hq9, hr9, W, hgw, hgv⟩
          have b9 := (b8.grown hgw b8.size (fun k e => by cases e; omega)).grown hgv (b8.grown hgw b8.size (fun k e => by cases e; omega)).size (fun k e => by have := (O8.lt k e).1; omega)
          have hne : (Value.slice ga j gc).ownBlock = none ∨ (Value.slice ga j gc).ownBlock ≠ (Value.slice va j vc).ownBlock := by
            cases hx : (Value.slice ga j gc).ownBlock with
            | none => exact .inl rfl
            | some q => right; intro e; have h1 := (P8.lt _ hx).1; have h2 := HLT.out _ e.symm; omega
          have P9 := (P8.kept hgw (own_ne P8 hbw2)).kept hgv hne
          clear hr8 b8 hgw hgv O8 P8 hne hg9
          go_wp2_with fail
          refine (l2Number_any b q9 ys _ hr9 (by omega)).mono ?_
          rintro e w10 ⟨k, q10, rfl, hk, hq10, hr10, hg10⟩
          have b10 := below_grown b9 (Nat.le_refl _) hg10 hlb
          have O10 := (O9.kept hg10 (own_ne O9 hb1)).mono hs1
          have P10 := P9.kept hg10 (own_ne P9 hbw2)
          clear hr9 hr10 hg10 b9 O9 P9
          have T2 : IntsC w10 (.slice ta (j - 1) tc) (j - 1) (fun i => g (1 + i)) := by
            obtain ⟨a', c', t3, t4⟩ := tailC P10.intsC 1 hn1
            have := (t3 w10).symm.trans (T1.out w10)
            injection this with this _
            injection this with e1 _ e3
            rw [← e1, ← e3]; exact t4
          go_wp2
          go_ret3
          exact ⟨u, m, g9, _, j - 1, _, k, rfl, O10, hm, T2, by omega, hk, b10⟩
        · skip
          have e16 : ((k16 : Int) == 0) = false := by simp; omega
          go_wp2_with fail
          refine (l7Bad_any b ((q + j + 1) + 1) w1.heap.size ys _ j f _ hr8 (by omega) O8 (by omega) HFF.out hb1 hs81).mono ?_
          rintro e w9 ⟨u, m, g9, q9, rfl, O9, hm, hg9, hq9, hr9, W, hgw, hgv⟩
          have b9 := (b8.grown hgw b8.size (fun k e => by cases e; omega)).grown hgv (b8.grown hgw b8.size (fun k e => by cases e; omega)).size (fun k e => by have := (O8.lt k e).1; omega)
          have hne : (Value.slice ga j gc).ownBlock = none ∨ (Value.slice ga j gc).ownBlock ≠ (Value.slice va j vc).ownBlock := by
            cases hx : (Value.slice ga j gc).ownBlock with
            | none => exact .inl rfl
            | some q => right; intro e; have h1 := (P8.lt _ hx).1; have h2 := HLT.out _ e.symm; omega
          have P9 := (P8.kept hgw (own_ne P8 hbw2)).kept hgv hne
          clear hr8 b8 hgw hgv O8 P8 hne hg9
          go_wp2_with fail
          refine (l2Number_any b q9 ys _ hr9 (by omega)).mono ?_
          rintro e w10 ⟨k, q10, rfl, hk, hq10, hr10, hg10⟩
          have b10 := below_grown b9 (Nat.le_refl _) hg10 hlb
          have O10 := (O9.kept hg10 (own_ne O9 hb1)).mono hs1
          have P10 := P9.kept hg10 (own_ne P9 hbw2)
          clear hr9 hr10 hg10 b9 O9 P9
          go_wp2
          go_ret3
          exact ⟨u, m, g9, _, j, _, k, rfl, O10, hm, P10.intsC, by omega, hk, b10⟩
end Go.Proofs.Ytbllmgdnhjdphab
