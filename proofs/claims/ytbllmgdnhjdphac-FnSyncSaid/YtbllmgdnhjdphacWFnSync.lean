/- The walk of the law FnSync. -/
import Derived.Test.YtbllmgdnhjdphacDrawHop6
import Derived.Test.YtbllmgdnhjdphacHopSyncLaw
namespace Go.Proofs.Ytbllmgdnhjdphac
open Go.RowKit
set_option linter.unusedVariables false
set_option maxHeartbeats 3200000 in
set_option maxRecDepth 100000 in
theorem fnSync_walk (a0 : Option Addr) (len0 cap0 : Nat) (z0 : List Int) (w : World) (w0 : IsBytes w a0 len0 cap0 z0) :
    Calls Try.prog 7 #[.slice a0 len0 cap0] w fun e w' => e = .returned (.bool true) ∧ Below w.heap.size w w' := by
  by_cases hl0 : 1048576 < len0
  · go_enter Try.func7, Try.ntmps7
    go_wp2
    go_ret
    exact ⟨rfl, Below.refl _ _⟩
  go_enter Try.func7, Try.ntmps7
  go_wp2_with fail
  refine (drawSync_any a0 len0 cap0 z0 _ w0).mono ?_
  rintro e W1 ⟨S, T, C, v, n, f, rfl, O0, hn, bc⟩
  clear w0
  obtain ⟨sa, sc, rfl, -⟩ := O0.form
  have hi := fun w h => iSync_any S T C (.slice sa n sc) n f w h (by omega)
  have hs := fun w h => sSync_any S T C (.slice sa n sc) n f w h (by omega)
  rcases sy_cases S T C n f with e | ⟨s, t, c, x, rfl, rfl, rfl, hr, hc1, hc2, hn3, e, hE, hL⟩
  · skip
    rw [e] at hi hs
    clear e
    have HI := Lib.hid hi
    have HS := Lib.hid hs
    clear hi hs
    go_wp2_with fail
    refine (HI.out _ O0.ints).mono ?_
    rintro e w101 ⟨rfl, hb102⟩
    have O103 := O0.below hb102
    clear O0
    have b104 := below_then bc (Nat.le_refl _) hb102
    clear bc
    have bc := b104
    clear b104 hb102
    have bd := bc.alloc bc.size (.cells #[.int .i64 0, .int .i64 0, .int .i64 0] 45)
    clear bc
    have bc := bd
    clear bd
    have O105 := O103.alloc (.cells #[.int .i64 0, .int .i64 0, .int .i64 0] 45)
    clear O103
    have O106 := BoxAt.new w101 45 0 0 0
    go_wp2_with fail
    refine (HS.out _ O105.ints).mono ?_
    rintro e w107 ⟨rfl, hb108⟩
    have O109 := O105.below hb108
    clear O105
    have O110 := O106.below hb108
    clear O106
    have b111 := below_then bc (Nat.le_refl _) hb108
    clear bc
    have bc := b111
    clear b111 hb108
    have bd := bc.alloc bc.size (.cells #[.int .i64 0, .int .i64 0, .int .i64 0] 45)
    clear bc
    have bc := bd
    clear bd
    have O112 := O109.alloc (.cells #[.int .i64 0, .int .i64 0, .int .i64 0] 45)
    clear O109
    have O113 := O110.alloc (.cells #[.int .i64 0, .int .i64 0, .int .i64 0] 45)
    clear O110
    have O114 := BoxAt.new w107 45 0 0 0
    obtain ⟨r115a, r115b, r115c, r115l⟩ := id O113
    go_wp2
    go_ret
    exact ⟨rfl, bc⟩
  · skip
    obtain ⟨e1, e2⟩ := hsB_yes hr hc1 hc2 hn3
    have ha := fun w => iSeq_any s t x c n w
    rw [e1, e2] at ha
    have hb : ∀ j : Nat, j < x → ∀ w, Calls Try.prog 28 #[.agg #[.int .i64 s, .int .i64 t, .int .i64 j], .int .i64 c, .int .i64 n] w fun e w' => ∃ u, e = .returned (.tuple #[u, .bool true]) ∧ OF w' w.heap.size u n (hsF s t j c) ∧ Below w.heap.size w w' := fun j hj w => by
      obtain ⟨e3, e4⟩ := hsB_yes (hL j hj).1 (k := n) hc1 hc2 hn3
      have := iSeq_any s t j c n w
      rwa [e3, e4] at this
    have hq : ∀ (j : Nat), j < x → ∀ u v w, IntsR w u n (hsF s t j c) → IntsR w v n f → Calls Try.prog 14 #[u, v] w fun e w' => e = .returned (.bool false) ∧ ∃ m, w' = w.drewN m := fun j hj u v w h1 h2 => by
      have := ssInts_eq u v n _ _ w h1 h2 (by omega)
      rwa [(hL j hj).2] at this
    have hxb : x ≤ 1000 := by have := hr.lt; have := tw_le s hr.hi; omega
    have EA := Lib.hid hE
    clear e1 e2 hE hL hr
    have HA := Lib.hid ha
    have HB := Lib.hid hb
    have HQ := Lib.hid hq
    clear ha hb hq
    rw [e] at hi hs
    clear e
    have HI := Lib.hid hi
    have HS := Lib.hid hs
    clear hi hs
    go_wp2_with fail
    refine (HI.out _ O0.ints).mono ?_
    rintro e w101 ⟨rfl, hb102⟩
    have O103 := O0.below hb102
    clear O0
    have b104 := below_then bc (Nat.le_refl _) hb102
    clear bc
    have bc := b104
    clear b104 hb102
    have bd := bc.alloc bc.size (.cells #[.int .i64 (s : Int), .int .i64 (t : Int), .int .i64 (x : Int)] 45)
    clear bc
    have bc := bd
    clear bd
    have O105 := O103.alloc (.cells #[.int .i64 (s : Int), .int .i64 (t : Int), .int .i64 (x : Int)] 45)
    clear O103
    have O106 := BoxAt.new w101 45 (s : Int) (t : Int) (x : Int)
    go_wp2_with fail
    refine (HS.out _ O105.ints).mono ?_
    rintro e w107 ⟨rfl, hb108⟩
    have O109 := O105.below hb108
    clear O105
    have O110 := O106.below hb108
    clear O106
    have b111 := below_then bc (Nat.le_refl _) hb108
    clear bc
    have bc := b111
    clear b111 hb108
    have bd := bc.alloc bc.size (.cells #[.int .i64 (s : Int), .int .i64 (t : Int), .int .i64 (x : Int)] 45)
    clear bc
    have bc := bd
    clear bd
    have O112 := O109.alloc (.cells #[.int .i64 (s : Int), .int .i64 (t : Int), .int .i64 (x : Int)] 45)
    clear O109
    have O113 := O110.alloc (.cells #[.int .i64 (s : Int), .int .i64 (t : Int), .int .i64 (x : Int)] 45)
    clear O110
    have O114 := BoxAt.new w107 45 (s : Int) (t : Int) (x : Int)
    obtain ⟨r115a, r115b, r115c, r115l⟩ := id O113
    go_wp2_with fail
    refine (HA.out _).mono ?_
    rintro e w116 ⟨v1, rfl, O118, hb117⟩
    have O119 := O112.below hb117
    clear O112
    have O120 := O113.below hb117
    clear O113
    have O121 := O114.below hb117
    clear O114
    have b122 := below_then bc (Nat.le_refl _) hb117
    clear bc
    have bc := b122
    clear b122 hb117
    clear r115a r115b r115c r115l
    have O1 := O118.congr (g := f) (fun j hj => EA.out j hj)
    clear O118
    clear O121
    go_wp2
    go_loopw [13] (fun i wr => ∃ j : Nat, j ≤ x ∧ i = .int .i64 j ∧ Below w116.heap.size w116 wr) (fun  i _ => x - (intOf i).toNat)
    case atStart => exact ⟨0, Nat.zero_le _, rfl, Below.refl _ _⟩
    case round =>
      obtain ⟨j, hj, rfl, rb⟩ := hrel
      by_cases hlt : j < x
      · skip
        have i0 : (0 : Int) ≤ (j : Int) := by omega
        have i1 : (j : Int) < (x : Int) := by omega
        have O323 := O119.below rb
        clear O119
        have O324 := O120.below rb
        clear O120
        have O325 := O1.below rb
        clear O1
        obtain ⟨r326a, r326b, r326c, r326l⟩ := id O324
        have bd := below_then bc (Nat.le_refl _) rb
        clear bc
        have bc : Below wr.heap.size wr wr := Below.refl _ _
        have hvx := HB.out j hlt
        have HVX := Lib.hid hvx
        clear hvx
        go_wp2_with fail
        refine (HVX.out _).mono ?_
        rintro e w327 ⟨v5, rfl, O329, hb328⟩
        have O330 := O323.below hb328
        clear O323
        have O331 := O324.below hb328
        clear O324
        have O332 := O325.below hb328
        clear O325
        have b333 := below_then bc (Nat.le_refl _) hb328
        clear bc
        have bc := b333
        clear b333 hb328
        go_wp2_with fail
        refine (HQ.out j hlt _ _ _ O329.ints O330.ints).mono ?_
        rintro e w' ⟨rfl, m334, rfl⟩
        have O336 := O330.drewN m334
        clear O330
        have O337 := O331.drewN m334
        clear O331
        have O338 := O332.drewN m334
        clear O332
        have O339 := O329.drewN m334
        clear O329
        have bd := below_drewN bc m334
        clear bc
        have bc := bd
        clear bd
        obtain ⟨w335, hW⟩ : ∃ W, w327.drewN m334 = W := ⟨_, rfl⟩
        rw [hW] at O336 O337 O338 O339 bc ⊢
        clear hW
        have b6 := below_then rb (Nat.le_refl _) bc
        clear rb bc bd O336 O337 O338 O339
        go_wp2
        go_roundw
        case rel => exact ⟨j + 1, by omega, by go_num, b6⟩
        case measure => simp [intOf]; omega
      · skip
        obtain rfl : x = j := by omega
        have O373 := O119.below rb
        clear O119
        have O374 := O120.below rb
        clear O120
        have O375 := O1.below rb
        clear O1
        have bd := below_then bc (Nat.le_refl _) rb
        clear bc rb
        have bc := bd
        clear bd
        obtain ⟨r376a, r376b, r376c, r376l⟩ := id O374
        go_wp2_with fail
        refine (ssInts_same _ _ _ _ n _ _ O375 O373 (by omega)).mono ?_
        rintro e w' ⟨rfl, m377, rfl⟩
        have O379 := O373.drewN m377
        clear O373
        have O380 := O374.drewN m377
        clear O374
        have O381 := O375.drewN m377
        clear O375
        have bd := below_drewN bc m377
        clear bc
        have bc := bd
        clear bd
        obtain ⟨w378, hW⟩ : ∃ W, wr.drewN m377 = W := ⟨_, rfl⟩
        rw [hW] at O379 O380 O381 bc ⊢
        clear hW
        obtain ⟨r382a, r382b, r382c, r382l⟩ := id O380
        go_wp2
        go_ret
        exact ⟨rfl, bc⟩
end Go.Proofs.Ytbllmgdnhjdphac
