/- The walk of the law FnScoreSum. -/
import Derived.Test.YtmeooebklohdfaaDrawPil6
import Derived.Test.YtmeooebklohdfaaPil6
import Derived.Test.YtmeooebklohdfaaPilLaw
import Derived.Test.YtmeooebklohdfaaSsPil
import Derived.Deep.RegionHeld3
import Derived.BigQuiet
namespace Go.Proofs.Ytmeooebklohdfaa
open Go.RowKit
set_option linter.unusedVariables false
theorem sc_negP {n : Nat} {f : Nat → Int} (h : sigB n f = true) : sigB n (scF (-1) f) = true := by
  obtain ⟨h1, h2⟩ := (sigB_iff _ _).1 h
  exact (sigB_iff _ _).2 ⟨allM_of fun k hk => by have := allM_at h1 hk; unfold scF; omega, h2⟩
set_option maxHeartbeats 12800000 in
set_option maxRecDepth 100000 in
theorem fnScoreSum_walk (a0 : Option Addr) (len0 cap0 : Nat) (z0 : List Int) (a1 : Option Addr) (len1 cap1 : Nat) (z1 : List Int) (w : World) (w0 : IsBytes w a0 len0 cap0 z0) (w1 : IsBytes w a1 len1 cap1 z1) :
    Calls Try.prog 4 #[.slice a0 len0 cap0, .slice a1 len1 cap1] w fun e w' => e = .returned (.bool true) ∧ Below w.heap.size w w' := by
  by_cases hl0 : 1048576 < len0
  · go_enter Try.func4, Try.ntmps4
    go_wp2
    go_ret
    exact ⟨rfl, Below.refl _ _⟩
  by_cases hl1 : 1048576 < len1
  · go_enter Try.func4, Try.ntmps4
    go_wp2
    go_ret
    exact ⟨rfl, Below.refl _ _⟩
  clear w1
  go_enter Try.func4, Try.ntmps4
  go_wp2_with fail
  refine (drawScore_any a0 len0 cap0 z0 _ w0).mono ?_
  rintro e W1 ⟨v, n, f, c, g, k, rfl, O0, hn, hf, hc, hg, hk0, bc0⟩
  obtain ⟨sa, sc, rfl, -⟩ := O0.form
  have Q0 := PilAt.new W1 24 c g
  have bc := bc0.alloc bc0.size (.cells #[.string c, .int .i64 g] 24)
  have OV := O0.alloc (.cells #[.string c, .int .i64 g] 24)
  clear w0 bc0 O0 hf
  obtain ⟨V, hV⟩ : ∃ V, W1.alloc (.cells #[.string c, .int .i64 g] 24) = V := ⟨_, rfl⟩
  obtain ⟨X, hX⟩ : ∃ X, W1.heap.size = X := ⟨_, rfl⟩
  have HVV := Lib.hid hV
  have HXX := Lib.hid hX
  rw [hV] at Q0 bc OV
  rw [hX] at Q0
  clear hV hX
  have hi := fun w h => iScoreAt_any (.slice sa n sc) n f c g k w h (by omega) (by omega)
  have hv := fun w h => sScoreAt_any (.slice sa n sc) n f c g k w h (by omega) (by omega)
  cases hr : roB n f c g k with
  | false =>
    rw [sc_no hr] at hi hv
    have HI := Lib.hid hi
    have HV := Lib.hid hv
    clear hi hv
    clear hr
    obtain ⟨d0, d1, dl⟩ := id Q0
    rw [← HVV.out, ← HXX.out] at d0 d1
    go_wp2_with fail
    clear d0 d1 dl
    rw [HVV.out, HXX.out]
    refine (HI.out _ OV.intsC).mono ?_
    rintro e w101 ⟨rfl, hb102⟩
    have O103 := OV.below hb102
    clear OV
    have Q104 := Q0.below hb102 Q0.2.2
    clear Q0
    have b105 := below_then bc (Nat.le_refl _) hb102
    clear bc
    have bc := b105
    clear b105 hb102
    obtain ⟨d0, d1, dl⟩ := id Q104
    go_wp2_with fail
    refine (HV.out _ O103.ints).mono ?_
    rintro e w106 ⟨rfl, hb107⟩
    clear d0 d1 dl
    have O108 := O103.below hb107
    clear O103
    have Q109 := Q104.below hb107 Q104.2.2
    clear Q104
    have b110 := below_then bc (Nat.le_refl _) hb107
    clear bc
    have bc := b110
    clear b110 hb107
    go_wp2
    go_ret
    exact ⟨rfl, bc⟩
  | true =>
    rw [sc_yes hr] at hi hv
    obtain ⟨r1, r2⟩ := (roB_iff _ _ _ _ _).1 hr
    obtain ⟨r3, k0, k1⟩ := (offB_iff _ _ _).1 r2
    obtain ⟨G, rfl, g1, g8, -, q4, -, -, q7, p1, p2⟩ := pil_nat r3
    have hl := fun w => iPLen_any c (G : Int) w (by omega)
    rw [show lenAns c (G : Int) = (perL c (G : Int) : Int) by unfold lenAns; rw [if_pos r3]] at hl
    have hpb : psB (perL c (G : Int) : Int) 3 = true := (psB_iff _ _).2 ⟨by omega, by omega, by omega, by omega⟩
    have hsp : ∀ j : Nat, j < perL c (G : Int) → ∀ w, Calls Try.prog 20 #[.agg #[.string c, .int .i64 (G : Int)], .int .i64 (j : Int), .int .i64 (perL c (G : Int) : Int), .int .i64 3] w fun e w' => ∃ u, e = .returned u ∧ OF w' w.heap.size u (perL c (G : Int)) (psF c (G : Int) (j : Int) 3) ∧ Below w.heap.size w w' := fun j hj w => by
      have h1 := ssPilot_any c (G : Int) (j : Int) (perL c (G : Int) : Int) 3 w (by omega)
      rw [(ps_yes ((offB_iff _ _ _).2 ⟨r3, by omega, by omega⟩) hpb).2, Int.toNat_natCast (perL c (G : Int))] at h1
      exact h1
    have hps : ∀ j : Nat, sigB (perL c (G : Int)) (psF c (G : Int) (j : Int) 3) = true := fun j => (ps_sig q4 (by rw [Int.toNat_natCast]; exact q7) p1 (by omega) (by omega) (j : Int) (by omega)).2
    have hn3 := ((sigB_iff _ _).1 r1).2
    have hA := (sigB_iff _ _).1 r1
    have hb1 := scr_bd q4 q7 p1 hA.1 hA.2 k
    have hss : ∀ (u : Value) (m : Nat) (q : Nat → Int) (y : Int) w, sigB m q = true → scr m q c G (perL c (G : Int)) k = y → IntsC w u m q → Calls Try.prog 26 #[u, .agg #[.string c, .int .i64 (G : Int)], .int .i64 k] w fun e w' => e = .returned (.int .i64 y) ∧ Below w.heap.size w w' := fun u m q y w hs he h => by
      have h1 := ssScore_any u m q c (G : Int) k w h (by have := ((sigB_iff _ _).1 hs).2; omega) (by omega)
      rw [sc_yes ((roB_iff _ _ _ _ _).2 ⟨hs, r2⟩), Int.toNat_natCast, he] at h1
      exact h1
    have hM : sigB n (scF (-1) f) = true := sc_negP r1
    have hsk : scOK n f (-1) = true := by unfold scOK; rw [r1, hM]; rfl
    have hcl := fun w h => iScale_any (.slice sa n sc) n f (-1) w h (by omega)
    rw [hsk, show scN n f (-1) = n by unfold scN; rw [hsk]; rfl] at hcl
    rw [Int.toNat_natCast] at hi hv
    have hbp := fun j : Nat => scr_bd q4 q7 p1 ((sigB_iff _ _).1 (hps j)).1 ((sigB_iff _ _).1 (hps j)).2 k
    have hsa := fun j : Nat => scr_add n f (perL c (G : Int)) (psF c (G : Int) (j : Int) 3) c G (perL c (G : Int)) k
    have hsn := scr_neg n f c G (perL c (G : Int)) k
    obtain ⟨Y, hY⟩ : ∃ Y, scr n f c G (perL c (G : Int)) k = Y := ⟨_, rfl⟩
    rw [hY] at hi hv hb1 hsn
    simp only [hY] at hsa
    clear hY hA
    obtain ⟨N, hN⟩ : ∃ N, perL c (G : Int) = N := ⟨_, rfl⟩
    rw [hN] at hl p1 p2 hss
    try rw [hN] at hsn
    simp only [hN] at hsp hps hsa hbp
    clear hN hr r2 r3 k0 k1 hpb q4 q7 hsk
    have n0 : ¬ ((N : Int) = 0) := by omega
    have n1 : ((N : Int) == 0) = false := by simp; omega
    have n2 : ¬ N = 0 := by omega
    have R1 := Lib.hid r1
    clear r1
    have HI := Lib.hid hi
    have HV := Lib.hid hv
    have HL := Lib.hid hl
    have HSP := Lib.hid hsp
    have HPS := Lib.hid hps
    have HSS := Lib.hid hss
    have HCL := Lib.hid hcl
    have HSA := Lib.hid hsa
    have HSN := Lib.hid hsn
    have HBP := Lib.hid hbp
    clear hi hv hl hsp hps hss hcl hsa hsn hbp
    have HMM := Lib.hid hM
    clear hM
    obtain ⟨d0, d1, dl⟩ := id Q0
    rw [← HVV.out, ← HXX.out] at d0 d1
    go_wp2_with fail
    clear d0 d1 dl
    rw [HVV.out, HXX.out]
    refine (HI.out _ OV.intsC).mono ?_
    rintro e w211 ⟨rfl, hb212⟩
    have O213 := OV.below hb212
    clear OV
    have Q214 := Q0.below hb212 Q0.2.2
    clear Q0
    have b215 := below_then bc (Nat.le_refl _) hb212
    clear bc
    have bc := b215
    clear b215 hb212
    obtain ⟨d0, d1, dl⟩ := id Q214
    go_wp2_with fail
    refine (HV.out _ O213.ints).mono ?_
    rintro e w216 ⟨rfl, hb217⟩
    clear d0 d1 dl
    have O218 := O213.below hb217
    clear O213
    have Q219 := Q214.below hb217 Q214.2.2
    clear Q214
    have b220 := below_then bc (Nat.le_refl _) hb217
    clear bc
    have bc := b220
    clear b220 hb217
    obtain ⟨d0, d1, dl⟩ := id Q219
    go_wp2_with fail
    refine (HL.out _).mono ?_
    rintro e w221 ⟨rfl, hb222⟩
    clear d0 d1 dl
    have O223 := O218.below hb222
    clear O218
    have Q224 := Q219.below hb222 Q219.2.2
    clear Q219
    have b225 := below_then bc (Nat.le_refl _) hb222
    clear bc
    have bc := b225
    clear b225 hb222
    obtain ⟨K, hK⟩ : ∃ K, len1 % N = K := ⟨_, rfl⟩
    have m1 : (len1 : Int).tmod (N : Int) = (K : Int) := by rw [Int.tmod_eq_emod_of_nonneg (by omega), ← hK, Int.natCast_emod]
    have hKN : K < N := by rw [← hK]; exact Nat.mod_lt _ (by omega)
    clear hK
    have HX := Lib.hid (HSP.out K hKN)
    have hps := HPS.out K
    have hsa := HSA.out K
    have hbp := HBP.out K
    obtain ⟨q, hq⟩ : ∃ q, psF c (G : Int) (K : Int) 3 = q := ⟨_, rfl⟩
    have HXX2 := HX.out
    rw [hq] at HXX2 hps hsa hbp
    replace HX := Lib.hid HXX2
    obtain ⟨Y2, hY2⟩ : ∃ y, scr N q c G N k = y := ⟨_, rfl⟩
    rw [hY2] at hsa hbp
    have HY2 := Lib.hid hY2
    have HPQ := Lib.hid hps
    have HAQ := Lib.hid hsa
    clear hq HXX2 HSP HPS HSA HBP hKN hY2 hps hsa
    obtain ⟨d0, d1, dl⟩ := id Q224
    go_wp2_with fail
    have kk := (Below.refl w221.heap.size w221).drew
    obtain ⟨e0, e1, el⟩ := Q224.below kk Q224.2.2
    have bd := bc.drew
    go_region_held3 (fun wx => wx.cell? ⟨X, 0, none⟩ = some (.string c) ∧ wx.cell? ⟨X, 1, none⟩ = some (.int .i64 (G : Int))) (first | with_reducible exact ⟨o0, o1⟩ | with_reducible exact ⟨m0, m1'⟩ | with_reducible exact ⟨e0, e1⟩) (first
      | (go_at_call 20; refine (HX.out _).mono ?_; rintro e w9 ⟨u, rfl, OU, hb9⟩; have kk9 := below_then kk8 (Nat.le_refl _) hb9; obtain ⟨o0, o1, ol⟩ := Q224.below kk9 Q224.2.2; have bd9 := below_then bd8 (Nat.le_refl _) hb9)
      | (go_at_call 17; refine (HL.out _).mono ?_; rintro e w8 ⟨rfl, hb8⟩; have kk8 := below_then kk (Nat.le_refl _) hb8; obtain ⟨m0, m1', ml⟩ := Q224.below kk8 Q224.2.2; have bd8 := below_then bd (Nat.le_refl _) hb8))
    have OV9 := O223.below kk9
    have QV9 := Q224.below kk9 Q224.2.2
    clear O223 Q224 bc bd bd8 kk kk8 kk9 hb8 hb9 e0 e1 el m0 m1' ml o0 o1 ol d0 d1 dl m1
    have bc := bd9
    clear bd9
    obtain ⟨ua, uc, rfl, -⟩ := OU.form
    have HA := Lib.hid (fun w h h' => iAddSig_any (.slice sa n sc) n f (.slice ua N uc) N q w h (by omega) h' (by omega))
    go_wp2_with fail
    refine (HA.out _ OV9.ints OU.ints).mono ?_
    rintro e w226 ⟨u3, rfl, O228, hb227⟩
    have O229 := OV9.below hb227
    clear OV9
    have O230 := OU.below hb227
    clear OU
    have Q231 := QV9.below hb227 QV9.2.2
    clear QV9
    have b232 := below_then bc (Nat.le_refl _) hb227
    clear bc
    have bc := b232
    clear b232 hb227
    go_wp2_with fail
    refine (HCL.out _ O229.ints).mono ?_
    rintro e w233 ⟨u4, rfl, O235, hb234⟩
    have O236 := O229.below hb234
    clear O229
    have O237 := O230.below hb234
    clear O230
    have O238 := O228.below hb234
    clear O228
    have Q239 := Q231.below hb234 Q231.2.2
    clear Q231
    have b240 := below_then bc (Nat.le_refl _) hb234
    clear bc
    have bc := b240
    clear b240 hb234
    clear O236
    have HSM := Lib.hid (fun w h => HSS.out u4 n (scF (-1) f) (-Y) w HMM.out HSN.out h)
    have HSO := Lib.hid (fun w h => HSS.out (.slice ua N uc) N q Y2 w HPQ.out HY2.out h)
    obtain ⟨y0, y1⟩ := hb1
    obtain ⟨y2, y3⟩ := hbp
    have ng : IntKind.i64.wrap (-Y) = -Y := IntWalk.i64_in _ (by omega)
    have nq2 : IntKind.i64.wrap (Y + Y2) = Y + Y2 := IntWalk.i64_in _ (by omega)
    cases had : adOK n f N q with
    | false =>
      clear O238 O237 HSO HA
      obtain ⟨d0, d1, dl⟩ := id Q239
      go_wp2_with fail
      have kk := (Below.refl w233.heap.size w233).drew
      obtain ⟨e0, e1, el⟩ := Q239.below kk Q239.2.2
      have I1 := O235.intsC.below kk
      have bd := bc.drew
      refine wp_region_held_drew (S := (fun wx => wx.cell? ⟨X, 0, none⟩ = some (.string c) ∧ wx.cell? ⟨X, 1, none⟩ = some (.int .i64 (G : Int)))) (by kernel_rfl) ⟨e0, e1⟩ (fun hHeld => ?_)
      refine wpAnyH_take (i := 0) (oi := { dst := some 87, op := Go.Op.move (Go.Operand.tmp 15), type := 4, pos := "laws.go:1503", after := #[], guard := none }) (v := ?v0s) rfl (by kernel_rfl) (by kernel_rfl) (by kernel_rfl) (fun _ _ _ h => h) (Or.inl ⟨by rfl, ?hy0s⟩) (by assumption) ?rest0s
      case hy0s => (intro w hSw; (try dsimp only at hSw); go_simp; try with_reducible rfl)
      try simp only [Act.put, List.setIfInBounds_toArray, List.set_cons_zero, List.set_cons_succ]
      refine wpAnyH_take (i := 1) (oi := { dst := some 88, op := Go.Op.unOp Go.UnOp.not 4 (Go.Operand.tmp 87), type := 4, pos := "laws.go:1503", after := #[{ on := 0, ground := Go.Ground.data }], guard := none }) (v := ?v1s) rfl (by kernel_rfl) (by kernel_rfl) (by kernel_rfl) (fun _ _ _ h => h) (Or.inl ⟨by rfl, ?hy1s⟩) (by assumption) ?rest1s
      case hy1s => (intro w hSw; (try dsimp only at hSw); go_simp; try with_reducible rfl)
      try simp only [Act.put, List.setIfInBounds_toArray, List.set_cons_zero, List.set_cons_succ]
      refine wpAnyH_take (i := 2) (oi := { dst := some 89, op := Go.Op.move (Go.Operand.tmp 88), type := 4, pos := "laws.go:1503", after := #[{ on := 1, ground := Go.Ground.data }], guard := none }) (v := ?v2s) rfl (by kernel_rfl) (by kernel_rfl) (by kernel_rfl) (fun _ _ _ h => h) (Or.inl ⟨by rfl, ?hy2s⟩) (by assumption) ?rest2s
      case hy2s => (intro w hSw; (try dsimp only at hSw); go_simp; try with_reducible rfl)
      try simp only [Act.put, List.setIfInBounds_toArray, List.set_cons_zero, List.set_cons_succ]
      refine wpAnyH_take (i := 3) (oi := { dst := some 90, op := Go.Op.move (Go.Operand.tmp 14), type := 27, pos := "laws.go:1503", after := #[{ on := 2, ground := Go.Ground.guard }], guard := some (2, false) }) (v := undef) rfl (by kernel_rfl) (by kernel_rfl) (by kernel_rfl) (fun _ _ _ h => h) (Or.inr ⟨by rfl, rfl⟩) (by assumption) ?_
      try simp only [Act.put, List.setIfInBounds_toArray, List.set_cons_zero, List.set_cons_succ]
      refine wpAnyH_take (i := 4) (oi := { dst := some 91, op := Go.Op.load 24 (Go.Operand.tmp 6), type := 24, pos := "laws.go:1503", after := #[{ on := 2, ground := Go.Ground.guard }], guard := some (2, false) }) (v := undef) rfl (by kernel_rfl) (by kernel_rfl) (by kernel_rfl) (fun _ _ _ h => h) (Or.inr ⟨by rfl, rfl⟩) (by assumption) ?_
      try simp only [Act.put, List.setIfInBounds_toArray, List.set_cons_zero, List.set_cons_succ]
      refine wpAnyH_take (i := 5) (oi := { dst := some 92, op := Go.Op.move (Go.Operand.tmp 7), type := 3, pos := "laws.go:1503", after := #[{ on := 2, ground := Go.Ground.guard }], guard := some (2, false) }) (v := undef) rfl (by kernel_rfl) (by kernel_rfl) (by kernel_rfl) (fun _ _ _ h => h) (Or.inr ⟨by rfl, rfl⟩) (by assumption) ?_
      try simp only [Act.put, List.setIfInBounds_toArray, List.set_cons_zero, List.set_cons_succ]
      refine wpAnyH_take (i := 6) (oi := { dst := some 93, op := Go.Op.call { callee := Go.Callee.value (Go.Operand.func 26), args := #[Go.Operand.tmp 90, Go.Operand.tmp 91, Go.Operand.tmp 92], argTypes := #[27, 24, 3] }, type := 3, pos := "laws.go:1503", after := #[{ on := 3, ground := Go.Ground.data }, { on := 4, ground := Go.Ground.data }, { on := 5, ground := Go.Ground.data }, { on := 2, ground := Go.Ground.chain }, { on := 2, ground := Go.Ground.guard }], guard := some (2, false) }) (v := undef) rfl (by kernel_rfl) (by kernel_rfl) (by kernel_rfl) (fun _ _ _ h => h) (Or.inr ⟨by rfl, rfl⟩) (by assumption) ?_
      try simp only [Act.put, List.setIfInBounds_toArray, List.set_cons_zero, List.set_cons_succ]
      refine wpAnyH_take (i := 7) (oi := { dst := some 94, op := Go.Op.move (Go.Operand.tmp 8), type := 3, pos := "laws.go:1503", after := #[{ on := 2, ground := Go.Ground.guard }], guard := some (2, false) }) (v := undef) rfl (by kernel_rfl) (by kernel_rfl) (by kernel_rfl) (fun _ _ _ h => h) (Or.inr ⟨by rfl, rfl⟩) (by assumption) ?_
      try simp only [Act.put, List.setIfInBounds_toArray, List.set_cons_zero, List.set_cons_succ]
      refine wpAnyH_take (i := 8) (oi := { dst := some 95, op := Go.Op.move (Go.Operand.tmp 13), type := 27, pos := "laws.go:1503", after := #[{ on := 2, ground := Go.Ground.guard }], guard := some (2, false) }) (v := undef) rfl (by kernel_rfl) (by kernel_rfl) (by kernel_rfl) (fun _ _ _ h => h) (Or.inr ⟨by rfl, rfl⟩) (by assumption) ?_
      try simp only [Act.put, List.setIfInBounds_toArray, List.set_cons_zero, List.set_cons_succ]
      refine wpAnyH_take (i := 9) (oi := { dst := some 96, op := Go.Op.load 24 (Go.Operand.tmp 6), type := 24, pos := "laws.go:1503", after := #[{ on := 2, ground := Go.Ground.guard }], guard := some (2, false) }) (v := undef) rfl (by kernel_rfl) (by kernel_rfl) (by kernel_rfl) (fun _ _ _ h => h) (Or.inr ⟨by rfl, rfl⟩) (by assumption) ?_
      try simp only [Act.put, List.setIfInBounds_toArray, List.set_cons_zero, List.set_cons_succ]
      refine wpAnyH_take (i := 10) (oi := { dst := some 97, op := Go.Op.move (Go.Operand.tmp 7), type := 3, pos := "laws.go:1503", after := #[{ on := 2, ground := Go.Ground.guard }], guard := some (2, false) }) (v := undef) rfl (by kernel_rfl) (by kernel_rfl) (by kernel_rfl) (fun _ _ _ h => h) (Or.inr ⟨by rfl, rfl⟩) (by assumption) ?_
      try simp only [Act.put, List.setIfInBounds_toArray, List.set_cons_zero, List.set_cons_succ]
      refine wpAnyH_take (i := 11) (oi := { dst := some 98, op := Go.Op.call { callee := Go.Callee.value (Go.Operand.func 26), args := #[Go.Operand.tmp 95, Go.Operand.tmp 96, Go.Operand.tmp 97], argTypes := #[27, 24, 3] }, type := 3, pos := "laws.go:1503", after := #[{ on := 8, ground := Go.Ground.data }, { on := 9, ground := Go.Ground.data }, { on := 10, ground := Go.Ground.data }, { on := 6, ground := Go.Ground.chain }, { on := 2, ground := Go.Ground.guard }], guard := some (2, false) }) (v := undef) rfl (by kernel_rfl) (by kernel_rfl) (by kernel_rfl) (fun _ _ _ h => h) (Or.inr ⟨by rfl, rfl⟩) (by assumption) ?_
      try simp only [Act.put, List.setIfInBounds_toArray, List.set_cons_zero, List.set_cons_succ]
      refine wpAnyH_take (i := 12) (oi := { dst := some 99, op := Go.Op.binOp Go.BinOp.add 3 (Go.Operand.tmp 94) (Go.Operand.tmp 98) 3, type := 3, pos := "laws.go:1503", after := #[{ on := 7, ground := Go.Ground.data }, { on := 11, ground := Go.Ground.data }, { on := 2, ground := Go.Ground.guard }], guard := some (2, false) }) (v := undef) rfl (by kernel_rfl) (by kernel_rfl) (by kernel_rfl) (fun _ _ _ h => h) (Or.inr ⟨by rfl, rfl⟩) (by assumption) ?_
      try simp only [Act.put, List.setIfInBounds_toArray, List.set_cons_zero, List.set_cons_succ]
      refine wpAnyH_take (i := 13) (oi := { dst := some 100, op := Go.Op.binOp Go.BinOp.eql 3 (Go.Operand.tmp 93) (Go.Operand.tmp 99) 3, type := 4, pos := "laws.go:1503", after := #[{ on := 6, ground := Go.Ground.data }, { on := 12, ground := Go.Ground.data }, { on := 2, ground := Go.Ground.guard }], guard := some (2, false) }) (v := undef) rfl (by kernel_rfl) (by kernel_rfl) (by kernel_rfl) (fun _ _ _ h => h) (Or.inr ⟨by rfl, rfl⟩) (by assumption) ?_
      try simp only [Act.put, List.setIfInBounds_toArray, List.set_cons_zero, List.set_cons_succ]
      refine wpAnyH_take (i := 14) (oi := { dst := some 101, op := Go.Op.pick (Go.Operand.tmp 89) (Go.Operand.const (Go.Value.bool true)) (Go.Operand.tmp 100), type := 4, pos := "laws.go:1503", after := #[{ on := 2, ground := Go.Ground.data }, { on := 13, ground := Go.Ground.data }], guard := none }) (v := ?v14s) rfl (by kernel_rfl) (by kernel_rfl) (by kernel_rfl) (fun _ _ _ h => h) (Or.inl ⟨by rfl, ?hy14s⟩) (by assumption) ?rest14s
      case hy14s => (intro w hSw; (try dsimp only at hSw); go_simp; try with_reducible rfl)
      try simp only [Act.put, List.setIfInBounds_toArray, List.set_cons_zero, List.set_cons_succ]
      refine wpAnyH_take (i := 15) (oi := { dst := some 102, op := Go.Op.move (Go.Operand.tmp 101), type := 4, pos := "laws.go:1503", after := #[{ on := 14, ground := Go.Ground.data }, { on := 11, ground := Go.Ground.chain }], guard := none }) (v := ?v15s) rfl (by kernel_rfl) (by kernel_rfl) (by kernel_rfl) (fun _ _ _ h => h) (Or.inl ⟨by rfl, ?hy15s⟩) (by assumption) ?rest15s
      case hy15s => (intro w hSw; (try dsimp only at hSw); go_simp; try with_reducible rfl)
      try simp only [Act.put, List.setIfInBounds_toArray, List.set_cons_zero, List.set_cons_succ]
      refine wpAnyH_take (i := 16) (oi := { dst := some 103, op := Go.Op.move (Go.Operand.tmp 17), type := 4, pos := "laws.go:1503", after := #[{ on := 15, ground := Go.Ground.guard }], guard := some (15, true) }) (v := ?v16s) rfl (by kernel_rfl) (by kernel_rfl) (by kernel_rfl) (fun _ _ _ h => h) (Or.inl ⟨by rfl, ?hy16s⟩) (by assumption) ?rest16s
      case hy16s => (intro w hSw; (try dsimp only at hSw); go_simp; try with_reducible rfl)
      try simp only [Act.put, List.setIfInBounds_toArray, List.set_cons_zero, List.set_cons_succ]
      refine wpAnyH_take (i := 17) (oi := { dst := some 104, op := Go.Op.pick (Go.Operand.tmp 102) (Go.Operand.tmp 103) (Go.Operand.const (Go.Value.bool false)), type := 4, pos := "laws.go:1503", after := #[{ on := 15, ground := Go.Ground.data }, { on := 16, ground := Go.Ground.data }], guard := none }) (v := ?v17s) rfl (by kernel_rfl) (by kernel_rfl) (by kernel_rfl) (fun _ _ _ h => h) (Or.inl ⟨by rfl, ?hy17s⟩) (by assumption) ?rest17s
      case hy17s => (intro w hSw; (try dsimp only at hSw); go_simp; try with_reducible rfl)
      try simp only [Act.put, List.setIfInBounds_toArray, List.set_cons_zero, List.set_cons_succ]
      refine wpAnyH_take (i := 18) (oi := { dst := some 105, op := Go.Op.move (Go.Operand.tmp 104), type := 4, pos := "laws.go:1503", after := #[{ on := 17, ground := Go.Ground.data }, { on := 15, ground := Go.Ground.chain }], guard := none }) (v := ?v18s) rfl (by kernel_rfl) (by kernel_rfl) (by kernel_rfl) (fun _ _ _ h => h) (Or.inl ⟨by rfl, ?hy18s⟩) (by assumption) ?rest18s
      case hy18s => (intro w hSw; (try dsimp only at hSw); go_simp; try with_reducible rfl)
      try simp only [Act.put, List.setIfInBounds_toArray, List.set_cons_zero, List.set_cons_succ]
      refine wpAnyH_take (i := 19) (oi := { dst := some 106, op := Go.Op.move (Go.Operand.tmp 16), type := 27, pos := "laws.go:1503", after := #[{ on := 18, ground := Go.Ground.guard }], guard := some (18, true) }) (v := ?v19s) rfl (by kernel_rfl) (by kernel_rfl) (by kernel_rfl) (fun _ _ _ h => h) (Or.inl ⟨by rfl, ?hy19s⟩) (by assumption) ?rest19s
      case hy19s => (intro w hSw; (try dsimp only at hSw); go_simp; try with_reducible rfl)
      try simp only [Act.put, List.setIfInBounds_toArray, List.set_cons_zero, List.set_cons_succ]
      refine wpAnyH_take (i := 20) (oi := { dst := some 107, op := Go.Op.load 24 (Go.Operand.tmp 6), type := 24, pos := "laws.go:1503", after := #[{ on := 18, ground := Go.Ground.guard }], guard := some (18, true) }) (v := ?v20s) rfl (by kernel_rfl) (by kernel_rfl) (by kernel_rfl) (fun _ _ _ h => h) (Or.inl ⟨by rfl, ?hy20s⟩) (by assumption) ?rest20s
      case hy20s => (intro w hSw; (try dsimp only at hSw); go_simp; try with_reducible rfl)
      try simp only [Act.put, List.setIfInBounds_toArray, List.set_cons_zero, List.set_cons_succ]
      refine wpAnyH_take (i := 21) (oi := { dst := some 108, op := Go.Op.move (Go.Operand.tmp 7), type := 3, pos := "laws.go:1503", after := #[{ on := 18, ground := Go.Ground.guard }], guard := some (18, true) }) (v := ?v21s) rfl (by kernel_rfl) (by kernel_rfl) (by kernel_rfl) (fun _ _ _ h => h) (Or.inl ⟨by rfl, ?hy21s⟩) (by assumption) ?rest21s
      case hy21s => (intro w hSw; (try dsimp only at hSw); go_simp; try with_reducible rfl)
      try simp only [Act.put, List.setIfInBounds_toArray, List.set_cons_zero, List.set_cons_succ]
      refine wpAnyH_take (i := 23) (oi := { dst := some 110, op := Go.Op.move (Go.Operand.tmp 8), type := 3, pos := "laws.go:1503", after := #[{ on := 18, ground := Go.Ground.guard }], guard := some (18, true) }) (v := ?v23s) rfl (by kernel_rfl) (by kernel_rfl) (by kernel_rfl) (fun _ _ _ h => h) (Or.inl ⟨by rfl, ?hy23s⟩) (by assumption) ?rest23s
      case hy23s => (intro w hSw; (try dsimp only at hSw); go_simp; try with_reducible rfl)
      try simp only [Act.put, List.setIfInBounds_toArray, List.set_cons_zero, List.set_cons_succ]
      refine wpAnyH_take (i := 24) (oi := { dst := some 111, op := Go.Op.unOp Go.UnOp.neg 3 (Go.Operand.tmp 110), type := 3, pos := "laws.go:1503", after := #[{ on := 23, ground := Go.Ground.data }, { on := 18, ground := Go.Ground.guard }], guard := some (18, true) }) (v := ?v24s) rfl (by kernel_rfl) (by kernel_rfl) (by kernel_rfl) (fun _ _ _ h => h) (Or.inl ⟨by rfl, ?hy24s⟩) (by assumption) ?rest24s
      case hy24s => (intro w hSw; (try dsimp only at hSw); go_simp; try with_reducible rfl)
      try simp only [Act.put, List.setIfInBounds_toArray, List.set_cons_zero, List.set_cons_succ]
      refine wpAnyH_ready (rs := [22]) (by kernel_rfl) (by simp) ?_
      refine AllReadyH.cons (o := { dst := some 109, op := Go.Op.call { callee := Go.Callee.value (Go.Operand.func 26), args := #[Go.Operand.tmp 106, Go.Operand.tmp 107, Go.Operand.tmp 108], argTypes := #[27, 24, 3] }, type := 3, pos := "laws.go:1503", after := #[{ on := 19, ground := Go.Ground.data }, { on := 20, ground := Go.Ground.data }, { on := 21, ground := Go.Ground.data }, { on := 18, ground := Go.Ground.chain }, { on := 18, ground := Go.Ground.guard }], guard := some (18, true) }) rfl (fun K hK => ?_) AllReadyH.nil
      go_simp
      go_at_call 26
      refine (HSM.out _ I1).mono ?_
      rintro e w10 ⟨rfl, hb10⟩
      have kk10 := below_then kk (Nat.le_refl _) hb10
      obtain ⟨m0, m1', ml⟩ := Q239.below kk10 Q239.2.2
      have bd10 := below_then bd (Nat.le_refl _) hb10
      refine hK.out _ _ ⟨m0, m1'⟩ (fun hHeld => ?_)
      clear hK K
      try simp only [Act.put, List.setIfInBounds_toArray, List.set_cons_zero, List.set_cons_succ]
      refine wpAnyH_take (i := 25) (oi := { dst := some 112, op := Go.Op.binOp Go.BinOp.eql 3 (Go.Operand.tmp 109) (Go.Operand.tmp 111) 3, type := 4, pos := "laws.go:1503", after := #[{ on := 22, ground := Go.Ground.data }, { on := 24, ground := Go.Ground.data }, { on := 18, ground := Go.Ground.guard }], guard := some (18, true) }) (v := ?v25s) rfl (by kernel_rfl) (by kernel_rfl) (by kernel_rfl) (fun _ _ _ h => h) (Or.inl ⟨by rfl, ?hy25s⟩) (by assumption) ?rest25s
      case hy25s => (intro w hSw; (try dsimp only at hSw); go_simp; try with_reducible rfl)
      try simp only [Act.put, List.setIfInBounds_toArray, List.set_cons_zero, List.set_cons_succ]
      refine wpAnyH_take (i := 26) (oi := { dst := some 113, op := Go.Op.pick (Go.Operand.tmp 105) (Go.Operand.tmp 112) (Go.Operand.const (Go.Value.bool false)), type := 4, pos := "laws.go:1503", after := #[{ on := 18, ground := Go.Ground.data }, { on := 25, ground := Go.Ground.data }], guard := none }) (v := ?v26s) rfl (by kernel_rfl) (by kernel_rfl) (by kernel_rfl) (fun _ _ _ h => h) (Or.inl ⟨by rfl, ?hy26s⟩) (by assumption) ?rest26s
      case hy26s => (intro w hSw; (try dsimp only at hSw); go_simp; try with_reducible rfl)
      try simp only [Act.put, List.setIfInBounds_toArray, List.set_cons_zero, List.set_cons_succ]
      refine wpAnyH_take (i := 27) (oi := { dst := some 4, op := Go.Op.assign (Go.Operand.tmp 113), type := 4, pos := "laws.go:1503", after := #[{ on := 26, ground := Go.Ground.data }, { on := 22, ground := Go.Ground.chain }, { on := 0, ground := Go.Ground.phase }, { on := 1, ground := Go.Ground.phase }, { on := 2, ground := Go.Ground.phase }, { on := 3, ground := Go.Ground.phase }, { on := 4, ground := Go.Ground.phase }, { on := 5, ground := Go.Ground.phase }, { on := 6, ground := Go.Ground.phase }, { on := 7, ground := Go.Ground.phase }, { on := 8, ground := Go.Ground.phase }, { on := 9, ground := Go.Ground.phase }, { on := 10, ground := Go.Ground.phase }, { on := 11, ground := Go.Ground.phase }, { on := 12, ground := Go.Ground.phase }, { on := 13, ground := Go.Ground.phase }, { on := 14, ground := Go.Ground.phase }, { on := 15, ground := Go.Ground.phase }, { on := 16, ground := Go.Ground.phase }, { on := 17, ground := Go.Ground.phase }, { on := 18, ground := Go.Ground.phase }, { on := 19, ground := Go.Ground.phase }, { on := 20, ground := Go.Ground.phase }, { on := 21, ground := Go.Ground.phase }, { on := 22, ground := Go.Ground.phase }, { on := 23, ground := Go.Ground.phase }, { on := 24, ground := Go.Ground.phase }, { on := 25, ground := Go.Ground.phase }, { on := 26, ground := Go.Ground.phase }], guard := none }) (v := ?v27s) rfl (by kernel_rfl) (by kernel_rfl) (by kernel_rfl) (fun _ _ _ h => h) (Or.inl ⟨by rfl, ?hy27s⟩) (by assumption) ?rest27s
      case hy27s => (intro w hSw; (try dsimp only at hSw); go_simp; try with_reducible rfl)
      try simp only [Act.put, List.setIfInBounds_toArray, List.set_cons_zero, List.set_cons_succ]
      refine wpAnyH_done (by kernel_rfl) ?_ _
      go_wp2
      go_ret
      exact ⟨ret_bool (by simp), bd10⟩
    | true =>
      rw [show adN n f N q = max n N by unfold adN; rw [had]; rfl] at O238
      have hs9 : sigB (max n N) (agF n f N q) = true := by unfold adOK at had; simp only [Bool.and_eq_true] at had; exact had.2.2
      have HSU := Lib.hid (fun w h => HSS.out u3 (max n N) (agF n f N q) (Y + Y2) w hs9 HAQ.out h)
      clear hs9 HA
      obtain ⟨d0, d1, dl⟩ := id Q239
      go_wp2_with fail
      have kk := (Below.refl w233.heap.size w233).drew
      obtain ⟨e0, e1, el⟩ := Q239.below kk Q239.2.2
      have I1 := Lib.hid (O238.intsC.below kk)
      have I2 := Lib.hid (O237.intsC.below kk)
      have I3 := Lib.hid (O235.intsC.below kk)
      have bd := bc.drew
      go_region_held3 (fun wx => wx.cell? ⟨X, 0, none⟩ = some (.string c) ∧ wx.cell? ⟨X, 1, none⟩ = some (.int .i64 (G : Int))) (first | with_reducible exact ⟨o0, o1⟩ | with_reducible exact ⟨p0, p1'⟩ | with_reducible exact ⟨m0, m1'⟩ | with_reducible exact ⟨e0, e1⟩) (first
        | (go_at_call 26; refine (HSM.out _ I6).mono ?_; rintro e w12 ⟨rfl, hb12⟩; obtain ⟨o0, o1, ol⟩ := Q239.below (below_then kk11 (Nat.le_refl _) hb12) Q239.2.2; have bd12 := below_then bd11 (Nat.le_refl _) hb12)
        | (go_at_call 26; refine (HSO.out _ I5).mono ?_; rintro e w11 ⟨rfl, hb11⟩; have kk11 := below_then kk10 (Nat.le_refl _) hb11; obtain ⟨p0, p1', pl⟩ := Q239.below kk11 Q239.2.2; have I6 := I4.below hb11; have bd11 := below_then bd10 (Nat.le_refl _) hb11)
        | (go_at_call 26; refine (HSU.out _ I1.out).mono ?_; rintro e w10 ⟨rfl, hb10⟩; have kk10 := below_then kk (Nat.le_refl _) hb10; obtain ⟨m0, m1', ml⟩ := Q239.below kk10 Q239.2.2; have I4 := I3.out.below hb10; have I5 := I2.out.below hb10; have bd10 := below_then bd (Nat.le_refl _) hb10))
      go_wp2
      go_ret
      exact ⟨ret_bool (by simp), bd12⟩
end Go.Proofs.Ytmeooebklohdfaa
