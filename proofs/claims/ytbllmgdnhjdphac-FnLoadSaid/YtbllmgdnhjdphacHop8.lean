/- RemapHops of both sides. -/
import Derived.Test.YtbllmgdnhjdphacHop7
namespace Go.Proofs.Ytbllmgdnhjdphac
open Go.RowKit Go.Maps
set_option linter.unusedVariables false
set_option maxRecDepth 100000
theorem SlotAt.setCell {w : World} {b n : Nat} {D : DataW Unit} (h : SlotAt w b n D) {a : Addr} (ha : b ≠ a.block) (u : Value) : SlotAt (w.setCell a u) b n D := World.ownsMap.setCell h ha u
theorem SlotAt.below {w w' : World} {b n : Nat} {D : DataW Unit} (h : SlotAt w b n D) (hb : Below w.heap.size w w') : SlotAt w' b n D := World.ownsMap.kept h (grown_of_below hb) (by simp)
theorem ret_tb {x : Value} {a b : Bool} (h : a = b) : Ending.returned (.tuple #[x, .bool a]) = .returned (.tuple #[x, .bool b]) := by rw [h]
set_option maxHeartbeats 3200000 in
theorem iRemap_any (v : Value) (n : Nat) (z : Nat → Int) (C : Int) (u : Value) (m : Nat) (j : Nat → Int) (w : World) (h : IntsR w v n z) (hn : n ≤ 1048576) (hu : IntsR w u m j) (hm : m ≤ 1048576) :
    Calls Try.prog 23 #[v, .int .i64 C, u] w fun e w' => ∃ x, e = .returned (.tuple #[x, .bool (rmB n z C m j)]) ∧ OF w' w.heap.size x (rmN n z C m j) (rmF z C m j) ∧ Below w.heap.size w w' := by
  have h1 := fun w h => iHops_any v n z C w h hn
  have h2 := fun w h => iJam_any u m j w h hm
  have HU := Lib.hid hu
  have HR := Lib.hid h
  have hno := @rm_no n z C m j
  have hB : rmB n z C m j = (hopB n z C && (jamB m j && decide (0 < gN m j C.toNat))) := rfl
  cases hH : hopB n z C with
  | false =>
    rw [hH, Bool.false_and] at hB
    rw [hno hB, hB]
    rw [hH] at h1
    have H1 := Lib.hid h1
    clear h1 h2 hno hH hB h hu
    go_enter Try.func23, Try.ntmps23
    go_wp2_with fail
    refine (H1.out _ HR.out).mono ?_
    rintro e w' ⟨rfl, rfl⟩
    go_wp2
    go_ret2
    exact ⟨_, rfl, OF.nil _ _ _, Below.refl _ _⟩
  | true =>
    rw [hH] at h1
    have H1 := Lib.hid h1
    cases hJ : jamB m j with
    | false =>
      rw [hH, hJ, Bool.false_and, Bool.and_false] at hB
      rw [hno hB, hB]
      rw [hJ] at h2
      have H2 := Lib.hid h2
      clear h1 h2 hno hH hJ hB h hu
      go_enter Try.func23, Try.ntmps23
      go_wp2_with fail
      refine (H1.out _ HR.out).mono ?_
      rintro e w' ⟨rfl, rfl⟩
      go_wp2_with fail
      refine (H2.out _ HU.out).mono ?_
      rintro e w' ⟨rfl, rfl⟩
      go_wp2
      go_ret2
      exact ⟨_, rfl, OF.nil _ _ _, Below.refl _ _⟩
    | true =>
      rw [hJ] at h2
      have H2 := Lib.hid h2
      obtain ⟨⟨c1, c2⟩, n3, hz⟩ := (hopB_iff n z C).1 hH
      obtain ⟨m3, -⟩ := (jamB_iff m j).1 hJ
      obtain ⟨c, rfl⟩ : ∃ c : Nat, C = c := ⟨C.toNat, by omega⟩
      have HGD := Lib.hid (fun w h => iGood_any c u m j w h hm (by omega))
      rw [hH, hJ, Bool.true_and, Bool.true_and, Int.toNat_natCast] at hB
      have hgl := gN_le m j c
      by_cases hG0 : 0 < gN m j c
      · rw [decide_eq_true hG0] at hB
        have hN : rmN n z c m j = n := by unfold rmN; rw [hB]; rfl
        rw [hN, hB]
        have HO := Lib.hid (fun w h1 h2 => open_slots v u n m z j w h1 h2 n3 m3)
        have HY := Lib.hid (fun i (h : isJ m j (z i) = true) => (rmF_bad (C := (c : Int)) h).trans (by rw [Int.toNat_natCast]))
        have HN := Lib.hid (fun i (h : isJ m j (z i) = false) => rmF_good (C := (c : Int)) h)
        have hmk := make_ints n (by omega)
        have HZ := Lib.hid hz
        obtain ⟨F, hF⟩ : ∃ F, rmF z c m j = F := ⟨_, rfl⟩
        rw [hF] at HY HN ⊢
        obtain ⟨G, hG⟩ : ∃ G, gN m j c = G := ⟨_, rfl⟩
        rw [hG] at HGD hG0 HY hgl
        obtain ⟨gf, hgf⟩ : ∃ gf, gF m j c = gf := ⟨_, rfl⟩
        rw [hgf] at HGD HY
        obtain ⟨a, cap, rfl, hc⟩ := h
        have HC := Lib.hid hc
        have l0 : ¬ ((G : Int) = 0) := by omega
        have l1 : ((G : Int) == 0) = false := by simp; omega
        have hG16 : G ≤ 16 := by omega
        clear h1 h2 hno hH hJ hB hu hN hF hG hgf hz hc c1 c2 hgl
        go_enter Try.func23, Try.ntmps23
        go_wp2_with fail
        refine (H1.out _ HR.out).mono ?_
        rintro e w' ⟨rfl, rfl⟩
        go_wp2_with fail
        refine (H2.out _ HU.out).mono ?_
        rintro e w' ⟨rfl, rfl⟩
        clear H1 H2
        go_wp2_with fail
        refine (HGD.out _ HU.out).mono ?_
        rintro e w1 ⟨vg, rfl, OG, b1⟩
        obtain ⟨ag, capg, rfl, hfg⟩ := OG.form
        obtain ⟨g, rfl, g1, g2, -⟩ := hfg hG0
        have R1 := HR.out.below b1
        have U1 := HU.out.below b1
        clear hfg HGD HR HU
        go_wp2_with fail
        refine (HO.out _ R1 U1).mono ?_
        rintro e w2 ⟨b, D, rfl, hown, hb1, hM, hb2⟩
        have OG2 := OG.below hb2
        have b2 := below_then b1 (Nat.le_refl _) hb2
        have hbl := World.ownsMap.lt hown
        have hs2 := hb2.size
        have hws := b1.size
        have M := Lib.hid hM
        clear R1 U1 OG b1 hb2 HO hM
        go_wp2
        have OR := (OF.made w2 n (by omega)).congr (g := fun k => if k < 0 then F k else 0) (fun j _ => by simp)
        have SA := World.ownsMap.alloc hown (.cells (madeCells #[.int .i64 0] n) 3)
        have GA := OG2.alloc (.cells (madeCells #[.int .i64 0] n) 3)
        have BA := b2.alloc b2.size (.cells (madeCells #[.int .i64 0] n) 3)
        obtain ⟨R, hR⟩ : ∃ R, w2.heap.size = R := ⟨_, rfl⟩
        rw [hR] at OR hbl hs2 ⊢
        have hgR : g ≠ R := by omega
        have hbR : b ≠ R := by omega
        have hwR : w.heap.size ≤ R := by omega
        obtain ⟨W, hW⟩ : ∃ W, w2.alloc (.cells (madeCells #[.int .i64 0] n) 3) = W := ⟨_, rfl⟩
        rw [hW] at OR SA GA BA ⊢
        clear hW hmk hR hown OG2 b2 g1 g2 hb1 hbl hs2 hws
        go_loopw [36] (fun t wr => ∃ i : Nat, i ≤ n ∧ t = .int .i64 i ∧ OF wr R (.slice (some ⟨R, 0, none⟩) n n) n (fun k => if k < i then F k else 0) ∧ SlotAt wr b n D ∧ OF wr w.heap.size (.slice (some ⟨g, 0, none⟩) G capg) G gf ∧ Below w.heap.size w wr) (fun t _ => n - (intOf t).toNat)
        case atStart => exact ⟨0, Nat.zero_le _, rfl, OR, SA, GA, BA⟩
        case round =>
          obtain ⟨i, hi, rfl, rO, rS, rG, rb⟩ := hrel
          clear OR SA GA BA
          by_cases hlt : i < n
          · obtain ⟨x, rfl, hx, hcc⟩ := HC.out i hlt
            have c0 := (rb.cell (p := x.add i) (by rw [add_block]; exact hx)).trans hcc
            have hlk := SlotAt.look rS M.out i (by omega)
            rw [decide_eq_true hlt, Bool.true_and] at hlk
            obtain ⟨y1, y2⟩ := HZ.out i hlt
            have hy := HY.out i
            have hn' := HN.out i
            obtain ⟨t1, t2⟩ := rO.at i hlt
            have i0 : (0 : Int) ≤ (i : Int) := by omega
            have i1 : (i : Int) < (n : Int) := by omega
            have hset : ∀ Y : Int, F i = Y → Hid (OF (wr.setCell ⟨R, i, none⟩ (.int .i64 Y)) R (.slice (some ⟨R, 0, none⟩) n n) n (fun k => if k < i + 1 then F k else 0)) := fun Y hY =>
              Lib.hid (rO.set i Y hlt (fun k hk => by
                by_cases e : k = i
                · subst e; rw [if_pos (by omega), if_pos rfl]; exact hY
                · rw [if_neg e]
                  by_cases e' : k < i
                  · rw [if_pos (by omega), if_pos e']
                  · rw [if_neg (by omega), if_neg e']))
            have hS : ∀ Y : Int, Hid (SlotAt (wr.setCell ⟨R, i, none⟩ (.int .i64 Y)) b n D) := fun Y => Lib.hid (SlotAt.setCell rS hbR _)
            have hGk : ∀ Y : Int, Hid (OF (wr.setCell ⟨R, i, none⟩ (.int .i64 Y)) w.heap.size (.slice (some ⟨g, 0, none⟩) G capg) G gf) := fun Y => Lib.hid (rG.kept (row := some R) ⟨rfl, rfl, rfl, by simp, fun k hk hne => Below.heap_setCell _ _ _ _ (fun e => hne (by rw [e]))⟩ (.inr (by simp [Value.ownBlock, hgR])))
            have hBk : ∀ Y : Int, Hid (Below w.heap.size w (wr.setCell ⟨R, i, none⟩ (.int .i64 Y))) := fun Y => Lib.hid (rb.setCell (p := ⟨R, i, none⟩) hwR _)
            cases hq : isJ m j (z i) with
            | true =>
              rw [hq] at hlk
              have hv := hy hq
              obtain ⟨Y, hY⟩ : ∃ Y, z i = Y := ⟨_, rfl⟩
              rw [hY] at c0 y1 y2 hv
              obtain ⟨y, rfl⟩ : ∃ y : Nat, Y = y := ⟨Y.toNat, by omega⟩
              rw [Int.toNat_natCast] at hv
              have t3 := hop_mod y G
              obtain ⟨K, hK⟩ : ∃ K, y % G = K := ⟨_, rfl⟩
              have hKG : K < G := by rw [← hK]; exact Nat.mod_lt _ hG0
              rw [hK] at t3 hv
              obtain ⟨q1, q2⟩ := rG.at K hKG
              obtain ⟨X, hX⟩ : ∃ X, gf K = X := ⟨_, rfl⟩
              rw [hX] at q1 hv
              have k0 : (0 : Int) ≤ (K : Int) := by omega
              have k1 : (K : Int) < (G : Int) := by omega
              have m1 := hset X hv
              have m2 := hS X
              have m3' := hGk X
              have m4 := hBk X
              clear hset hS hGk hBk hy hn' hv hX hK hY hq rO rS rG rb hcc hx
              go_wp2
              go_roundw
              case rel => exact ⟨i + 1, by omega, by go_num, m1.out, m2.out, m3'.out, m4.out⟩
              case measure => simp [intOf]; omega
            | false =>
              rw [hq] at hlk
              have hv := hn' hq
              obtain ⟨Y, hY⟩ : ∃ Y, z i = Y := ⟨_, rfl⟩
              rw [hY] at c0 hv
              have m1 := hset Y hv
              have m2 := hS Y
              have m3' := hGk Y
              have m4 := hBk Y
              clear hset hS hGk hBk hy hn' hv hY hq rO rS rG rb hcc hx y1 y2
              go_wp2
              go_roundw
              case rel => exact ⟨i + 1, by omega, by go_num, m1.out, m2.out, m3'.out, m4.out⟩
              case measure => simp [intOf]; omega
          · obtain rfl : i = n := by omega
            have nO := Lib.hid (rO.congr (g := F) (fun k hk => by rw [if_pos hk]))
            clear rO
            go_wp2
            go_ret2
            exact ⟨_, rfl, nO.out.mono hwR, rb⟩
      · rw [decide_eq_false hG0] at hB
        rw [hno hB, hB]
        obtain ⟨G, hG⟩ : ∃ G, gN m j c = G := ⟨_, rfl⟩
        rw [hG] at HGD hG0
        obtain rfl : G = 0 := by omega
        clear h1 h2 hno hH hJ hB h hu hG hG0 hgl
        go_enter Try.func23, Try.ntmps23
        go_wp2_with fail
        refine (H1.out _ HR.out).mono ?_
        rintro e w' ⟨rfl, rfl⟩
        go_wp2_with fail
        refine (H2.out _ HU.out).mono ?_
        rintro e w' ⟨rfl, rfl⟩
        clear H1 H2
        go_wp2_with fail
        refine (HGD.out _ HU.out).mono ?_
        rintro e w1 ⟨vg, rfl, OG, b1⟩
        obtain ⟨ag, capg, rfl, -⟩ := OG.form
        go_wp2
        go_ret2
        exact ⟨_, rfl, OF.nil _ _ _, b1⟩
set_option maxHeartbeats 3200000 in
theorem sRemap_any (v : Value) (n : Nat) (z : Nat → Int) (C : Int) (u : Value) (m : Nat) (j : Nat → Int) (w : World) (h : IntsR w v n z) (hn : n ≤ 1048576) (hu : IntsR w u m j) (hm : m ≤ 1048576) :
    Calls Try.prog 24 #[v, .int .i64 C, u] w fun e w' => ∃ x, e = .returned (.tuple #[x, .bool (rmB n z C m j)]) ∧ OF w' w.heap.size x (rmN n z C m j) (rmF z C m j) ∧ Below w.heap.size w w' := by
  have h1 := fun w h => sHops_any v n z C w h hn
  have h2 := fun w h => sJam_any u m j w h hm
  have hch := fun w => sCh_any C w
  have HU := Lib.hid hu
  have HR := Lib.hid h
  have hno := @rm_no n z C m j
  have hB : rmB n z C m j = (hopB n z C && (jamB m j && decide (0 < gN m j C.toNat))) := rfl
  have s1 : (w.alloc (.cells #[] 3)).heap.size = w.heap.size + 1 := World.size_alloc _ _
  have O0 := (OF.empty0 w (rmF z C m j)).alloc (.cells #[] 3)
  have G0 := (OF.empty0 (w.alloc (.cells #[] 3)) (gF m j 0))
  have B0 := ((Below.refl w.heap.size w).alloc (Nat.le_refl _) (.cells #[] 3)).alloc (by omega) (.cells #[] 3)
  rw [s1] at G0
  cases hC : chB C with
  | false =>
    have hH : hopB n z C = false := by unfold hopB; rw [hC]; rfl
    rw [hH, Bool.false_and] at hB
    rw [hno hB, hB]
    rw [hH] at h1
    have H1 := Lib.hid h1
    rw [hC] at hch
    have HCH := Lib.hid hch
    obtain ⟨W, hW⟩ : ∃ W, (w.alloc (.cells #[] 3)).alloc (.cells #[] 3) = W := ⟨_, rfl⟩
    rw [hW] at O0 B0
    have HW := Lib.hid hW
    clear h1 h2 hch hno hB hH h hu hC hW G0 s1
    by_cases hp : 0 < C
    · go_enter Try.func24, Try.ntmps24
      go_wp2
      rw [HW.out]
      go_loop [10] (fun t => t = .int .i64 0) (fun _ => 0)
      case atStart => rfl
      case round =>
        obtain rfl := hrel
        go_wp2_with fail
        refine (HCH.out _).mono ?_
        rintro e w' ⟨rfl, rfl⟩
        go_wp2_with fail
        refine (H1.out _ (HR.out.below B0)).mono ?_
        rintro e w' ⟨rfl, rfl⟩
        go_wp2
        go_ret2
        exact ⟨_, rfl, O0, B0⟩
    · go_enter Try.func24, Try.ntmps24
      go_wp2
      rw [HW.out]
      go_loop [10] (fun t => t = .int .i64 0) (fun _ => 0)
      case atStart => rfl
      case round =>
        obtain rfl := hrel
        go_wp2_with fail
        refine (H1.out _ (HR.out.below B0)).mono ?_
        rintro e w' ⟨rfl, rfl⟩
        go_wp2
        go_ret2
        exact ⟨_, rfl, O0, B0⟩
  | true =>
    obtain ⟨c1, c2⟩ := (chB_iff C).1 hC
    obtain ⟨c, rfl⟩ : ∃ c : Nat, C = c := ⟨C.toNat, by omega⟩
    rw [hC] at hch
    have HCH := Lib.hid hch
    have HH := Lib.hid (fun y w h => sHas_any u m j y w h hm)
    have HGB := Lib.hid (fun c h => gN_bad (m := m) (j := j) (c := c) h)
    have HGG := Lib.hid (fun c h => gN_good (m := m) (j := j) (c := c) h)
    have HGL := Lib.hid (fun c => gN_le m j c)
    have H1 := Lib.hid h1
    have H2 := Lib.hid h2
    have HB := Lib.hid hB
    have HNO := Lib.hid (@hno)
    have HYES : Hid (rmB n z c m j = true → rmN n z c m j = n) := Lib.hid (fun h => by unfold rmN; rw [h]; rfl)
    have HFY := Lib.hid (fun i (h : isJ m j (z i) = true) => (rmF_bad (C := (c : Int)) h).trans (by rw [Int.toNat_natCast]))
    have HFN := Lib.hid (fun i (h : isJ m j (z i) = false) => rmF_good (C := (c : Int)) h)
    obtain ⟨a, cap, rfl, hc⟩ := h
    have HC := Lib.hid hc
    obtain ⟨W, hW⟩ : ∃ W, (w.alloc (.cells #[] 3)).alloc (.cells #[] 3) = W := ⟨_, rfl⟩
    rw [hW] at O0 B0 G0
    have HW := Lib.hid hW
    have hcn : c ≤ 16 := by omega
    obtain ⟨F, hF⟩ : ∃ F, rmF z c m j = F := ⟨_, rfl⟩
    rw [hF] at HFY HFN O0 ⊢
    clear h1 h2 hch hno hB hu hc hC hW s1 c1 c2 hF
    go_enter Try.func24, Try.ntmps24
    go_wp2
    have q1 : (w.alloc (.cells #[] 3)).heap.size = w.heap.size + 1 := World.size_alloc _ _
    rw [HW.out]
    try rw [q1]
    clear q1
    go_loopw [9, 10] (fun o t wr => ∃ k : Nat, k ≤ c ∧ t = .int .i64 k ∧ OF wr (w.heap.size + 1) o (gN m j k) (gF m j k) ∧ OF wr w.heap.size (.slice (some ⟨w.heap.size, 0, none⟩) 0 0) 0 F ∧ Below w.heap.size w wr) (fun _ t _ => c - (intOf t).toNat)
    case atStart => exact ⟨0, Nat.zero_le _, rfl, G0, O0, B0⟩
    case round =>
      obtain ⟨k, hk, rfl, rG, rO, rb⟩ := hrel
      clear G0 O0 B0
      by_cases hlt : k < c
      · have k1 : (k : Int) < (c : Int) := by omega
        have hs := HH.out (k : Int) wr (HU.out.below rb)
        cases hq : isJ m j (k : Int) with
        | true =>
          obtain ⟨e1, e2⟩ := HGB.out k hq
          rw [hq] at hs
          have HS := Lib.hid hs
          rw [← e1, ← e2] at rG
          clear hs hq e1 e2
          go_wp2_with fail
          refine (HCH.out _).mono ?_
          rintro e w' ⟨rfl, rfl⟩
          go_wp2_with fail
          refine HS.out.mono ?_
          rintro e w' ⟨rfl, rfl⟩
          go_wp2
          go_roundw
          case rel => exact ⟨k + 1, by omega, by go_num, rG, rO, rb⟩
          case measure => simp [intOf]; omega
        | false =>
          obtain ⟨e1, e2⟩ := HGG.out k hq
          rw [hq] at hs
          have HS := Lib.hid hs
          have hl := HGL.out k
          have HE : Hid (∀ (w : World) (B : Nat) (v : Value), OF w B v (gN m j k + 1) (fun i => if i < gN m j k then gF m j k i else (k : Int)) → OF w B v (gN m j (k + 1)) (gF m j (k + 1))) := Lib.hid (fun w B v h => by rw [e1, e2]; exact h)
          obtain ⟨G, hG⟩ : ∃ G, gN m j k = G := ⟨_, rfl⟩
          rw [hG] at rG HE hl
          have bs := rb.size
          have ol := (rO.lt w.heap.size rfl).2
          clear hs hq e1 e2 hG
          go_wp2_with fail
          refine (HCH.out _).mono ?_
          rintro e w' ⟨rfl, rfl⟩
          go_wp2_with fail
          refine HS.out.mono ?_
          rintro e w' ⟨rfl, rfl⟩
          go_wp2_with (at_builtin; refine wpList_append_int rfl (.tmp 28) (.tmp 30) rfl (w.heap.size + 1) _ G (gF m j k) rfl (rG.alloc _) wr.heap.size 1 (k : Int) rfl (by simp) (by omega) (by simp; omega) ?_; intro v' w3 O3 g3; have c3 : Below w.heap.size w w3 := (rb.alloc bs _).grown g3 (by simp; omega) (fun q hq => by have := (rG.lt q hq).1; omega); have O4 := HE.out _ _ _ O3; have O5 : OF w3 w.heap.size (.slice (some ⟨w.heap.size, 0, none⟩) 0 0) 0 F := (rO.alloc _).kept g3 (.inr (fun e => by have := (rG.lt w.heap.size e.symm).1; omega)); clear rG g3 rb O3 rO)
          go_roundw
          case rel => exact ⟨k + 1, by omega, by go_num, O4, O5, c3⟩
          case measure => simp [intOf]; omega
      · obtain rfl : k = c := by omega
        have h1 := H1.out wr (HR.out.below rb)
        have h2 := H2.out wr (HU.out.below rb)
        have hB := HB.out
        rw [Int.toNat_natCast] at hB
        cases hH : hopB n z (k : Int) with
        | false =>
          rw [hH, Bool.false_and] at hB
          have HE1 := Lib.hid hB
          have HE2 := Lib.hid (HNO.out hB)
          rw [hH] at h1
          have HH1 := Lib.hid h1
          clear h1 h2 hB hH
          go_wp2_with fail
          refine HH1.out.mono ?_
          rintro e w' ⟨rfl, rfl⟩
          go_wp2
          go_ret2
          exact ⟨_, ret_tb HE1.out.symm, by rw [HE2.out]; exact rO, rb⟩
        | true =>
          rw [hH] at h1
          have HH1 := Lib.hid h1
          cases hJ : jamB m j with
          | false =>
            rw [hH, hJ, Bool.false_and, Bool.and_false] at hB
            have HE1 := Lib.hid hB
            have HE2 := Lib.hid (HNO.out hB)
            rw [hJ] at h2
            have HH2 := Lib.hid h2
            clear h1 h2 hB hH hJ
            go_wp2_with fail
            refine HH1.out.mono ?_
            rintro e w' ⟨rfl, rfl⟩
            go_wp2_with fail
            refine HH2.out.mono ?_
            rintro e w' ⟨rfl, rfl⟩
            go_wp2
            go_ret2
            exact ⟨_, ret_tb HE1.out.symm, by rw [HE2.out]; exact rO, rb⟩
          | true =>
            rw [hJ] at h2
            have HH2 := Lib.hid h2
            rw [hH, hJ, Bool.true_and, Bool.true_and] at hB
            obtain ⟨-, n3, hz⟩ := (hopB_iff n z k).1 hH
            have HZ := Lib.hid hz
            have hgl := HGL.out k
            by_cases hG0 : 0 < gN m j k
            · rw [decide_eq_true hG0] at hB
              have HE1 := Lib.hid hB
              have HE2 := Lib.hid (HYES.out hB)
              obtain ⟨G, hG⟩ : ∃ G, gN m j k = G := ⟨_, rfl⟩
              rw [hG] at rG hG0 hgl
              have HFY2 : Hid (∀ i, isJ m j (z i) = true → F i = gF m j k ((z i).toNat % G)) := Lib.hid (fun i h => by rw [HFY.out i h, hG])
              obtain ⟨gf, hgf⟩ : ∃ gf, gF m j k = gf := ⟨_, rfl⟩
              rw [hgf] at rG HFY2
              obtain ⟨ag, capg, rfl, hfg⟩ := rG.form
              obtain ⟨g, rfl, g1, g2, -⟩ := hfg hG0
              have l0 : ¬ ((G : Int) = 0) := by omega
              have l1 : ((G : Int) == 0) = false := by simp; omega
              have AP : Hid (w.heap.size ≠ g) := Lib.hid (by omega)
              have RG := Lib.hid rG
              have RO := Lib.hid rO
              have RB := Lib.hid rb
              clear h1 h2 hB hH hJ hz hG hgf hfg g1 g2 rG rO rb HFY
              go_wp2_with fail
              refine HH1.out.mono ?_
              rintro e w' ⟨rfl, rfl⟩
              go_wp2_with fail
              refine HH2.out.mono ?_
              rintro e w' ⟨rfl, rfl⟩
              go_wp2
              go_loopw [8, 11] (fun o t wr => ∃ i : Nat, i ≤ n ∧ t = .int .i64 i ∧ OF wr w.heap.size o i F ∧ OF wr (w.heap.size + 1) (.slice (some ⟨g, 0, none⟩) G capg) G gf ∧ (∀ q, o.ownBlock = some q → q ≠ g) ∧ Below w.heap.size w wr) (fun _ t _ => n - (intOf t).toNat)
              case atStart => exact ⟨0, Nat.zero_le _, rfl, RO.out, RG.out, fun q hq => by cases hq; exact AP.out, RB.out⟩
              case round =>
                obtain ⟨i, hi, rfl, rO, rG, rA, rb⟩ := hrel
                clear RO RG RB AP
                by_cases hil : i < n
                · obtain ⟨x, rfl, hx, hcc⟩ := HC.out i hil
                  have c0 := (rb.cell (p := x.add i) (by rw [add_block]; exact hx)).trans hcc
                  have i0 : (0 : Int) ≤ (i : Int) := by omega
                  have i1 : (i : Int) < (n : Int) := by omega
                  obtain ⟨y1, y2⟩ := HZ.out i hil
                  have hs := HH.out (z i) wr (HU.out.below rb)
                  have bs := rb.size
                  have gl := (rG.lt g rfl).2
                  cases hq : isJ m j (z i) with
                  | true =>
                    have hv := HFY2.out i hq
                    rw [hq] at hs
                    obtain ⟨Y, hY⟩ : ∃ Y, z i = Y := ⟨_, rfl⟩
                    rw [hY] at c0 y1 y2 hv hs
                    obtain ⟨y, rfl⟩ : ∃ y : Nat, Y = y := ⟨Y.toNat, by omega⟩
                    rw [Int.toNat_natCast] at hv
                    have HS := Lib.hid hs
                    have t3 := hop_mod y G
                    obtain ⟨K, hK⟩ : ∃ K, y % G = K := ⟨_, rfl⟩
                    have hKG : K < G := by rw [← hK]; exact Nat.mod_lt _ hG0
                    rw [hK] at t3 hv
                    obtain ⟨q1, q2⟩ := rG.at K hKG
                    obtain ⟨X, hX⟩ : ∃ X, gf K = X := ⟨_, rfl⟩
                    rw [hX] at q1 hv
                    have HV := Lib.hid hv
                    have k0 : (0 : Int) ≤ (K : Int) := by omega
                    have k1 : (K : Int) < (G : Int) := by omega
                    clear hs hv hX hK hY hq hcc hx
                    go_wp2_with fail
                    refine HS.out.mono ?_
                    rintro e w' ⟨rfl, rfl⟩
                    go_wp2_with (at_builtin; refine wpList_append_int_at rfl (.tmp 67) (.tmp 69) rfl w.heap.size _ i F rfl (rO.alloc _) wr.heap.size 1 X rfl (by simp) (by omega) (by simp; omega) ?_; intro v' w3 O3 g3 d3; have c3 : Below w.heap.size w w3 := (rb.alloc bs _).grown g3 (by simp; omega) (fun q hq => (rO.lt q hq).1); have O4 := OF.snocH O3 HV.out.symm; have O5 := (rG.alloc (.cells #[.int .i64 X] 3)).kept g3 (.inr (fun e => rA g e.symm rfl)); have A5 : ∀ q, v'.ownBlock = some q → q ≠ g := fun q hq => (d3.elim (fun e => rA q (e ▸ hq)) (fun e => by rw [e] at hq; simp at hq; omega)); clear rG g3 rb O3 rO d3 rA)
                    go_roundw
                    case rel => exact ⟨i + 1, by omega, by go_num, O4, O5, A5, c3⟩
                    case measure => simp [intOf]; omega
                  | false =>
                    have hv := HFN.out i hq
                    rw [hq] at hs
                    obtain ⟨X, hX⟩ : ∃ X, z i = X := ⟨_, rfl⟩
                    rw [hX] at c0 hv hs
                    have HS := Lib.hid hs
                    have HV := Lib.hid hv
                    clear hs hv hX hq hcc hx y1 y2
                    go_wp2_with fail
                    refine HS.out.mono ?_
                    rintro e w' ⟨rfl, rfl⟩
                    go_wp2_with (at_builtin; refine wpList_append_int_at rfl (.tmp 67) (.tmp 69) rfl w.heap.size _ i F rfl (rO.alloc _) wr.heap.size 1 X rfl (by simp) (by omega) (by simp; omega) ?_; intro v' w3 O3 g3 d3; have c3 : Below w.heap.size w w3 := (rb.alloc bs _).grown g3 (by simp; omega) (fun q hq => (rO.lt q hq).1); have O4 := OF.snocH O3 HV.out.symm; have O5 := (rG.alloc (.cells #[.int .i64 X] 3)).kept g3 (.inr (fun e => rA g e.symm rfl)); have A5 : ∀ q, v'.ownBlock = some q → q ≠ g := fun q hq => (d3.elim (fun e => rA q (e ▸ hq)) (fun e => by rw [e] at hq; simp at hq; omega)); clear rG g3 rb O3 rO d3 rA)
                    go_roundw
                    case rel => exact ⟨i + 1, by omega, by go_num, O4, O5, A5, c3⟩
                    case measure => simp [intOf]; omega
                · obtain rfl : i = n := by omega
                  go_wp2
                  go_ret2
                  exact ⟨_, ret_tb HE1.out.symm, by rw [HE2.out]; exact rO, rb⟩
            · rw [decide_eq_false hG0] at hB
              have HE1 := Lib.hid hB
              have HE2 := Lib.hid (HNO.out hB)
              obtain ⟨G, hG⟩ : ∃ G, gN m j k = G := ⟨_, rfl⟩
              rw [hG] at rG hG0
              obtain rfl : G = 0 := by omega
              obtain ⟨ag, capg, rfl, -⟩ := rG.form
              clear h1 h2 hB hH hJ hz hG rG hG0
              go_wp2_with fail
              refine HH1.out.mono ?_
              rintro e w' ⟨rfl, rfl⟩
              go_wp2_with fail
              refine HH2.out.mono ?_
              rintro e w' ⟨rfl, rfl⟩
              go_wp2
              go_ret2
              exact ⟨_, ret_tb HE1.out.symm, by rw [HE2.out]; exact rO, rb⟩
end Go.Proofs.Ytbllmgdnhjdphac
