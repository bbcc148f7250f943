/- ScoreTable and BestOffset of both sides. -/
import Derived.Test.YtagdfohjhokgiaaPil7
import Derived.Test.YtagdfohjhokgiaaPilK
namespace Go.Proofs.Ytagdfohjhokgiaa
open Go.RowKit
set_option linter.unusedVariables false
set_option maxRecDepth 100000
theorem rdn_no {n : Nat} {f : Nat → Int} {c : ByteArray} {g : Int} (h : rdB n f c g = false) : ¬ (sigB n f = true ∧ pilB c g = true) := fun e => by rw [(rdB_iff _ _ _ _).2 e] at h; cases h
theorem st_no {n : Nat} {f : Nat → Int} {c : ByteArray} {g : Int} (h : rdB n f c g = false) : stN5 n f c g = 0 := by unfold stN5; unfold rdB at h; rw [h]; rfl
theorem st_yes {n : Nat} {f : Nat → Int} {c : ByteArray} {g : Int} (h : rdB n f c g = true) : stN5 n f c g = perL c g := by unfold stN5; unfold rdB at h; rw [h]; rfl
theorem stN5_le6 (n : Nat) (f : Nat → Int) (c : ByteArray) (g : Int) : stN5 n f c g ≤ 1000000 := by
  unfold stN5
  split
  · rename_i h
    rw [Bool.and_eq_true] at h
    obtain ⟨_, -, -, -, -, -, -, -, -, -, q9⟩ := pil_nat h.2
    omega
  · omega
theorem bo_no {n : Nat} {f : Nat → Int} {c : ByteArray} {g : Int} (h : rdB n f c g = false) : boAns n f c g = -1 := by unfold boAns; unfold rdB at h; rw [h]; rfl
theorem bo_yes {n : Nat} {f : Nat → Int} {c : ByteArray} {g : Int} (h : rdB n f c g = true) : boAns n f c g = (amx (stF n f c g) (perL c g) : Int) := by unfold boAns; unfold rdB at h; rw [h]; rfl
/-- The greatest of the first k numbers (0 of none). -/
def mxI (f : Nat → Int) (k : Nat) : Int := f (amx f k)
theorem mxI_one (f : Nat → Int) : mxI f 1 = f 0 := by
  have e : amx f 1 = 0 := by simp [amx]
  unfold mxI; rw [e]
theorem mxI_succ (f : Nat → Int) (k : Nat) : mxI f (k + 1) = max (mxI f k) (f k) := by
  unfold mxI
  rw [amx]
  by_cases h : f (amx f k) < f k
  · rw [if_pos h]; omega
  · rw [if_neg h]; omega
set_option maxHeartbeats 3200000 in
theorem sTable_any (v : Value) (n : Nat) (f : Nat → Int) (c : ByteArray) (g : Int) (w : World) (h : IntsR w v n f) (hn : n ≤ 1048576) (hc : c.size ≤ 1048576) :
    Calls Try.prog 31 #[v, .agg #[.string c, .int .i64 g]] w fun e w' => ∃ u, e = .returned u ∧ OF w' w.heap.size u (stN5 n f c g) (stF n f c g) ∧ Below w.heap.size w w' := by
  have HI := Lib.hid h
  have hR := fun w h => ready_any v n f c g w h hn hc
  have b0 := (Below.refl w.heap.size w).alloc (Nat.le_refl _) (.cells #[.string c, .int .i64 g] 24)
  have u0 := PilAt.new w 24 c g
  obtain ⟨W, hW⟩ : ∃ W, w.alloc (.cells #[.string c, .int .i64 g] 24) = W := ⟨_, rfl⟩
  have c0 := b0.alloc b0.size (.cells #[] 3)
  have hO := OF.empty0 (w.alloc (.cells #[.string c, .int .i64 g] 24)) (stF n f c g)
  have k0 : Below (w.alloc (.cells #[.string c, .int .i64 g] 24)).heap.size (w.alloc (.cells #[.string c, .int .i64 g] 24)) ((w.alloc (.cells #[.string c, .int .i64 g] 24)).alloc (.cells #[] 3)) := (Below.refl _ _).alloc (Nat.le_refl _) _
  have u1 := u0.below k0 (by simp)
  rw [hW] at c0 hO k0 u1
  have hWs : w.heap.size < W.heap.size := by rw [← hW]; simp
  have HWS := Lib.hid (show W.heap.size = w.heap.size + 1 by rw [← hW]; simp)
  have HW := Lib.hid hW
  have HK := Lib.hid k0
  have BB := Lib.hid c0
  have HO := Lib.hid hO
  have HB0 : Hid (Below w.heap.size w W) := Lib.hid (by rw [← hW]; exact b0)
  cases hd : rdB n f c g with
  | false =>
    rw [hd] at hR
    have HR := Lib.hid hR
    rw [st_no hd]
    clear hR hd k0 c0 hO u0 b0 hW
    obtain ⟨a, cap, rfl, -⟩ := h
    go_enter Try.func31, Try.ntmps31
    go_wp2_with fail
    rw [HW.out]
    obtain ⟨V, hV⟩ : ∃ V, W.alloc (.cells #[] 3) = V := ⟨_, rfl⟩
    rw [hV] at u1 BB HO HK ⊢
    have HV := Lib.hid hV
    have HOQ : Hid (OF V W.heap.size (.slice (some ⟨w.heap.size + 1, 0, none⟩) 0 0) 0 (stF n f c g)) := Lib.hid (by rw [← HWS.out]; exact HO.out)
    clear hV HO
    go_loopw [5, 6] (fun x i wr => i = .int .i64 (0 : Nat) ∧ x = .slice (some ⟨w.heap.size + 1, 0, none⟩) 0 0 ∧ wr = V) (fun _ i _ => (intOf i).toNat)
    case atStart => exact ⟨rfl, rfl, rfl⟩
    case round =>
      obtain ⟨rfl, rfl, rfl⟩ := hrel
      obtain ⟨x0, x1, x2⟩ := id u1
      go_wp2_with fail
      clear x0 x1 x2
      refine (HR.out _ (HI.out.below BB.out)).mono ?_
      rintro e w2 ⟨rfl, n2⟩
      have b2 := below_then BB.out (Nat.le_refl _) n2
      have O2 := Lib.hid ((HOQ.out.below n2).mono (Nat.le_of_lt hWs))
      clear n2 u1 HOQ
      go_wp2
      go_ret
      exact ⟨_, rfl, O2.out, b2⟩
  | true =>
    rw [hd] at hR
    have HR := Lib.hid hR
    obtain ⟨hs, hp⟩ := (rdB_iff _ _ _ _).1 hd
    obtain ⟨hA, h3⟩ := (sigB_iff n f).1 hs
    rw [st_yes hd]
    have hL := fun w => l5Length_yes c g w hp
    have p9 : perL c g ≤ 2040 := by obtain ⟨_, -, -, -, -, -, -, -, -, -, q9⟩ := pil_nat hp; exact q9
    have hS := fun k w h h0 h1 => l5Score_zero v n f c g k w h hA h3 hp h0 h1
    have HF : Hid (∀ k, stF n f c g k = scr n f c g.toNat (perL c g) (k : Int)) := Lib.hid (fun k => rfl)
    have HO' := Lib.hid (HO.out)
    obtain ⟨P, hP⟩ : ∃ P, perL c g = P := ⟨_, rfl⟩
    rw [hP] at hL hS p9 HF ⊢
    have HL := Lib.hid hL
    have HS := Lib.hid hS
    clear hR hd k0 c0 hO u0 b0 hW hs hp hA h3 hL hS hP HO
    obtain ⟨a, cap, rfl, -⟩ := h
    go_enter Try.func31, Try.ntmps31
    go_wp2_with fail
    rw [HW.out]
    obtain ⟨V, hV⟩ : ∃ V, W.alloc (.cells #[] 3) = V := ⟨_, rfl⟩
    rw [hV] at u1 BB HO' HK ⊢
    clear hV
    go_loopw [5, 6] (fun x i wr => ∃ k : Nat, k ≤ P ∧ i = .int .i64 (k : Int) ∧ OF wr W.heap.size x k (stF n f c g) ∧ Below W.heap.size W wr) (fun _ i _ => P - (intOf i).toNat)
    case atStart => exact ⟨0, by omega, rfl, by rw [← HWS.out]; exact HO'.out, HK.out⟩
    case round =>
      obtain ⟨k, hk, rfl, rO, rb⟩ := hrel
      have uw : PilAt W w.heap.size c g := by rw [← HW.out]; exact PilAt.new w _ c g
      have uj := uw.below rb uw.2.2
      have rbw := Lib.hid (below_then HB0.out (Nat.le_refl _) rb)
      have RB := Lib.hid rb
      clear uw u1 rb
      obtain ⟨x0, x1, x2⟩ := id uj
      go_wp2_with fail
      clear x0 x1 x2
      refine (HR.out _ (HI.out.below rbw.out)).mono ?_
      rintro e w2 ⟨rfl, n2⟩
      have b2 := Lib.hid (below_then rbw.out (Nat.le_refl _) n2)
      have r2 := Lib.hid (below_then RB.out (Nat.le_refl _) n2)
      have O2 := rO.below n2
      have u2 := uj.below n2 uj.2.2
      clear n2 rO uj
      obtain ⟨x0, x1, x2⟩ := id u2
      go_wp2_with fail
      clear x0 x1 x2
      refine (HL.out _).mono ?_
      rintro e w3 ⟨rfl, n3⟩
      have b3 := Lib.hid (below_then b2.out (Nat.le_refl _) n3)
      have r3 := Lib.hid (below_then r2.out (Nat.le_refl _) n3)
      have O3 := O2.below n3
      have u3 := u2.below n3 u2.2.2
      clear n3 O2 u2
      by_cases hlt : k < P
      · have i1 : (k : Int) < (P : Int) := by omega
        have hf := HF.out k
        have hS := fun w h => HS.out (k : Int) w h (by omega) (by omega)
        rw [← hf] at hS
        have HSS := Lib.hid hS
        clear hf hS
        obtain ⟨x0, x1, x2⟩ := id u3
        go_wp2_with fail
        clear x0 x1 x2
        refine (HSS.out _ (HI.out.below b3.out)).mono ?_
        rintro e w4 ⟨rfl, n4⟩
        have r4 := below_then r3.out (Nat.le_refl _) n4
        have O4 := O3.below n4
        clear n4 O3 u3
        obtain ⟨y, hy⟩ : ∃ y, stF n f c g k = y := ⟨_, rfl⟩
        rw [hy]
        have HY := Lib.hid hy
        clear hy
        go_wp2_with (at_builtin; refine wpList_append_int rfl (.tmp 19) (.tmp 24) rfl W.heap.size _ k (stF n f c g) rfl (O4.alloc _) w4.heap.size 1 y rfl (by simp) (by omega) (by have := r4.size; simp; omega) ?_; intro v' w5 O5 g5)
        have O6 := Lib.hid (show OF w5 W.heap.size v' (k + 1) (stF n f c g) from O5.congr (fun j hj => by
          by_cases e : j < k
          · rw [if_pos e]
          · rw [if_neg e, ← HY.out]; congr 1; omega))
        have r5 : Below W.heap.size W w5 := (r4.alloc r4.size _).grown g5 (by have := r4.size; simp; omega) (fun q hq => (O4.lt q hq).1)
        clear O5 O4 g5 r4
        go_wp2
        go_roundw
        case rel => exact ⟨k + 1, by omega, by go_num, O6.out, r5⟩
        case measure => simp [intOf]; omega
      · obtain rfl : k = P := by omega
        have O4 := Lib.hid (O3.mono (Nat.le_of_lt hWs))
        clear O3 u3
        go_wp2
        go_ret
        exact ⟨_, rfl, O4.out, b3.out⟩
set_option maxHeartbeats 1600000 in
theorem iTable_any (v : Value) (n : Nat) (f : Nat → Int) (c : ByteArray) (g : Int) (w : World) (h : IntsC w v n f) (hn : n ≤ 1048576) (hc : c.size ≤ 1048576) :
    Calls Try.prog 28 #[v, .agg #[.string c, .int .i64 g]] w fun e w' => ∃ u, e = .returned u ∧ OF w' w.heap.size u (stN5 n f c g) (stF n f c g) ∧ Below w.heap.size w w' := by
  have HI := Lib.hid h
  cases hd : rdB n f c g with
  | false =>
    have HA := Lib.hid (fun w h => iNew_no v n f c g w h hn hc (rdn_no hd))
    rw [st_no hd]
    clear hd
    obtain ⟨a, cap, rfl, -⟩ := h
    have b0 := (Below.refl w.heap.size w).alloc (Nat.le_refl _) (.cells #[.string c, .int .i64 g] 24)
    have u0 := PilAt.new w 24 c g
    go_enter Try.func28, Try.ntmps28
    go_wp2_with fail
    refine (HA.out _ (HI.out.below b0)).mono ?_
    rintro e w1 ⟨rfl, n1⟩
    have b1 := below_then b0 (Nat.le_refl _) n1
    clear n1 b0 u0
    go_wp2
    go_ret
    exact ⟨_, rfl, OF.nil _ _ _, b1⟩
  | true =>
    obtain ⟨hs, hp⟩ := (rdB_iff _ _ _ _).1 hd
    have HA := Lib.hid (fun w h => iNew_yes v n f c g w h hs hp)
    rw [st_yes hd]
    have p9 : perL c g ≤ 2040 := by obtain ⟨_, -, -, -, -, -, -, -, -, -, q9⟩ := pil_nat hp; exact q9
    have HF : Hid (∀ k, stF n f c g k = scr n f c g.toNat (perL c g) (k : Int)) := Lib.hid (fun k => rfl)
    obtain ⟨P, hP⟩ : ∃ P, perL c g = P := ⟨_, rfl⟩
    rw [hP] at HA p9 HF ⊢
    obtain ⟨G, hG⟩ : ∃ G, g.toNat = G := ⟨_, rfl⟩
    rw [hG] at HA HF
    have HS := Lib.hid (fun bs vt k w h h0 h1 => iScore_any bs v n f vt c G P k w h h0 h1)
    have hmk := make_ints P (by omega)
    clear hd hs hp hP hG
    obtain ⟨a, cap, rfl, -⟩ := h
    have b0 := (Below.refl w.heap.size w).alloc (Nat.le_refl _) (.cells #[.string c, .int .i64 g] 24)
    have u0 := PilAt.new w 24 c g
    go_enter Try.func28, Try.ntmps28
    go_wp2_with fail
    refine (HA.out _ (HI.out.below b0)).mono ?_
    rintro e w1 ⟨bs, vt, rfl, HR, hb, n1⟩
    have b1 := below_then b0 (Nat.le_refl _) n1
    clear n1 b0 u0
    obtain ⟨-, d1, -, -, hbs⟩ := HR.1
    have HR0 := Lib.hid HR
    have BB := Lib.hid b1
    clear HR b1 hb
    obtain ⟨W, hW⟩ : ∃ W, w1 = W := ⟨_, rfl⟩
    rw [hW] at d1 hbs HR0 BB ⊢
    clear hW
    have k0 : Below W.heap.size W (W.alloc (.cells (madeCells #[.int .i64 0] P) 3)) := (Below.refl _ _).alloc (Nat.le_refl _) _
    have HO0 := Lib.hid ((OF.made W P (by omega)).congr (g := fun j => if j < 0 then stF n f c g j else 0) (fun j _ => by simp))
    have HK0 := Lib.hid k0
    clear k0
    go_wp2
    clear d1
    go_loopw [24] (fun t wr => ∃ i : Nat, i ≤ P ∧ t = .int .i64 i ∧ OF wr W.heap.size (.slice (some ⟨W.heap.size, 0, none⟩) P P) P (fun j => if j < i then stF n f c g j else 0) ∧ Below W.heap.size W wr) (fun t _ => P - (intOf t).toNat)
    case atStart => exact ⟨0, by omega, rfl, HO0.out, HK0.out⟩
    case round =>
      obtain ⟨i, hi, rfl, rO, rb⟩ := hrel
      clear hmk
      by_cases hlt : i < P
      · have i0 : (0 : Int) ≤ (i : Int) := by omega
        have i1 : (i : Int) < (P : Int) := by omega
        have hf := HF.out i
        have hS := fun vt w h => HS.out bs vt (i : Int) w h (by omega) (by omega)
        rw [← hf] at hS
        have HSS := Lib.hid hS
        have HRR := Lib.hid (HR0.out.below rb)
        clear hf hS
        go_wp2_with fail
        refine (HSS.out _ _ HRR.out).mono ?_
        rintro e w' ⟨rfl, m, rfl⟩
        have r1 := below_drewN rb m
        have O1 := rO.drewN m
        clear rb rO HRR
        obtain ⟨y, hy⟩ : ∃ y, stF n f c g i = y := ⟨_, rfl⟩
        rw [hy]
        obtain ⟨V, hV⟩ : ∃ V, wr.drewN m = V := ⟨_, rfl⟩
        rw [hV] at r1 O1 ⊢
        clear hV
        obtain ⟨s1, s2⟩ := O1.at i hlt
        have nO : Hid (OF (V.setCell ⟨W.heap.size, i, none⟩ (.int .i64 y)) W.heap.size (.slice (some ⟨W.heap.size, 0, none⟩) P P) P (fun j => if j < i + 1 then stF n f c g j else 0)) :=
          Lib.hid (O1.set i y hlt (fun j hj => by
            by_cases e : j = i
            · subst e; rw [if_pos (by omega), if_pos rfl]; exact hy
            · rw [if_neg e]
              by_cases e' : j < i
              · rw [if_pos (by omega), if_pos e']
              · rw [if_neg (by omega), if_neg e']))
        have nb : Hid (Below W.heap.size W (V.setCell ⟨W.heap.size, i, none⟩ (.int .i64 y))) := Lib.hid (bytes_below r1 (Nat.le_refl _) _ _)
        clear O1 r1 hy
        go_wp2
        go_roundw
        case rel => exact ⟨i + 1, by omega, by go_num, nO.out, nb.out⟩
        case measure => simp [intOf]; omega
      · obtain rfl : i = P := by omega
        have nO := rO.congr (g := stF n f c g) (fun j hj => by rw [if_pos hj])
        have b3 := below_then BB.out (Nat.le_refl _) rb
        have HO := Lib.hid (nO.mono BB.out.size)
        clear rO nO
        go_wp2
        go_ret
        exact ⟨_, rfl, HO.out, b3⟩
end Go.Proofs.Ytagdfohjhokgiaa
