/- AllFrames of the program, and the walk of its exact law. -/
import Derived.Test.YtdafepfjjmdkeaaDoorAllS
import Derived.Test.YtdafepfjjmdkeaaDoorScan
namespace Go.Proofs.YtdafepfjjmdkeaaDoor
open Go.RowKit
set_option linter.unusedVariables false
set_option maxRecDepth 100000
theorem SF.underA {w w' : World} {B C : Nat} {v : Value} {n : Nat} {f : Nat → ByteArray} (h : SF w B v n f) (hC : ∀ k, v.ownBlock = some k → k < C) (hb : Below C w w') : SF w' B v n f := by
  obtain ⟨h1, ⟨rfl, rfl⟩ | ⟨g, cap, cur, rfl, hB, hg, hn, hm, hs, ht⟩⟩ := h
  · exact ⟨h1, .inl ⟨rfl, rfl⟩⟩
  · exact ⟨h1, .inr ⟨g, cap, cur, rfl, hB, (hb.block g (hC g rfl)).trans hg, hn, hm, hs, ht⟩⟩
/-- A frame's box, written. -/
theorem FrmAt.put {w : World} {b : Nat} {p : ByteArray} {x e : Int} (h : FrmAt w b p x e) (P : ByteArray) (X E : Int) : FrmAt (((w.setCell ⟨b, 0, none⟩ (.string P)).setCell ⟨b, 1, none⟩ (.int .i64 X)).setCell ⟨b, 2, none⟩ (.int .i64 E)) b P X E := by
  obtain ⟨⟨h0, h1, h2⟩, hl, f0, f1, f2⟩ := h
  have n01 : (⟨b, 0, none⟩ : Addr) ≠ ⟨b, 1, none⟩ := fun e => by injection e with _ e; cases e
  have n02 : (⟨b, 0, none⟩ : Addr) ≠ ⟨b, 2, none⟩ := fun e => by injection e with _ e; cases e
  have n12 : (⟨b, 1, none⟩ : Addr) ≠ ⟨b, 2, none⟩ := fun e => by injection e with _ e; cases e
  refine ⟨⟨?_, ?_, ?_⟩, by simpa using hl, ?_, ?_, ?_⟩
  · rw [World.cell?_setCell_other _ _ _ _ n02.symm, World.cell?_setCell_other _ _ _ _ n01.symm]; exact World.cell?_setCell_same _ _ _ h0
  · rw [World.cell?_setCell_other _ _ _ _ n12.symm]
    exact World.cell?_setCell_same _ _ _ ((World.cell?_setCell_other _ _ _ _ n01).trans h1)
  · exact World.cell?_setCell_same _ _ _ ((World.cell?_setCell_other _ _ _ _ n12).trans ((World.cell?_setCell_other _ _ _ _ n02).trans h2))
  · rw [World.frozen?_setCell, World.frozen?_setCell, World.frozen?_setCell]; exact f0
  · rw [World.frozen?_setCell, World.frozen?_setCell, World.frozen?_setCell]; exact f1
  · rw [World.frozen?_setCell, World.frozen?_setCell, World.frozen?_setCell]; exact f2
theorem grown_set (w : World) (b i : Nat) (v : Value) : w.grownBy (w.setCell ⟨b, i, none⟩ v) (some b) :=
  ⟨rfl, rfl, rfl, by simp [World.setCell], fun k _ hk => Below.heap_setCell _ _ _ _ (fun e => hk (by simp [e]))⟩
theorem grown_put (w : World) (b : Nat) (x y u : Value) : w.grownBy (((w.setCell ⟨b, 0, none⟩ x).setCell ⟨b, 1, none⟩ y).setCell ⟨b, 2, none⟩ u) (some b) :=
  World.grownBy.trans (World.grownBy.trans (grown_set w b 0 x) (grown_set _ b 1 y)) (grown_set _ b 2 u)
set_option maxHeartbeats 1600000 in
theorem iAll_any (z : ByteArray) (N : Nat) (w : World) (hs : z.size ≤ 1048576) (hN : AllN z N) (hd : DoorAt w) :
    Calls Tryd.prog 13 #[.string z] w fun e w' => ∃ v, e = .returned v ∧ SF w' w.heap.size v N (alF z) ∧ Below w.heap.size w w' := by
  have HV := Lib.hid (fun w => bitsValid_any z w (by omega))
  cases hb : bitsB z with
  | false =>
    obtain rfl := hN.2 hb
    rw [hb] at HV
    clear hb hN
    go_enter Tryd.func13, Tryd.ntmps13
    go_wp2_with fail
    refine (HV.out _).mono ?_
    rintro e w1 ⟨rfl, rfl⟩
    go_wp2
    go_ret
    exact ⟨_, rfl, SF.nil _ _ _, Below.refl _ _⟩
  | true =>
    rw [hb] at HV
    have hA := hN.1 hb
    have hN6 : N ≤ 600 := by have := hA.1; have := (bits_of2 hb).2; omega
    have HC := Lib.hid (fun i (hi : i ≤ N) w hd => scan_any z (atF z i) w hb (atF_le i (fun j hj => hA.2.1 j (by omega))).2 hd)
    have HY := Lib.hid (fun i (hi : i < N) => hA.2.1 i hi)
    have HL := Lib.hid hA.2.2
    have H6 := Lib.hid (fun i (hi : i ≤ N) => show atF z i ≤ 600 by have := (atF_le i (fun j hj => hA.2.1 j (by omega))).2; have := (bits_of2 hb).2; omega)
    -- what a scan answers, as a frame and a Boolean
    have HQ : Hid (∀ i, i ≤ N → ∃ (P : ByteArray) (x e : Nat) (b : Bool), b = decide (i < N) ∧ (i < N → P = alF z i ∧ e = atF z (i + 1)) ∧ ∀ w, DoorAt w → Calls Tryd.prog 31 #[.string z, .int .i64 (atF z i : Nat)] w fun ev w' => ev = .returned (.tuple #[.agg #[.string P, .int .i64 (x : Nat), .int .i64 (e : Nat)], .bool b]) ∧ Below w.heap.size w w') := Lib.hid (fun i hi => by
      by_cases hlt : i < N
      · refine ⟨alF z i, nx z (atF z i), atF z (i + 1), true, by rw [decide_eq_true hlt], fun _ => ⟨rfl, rfl⟩, fun w hd => (HC.out i hi w hd).mono fun ev w' h => ⟨h.1 (HY.out i hlt), h.2.2⟩⟩
      · obtain rfl : i = N := by omega
        exact ⟨⟨#[]⟩, 0, 0, false, by rw [decide_eq_false hlt], fun h => absurd h hlt, fun w hd => (HC.out i hi w hd).mono fun ev w' h => ⟨h.2.1 HL.out, h.2.2⟩⟩)
    clear HC HY HL hb hN hA
    obtain ⟨P0, x0, e0, c0, hc0, hp0, hS0⟩ := HQ.out 0 (Nat.zero_le _)
    have HS0 := Lib.hid (show ∀ w, DoorAt w → Calls Tryd.prog 31 #[.string z, .int .i64 0] w fun ev w' => ev = .returned (.tuple #[.agg #[.string P0, .int .i64 (x0 : Nat), .int .i64 (e0 : Nat)], .bool c0]) ∧ Below w.heap.size w w' from hS0)
    have HC0 := Lib.hid hc0
    have HP0 := Lib.hid hp0
    clear hS0 hc0 hp0
    go_enter Tryd.func13, Tryd.ntmps13
    go_wp2_with fail
    refine (HV.out _).mono ?_
    rintro e w1 ⟨rfl, rfl⟩
    go_wp2_with fail
    refine (HS0.out _ hd).mono ?_
    rintro e w2 ⟨rfl, hb2⟩
    have hws := hb2.size
    have b2 := hb2.alloc hws (.cells #[.string P0, .int .i64 (x0 : Nat), .int .i64 (e0 : Nat)] 41)
    have f2 := FrmAt.new w2 41 P0 x0 e0
    have s2 : (w2.alloc (.cells #[.string P0, .int .i64 (x0 : Nat), .int .i64 (e0 : Nat)] 41)).heap.size = w2.heap.size + 1 := World.size_alloc _ _
    obtain ⟨G, hG⟩ : ∃ G, w2.heap.size = G := ⟨_, rfl⟩
    rw [hG] at f2 s2 hws
    have HG := Lib.hid hG
    go_wp2
    go_loopw [3, 5] (fun o k wr => ∃ (i : Nat) (P : ByteArray) (x e : Nat) (c : Bool), i ≤ N ∧ k = .bool c ∧ Hid (c = decide (i < N)) ∧ Hid (i < N → P = alF z i ∧ e = atF z (i + 1)) ∧ SF wr (G + 1) o i (alF z) ∧ FrmAt wr G P x e ∧ Below w.heap.size w wr ∧ G + 1 ≤ wr.heap.size) (fun o k wr => match o with | .slice _ n _ => N + 1 - n | _ => 0)
    case atStart => exact ⟨0, P0, x0, e0, c0, Nat.zero_le _, rfl, HC0, HP0, SF.nil _ _ _, f2, b2, by omega⟩
    case round =>
      clear hb2 b2 f2 s2 HC0 HP0 HS0
      obtain ⟨i, P, x, e, c, hi, rfl, HCi, HPi, rO, rf, rb, rs⟩ := hrel
      by_cases hlt : i < N
      · obtain rfl : c = true := by rw [HCi.out, decide_eq_true hlt]
        obtain ⟨rfl, rfl⟩ := HPi.out hlt
        obtain ⟨P1, x1, e1, c1, hc1, hp1, hS1⟩ := HQ.out (i + 1) (by omega)
        have h6 := H6.out (i + 1) (by omega)
        obtain ⟨y, hy⟩ : ∃ y, alF z i = y := ⟨_, rfl⟩
        obtain ⟨m, hm⟩ : ∃ m, atF z (i + 1) = m := ⟨_, rfl⟩
        rw [hm] at hS1 h6 rf
        rw [hy] at rf
        have HE := Lib.hid hy
        have HS1 := Lib.hid hS1
        have HC1 := Lib.hid hc1
        have HP1 := Lib.hid hp1
        have HD := Lib.hid hd
        clear hS1 hc1 hp1 hy hm HCi HPi
        have g0 := rf.1
        obtain ⟨oa, oc, rfl, _⟩ := rO.form
        go_wp2_with (at_builtin; refine wpList_append_str rfl (.tmp 15) (.tmp 18) rfl (G + 1) _ i (alF z) rfl (rO.alloc _) wr.heap.size 1 y rfl (by simp) (by omega) (by simp; omega) ?_; intro v' w3 O3 g3; have b3 : Below w.heap.size w w3 := (rb.alloc rb.size _).grown g3 (by simp; omega) (fun q hq => Nat.le_trans (by omega) (rO.lt q hq).1); have bG : Below (G + 1) wr w3 := ((Below.refl (G + 1) wr).alloc rs _).grown g3 (by simp; omega) (fun q hq => (rO.lt q hq).1); have O4 := SF.snocA O3 HE.out; have rf3 := rf.below bG (by omega); have rs3 : G + 1 ≤ w3.heap.size := Nat.le_trans rs bG.size; clear O3 g3 bG rO rf rb g0; have g0 := rf3.1)
        refine (HS1.out _ (HD.out.below b3 HD.out.lt)).mono ?_
        rintro e w4 ⟨rfl, hb4⟩
        have b4 := below_then b3 (Nat.le_refl _) hb4
        have O5 := O4.below hb4
        have rf4 := rf3.below hb4 rf3.2.1
        have rs4 : G + 1 ≤ w4.heap.size := Nat.le_trans rs3 hb4.size
        clear O4 rf3 b3 hb4 g0
        have rf5 := rf4.put P1 x1 e1
        have O6 := O5.kept (grown_put w4 G (.string P1) (.int .i64 x1) (.int .i64 e1)) (by
          rcases hq : v'.ownBlock with _ | q
          · exact .inl rfl
          · have := (O5.lt q hq).1
            exact .inr (fun e => by injection e with e; omega))
        have b5 := ((b4.setCell (p := ⟨G, 0, none⟩) hws (.string P1)).setCell (p := ⟨G, 1, none⟩) hws (.int .i64 x1)).setCell (p := ⟨G, 2, none⟩) hws (.int .i64 e1)
        obtain ⟨⟨d0, d1, d2⟩, dl, f0, f1, f2⟩ := rf4
        obtain ⟨oa2, oc2, rfl, _⟩ := O6.form
        clear O5 b4
        go_wp2
        go_roundw
        case rel => exact ⟨i + 1, P1, x1, e1, c1, by omega, rfl, HC1, HP1, O6, rf5, b5, by simpa using rs4⟩
        case measure => simp; omega
      · obtain rfl : i = N := by omega
        obtain rfl : c = false := by rw [HCi.out, decide_eq_false hlt]
        go_wp2
        go_ret
        exact ⟨_, rfl, rO.mono (by omega), rb⟩
end Go.Proofs.YtdafepfjjmdkeaaDoor
