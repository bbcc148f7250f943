/- SendAll of both sides. -/
import Derived.Test.YthfcfnamaedffaaSnd
namespace Go.Proofs.Ythfcfnamaedffaa
open Go.RowKit
set_option linter.unusedVariables false
set_option maxRecDepth 100000
def saN (n : Nat) (f : Nat → Usr) : Nat := if usrsB n f then mxN (usN f) n else 0
theorem saN_le (n : Nat) (f : Nat → Usr) : saN n f ≤ 3000 := by
  unfold saN
  split
  · rename_i h
    unfold usrsB at h
    simp only [Bool.and_eq_true, decide_eq_true_eq] at h
    exact (us_sum h.1 h.2).1
  · omega
theorem sSendAll_any (v : Value) (n : Nat) (f : Nat → Usr) (w : World) (h : UsrsR w v n f) (hn : n ≤ 1048576) (hf : UsrSz n f) :
    Calls Try.prog 19 #[v] w fun e w' => ∃ u, e = .returned (.tuple #[u, .bool (usrsB n f)]) ∧ OF w' w.heap.size u (saN n f) (smF (usN f) (usF f) n) ∧ Below w.heap.size w w' := by
  have hu := sUsers_any v n f w h hn hf
  unfold saN
  cases hb : usrsB n f with
  | false =>
    rw [hb] at hu
    have HU := Lib.hid hu
    rw [if_neg (by decide)]
    clear hu h hb
    go_enter Try.func19, Try.ntmps19
    go_wp2_with fail
    refine HU.out.mono ?_
    rintro e w1 ⟨rfl, b1⟩
    have O0 := (OF.empty0 w1 (smF (usN f) (usF f) n)).mono b1.size
    have b2 := b1.alloc b1.size (.cells #[] 3)
    clear HU b1
    go_wp2
    go_ret2
    exact ⟨_, rfl, O0, b2⟩
  | true =>
    rw [hb] at hu
    have HU := Lib.hid hu
    rw [if_pos rfl]
    have hb' := hb
    unfold usrsB at hb'
    simp only [Bool.and_eq_true, decide_eq_true_eq] at hb'
    obtain ⟨hok, h8⟩ := hb'
    have HS := Lib.hid (fun w h => l4Send_any v n f w h hok (by omega))
    have HH := Lib.hid h
    obtain ⟨M, hM⟩ : ∃ M, mxN (usN f) n = M := ⟨_, rfl⟩
    obtain ⟨G, hG⟩ : ∃ M, smF (usN f) (usF f) n = M := ⟨_, rfl⟩
    rw [hM, hG] at HS ⊢
    clear hu h hb hM hG hok h8 hf hn
    go_enter Try.func19, Try.ntmps19
    go_wp2_with fail
    refine HU.out.mono ?_
    rintro e w1 ⟨rfl, b1⟩
    have h1 := HH.out.below b1
    clear HU
    go_wp2_with fail
    refine (HS.out _ h1).mono ?_
    rintro e w2 ⟨u, rfl, O2, hb2⟩
    have b2 := below_then b1 (Nat.le_refl _) hb2
    have O3 := O2.mono b1.size
    clear h1 b1 hb2 O2
    go_wp2
    go_ret2
    exact ⟨u, rfl, O3, b2⟩
/-- A slice of n values of slices, of the call's own. -/
def VF (w : World) (B : Nat) (v : Value) (n : Nat) (f : Nat → Value) : Prop := w.ownsRow B 25 1 v n ((List.range n).map f)
theorem VF.below {w w' : World} {B : Nat} {v : Value} {n : Nat} {f : Nat → Value} (h : VF w B v n f) (hb : Below w.heap.size w w') : VF w' B v n f :=
  World.ownsRow.kept h (grown_of_below hb) (by cases v.ownBlock <;> simp)
theorem VF.at {w : World} {B g n cap : Nat} {f : Nat → Value} (h : VF w B (.slice (some ⟨g, 0, none⟩) n cap) n f) (i : Nat) (hi : i < n) : w.cell? ⟨g, i, none⟩ = some (f i) := by
  rw [World.ownsRow.cellAt h i (by omega), List.getElem?_map, List.getElem?_range hi]; rfl
theorem VF.free {w : World} {B g n cap : Nat} {f : Nat → Value} (h : VF w B (.slice (some ⟨g, 0, none⟩) n cap) n f) (j : Nat) : w.frozen? ⟨g, j, none⟩ = false := World.ownsRow.frozenAt h j
theorem VF.set {w : World} {B g cap n : Nat} {f : Nat → Value} (h : VF w B (.slice (some ⟨g, 0, none⟩) n cap) n f) (k : Nat) (y : Value) (hk : k < n) : VF (w.setCell ⟨g, k, none⟩ y) B (.slice (some ⟨g, 0, none⟩) n cap) n (fun i => if i = k then y else f i) ∧ w.grownBy (w.setCell ⟨g, k, none⟩ y) (some g) := by
  have := World.ownsRow.stored h k y
  refine ⟨?_, this.2⟩
  have e : ((List.range n).map f).set k y = (List.range n).map fun i => if i = k then y else f i := by
    apply List.ext_getElem?
    intro t
    by_cases ht : t < n
    · rw [List.getElem?_set]
      by_cases q : k = t
      · subst q; simp [ht]
      · rw [if_neg q, List.getElem?_map, List.getElem?_map, List.getElem?_range ht]; simp [show ¬ t = k from fun x => q x.symm]
    · rw [List.getElem?_eq_none (by simp; omega), List.getElem?_eq_none (by simp; omega)]
  unfold VF
  rw [← e]; exact this.1
theorem VF.made (w : World) (n : Nat) (hm : n ≤ 1000) : VF (w.alloc (.cells (madeCells #[.slice none 0 0] n) 25)) w.heap.size (.slice (some ⟨w.heap.size, 0, none⟩) n n) n (fun _ => .slice none 0 0) := by
  have hs : (madeCells #[Value.slice none 0 0] n).size = n := size_madeCells _ _
  refine ⟨by simp, .inr ⟨w.heap.size, n, madeCells #[.slice none 0 0] n, rfl, Nat.le_refl _, ?_, Nat.le_refl _, by unfold maxLen; omega, by rw [hs]; omega, ?_⟩⟩
  · show (w.heap.push _)[w.heap.size]? = _
    simp
  · apply List.ext_getElem?
    intro j
    by_cases hj : j < n
    · simp [madeCells, hj, Nat.mod_one]
    · simp [hj, hs]
theorem make_sigs (n : Nat) (h : n ≤ 1000) (w : World) :
    (Instr.makeSlice 80 (.int .i64 (n : Int)) (.int .i64 (n : Int))).run Try.prog w = .ok (.slice (some ⟨w.heap.size, 0, none⟩) n n) (w.alloc (.cells (madeCells #[.slice none 0 0] n) 25)) :=
  run_make_row' (P := Try.prog) 80 25 (.slice none 0 0) 24 (by kernel_rfl) (by kernel_rfl) rfl .i64 .i64 n (by omega) (by omega) w
theorem OF.isSlice {w : World} {B : Nat} {v : Value} {n : Nat} {f : Nat → Int} (h : OF w B v n f) : ∃ a cap, v = .slice a n cap := by
  obtain ⟨a, cap, e, _⟩ := h.form
  exact ⟨a, cap, e⟩
set_option maxHeartbeats 1600000 in
theorem iSendAll_any (v : Value) (n : Nat) (f : Nat → Usr) (w : World) (h : UsrsR w v n f) (hn : n ≤ 1048576) (hf : UsrSz n f) :
    Calls Try.prog 18 #[v] w fun e w' => ∃ u, e = .returned (.tuple #[u, .bool (usrsB n f)]) ∧ OF w' w.heap.size u (saN n f) (smF (usN f) (usF f) n) ∧ Below w.heap.size w w' := by
  have hu := iUsers_any v n f w h hn hf
  unfold saN
  cases hb : usrsB n f with
  | false =>
    rw [hb] at hu
    have HU := Lib.hid hu
    rw [if_neg (by decide)]
    clear hu h hb
    go_enter Try.func18, Try.ntmps18
    go_wp2_with fail
    refine HU.out.mono ?_
    rintro e w1 ⟨rfl, b1⟩
    clear HU
    go_wp2
    go_ret2
    exact ⟨_, rfl, OF.nil _ _ _, b1⟩
  | true =>
    rw [hb] at hu
    have HU := Lib.hid hu
    rw [if_pos rfl]
    have hb' := hb
    unfold usrsB at hb'
    simp only [Bool.and_eq_true, decide_eq_true_eq] at hb'
    obtain ⟨hok, h8⟩ := hb'
    obtain ⟨hM3, hsg⟩ := us_sum hok h8
    have hsp := fun v w hh => superp_any v n (usN f) (usF f) w hh h8 (fun i hi => (us_bd (okN_at n hok hi)).2.1)
    rw [hsg, show resN (mxN (usN f) n) (smF (usN f) (usF f) n) = mxN (usN f) n by unfold resN; rw [hsg]; rfl] at hsp
    have HO := Lib.hid (fun k (hk : k < n) => okN_at n hok hk)
    have hmk := make_sigs n (by omega)
    obtain ⟨M, hM⟩ : ∃ M, mxN (usN f) n = M := ⟨_, rfl⟩
    obtain ⟨G, hG⟩ : ∃ M, smF (usN f) (usF f) n = M := ⟨_, rfl⟩
    rw [hM, hG] at hsp
    rw [hM, hG]
    have HSP := Lib.hid hsp
    obtain ⟨a, cap, rfl, hc⟩ := h
    have HC := Lib.hid hc
    clear hu hc hb hM hG hok hf hn hsp hsg hM3
    go_enter Try.func18, Try.ntmps18
    go_wp2_with fail
    refine HU.out.mono ?_
    rintro e w1 ⟨rfl, b1⟩
    have O0 := VF.made w1 n (by omega)
    have b2 := b1.alloc b1.size (.cells (madeCells #[.slice none 0 0] n) 25)
    have hs1 := b1.size
    obtain ⟨g, hg⟩ : ∃ g, w1.heap.size = g := ⟨_, rfl⟩
    have Hg := Lib.hid hg
    have hgs : g < (w1.alloc (.cells (madeCells #[.slice none 0 0] n) 25)).heap.size := by rw [← hg]; simp
    have hwg : w.heap.size ≤ g := by rw [← hg]; exact hs1
    rw [hg] at O0
    clear HU b1 hs1 hg
    go_wp2
    rw [Hg.out]
    go_loopw [15] (fun i wr => ∃ (k : Nat) (vs : Nat → Value), k ≤ n ∧ i = .int .i64 k ∧ VF wr g (.slice (some ⟨g, 0, none⟩) n n) n vs ∧ g < wr.heap.size ∧ Hid (∀ i, i < k → OF wr (g + 1) (vs i) (usN f i) (usF f i)) ∧ Below w.heap.size w wr) (fun i _ => n - (intOf i).toNat)
    case atStart => exact ⟨0, _, by omega, rfl, O0, hgs, Lib.hid (fun i hi => absurd hi (Nat.not_lt_zero i)), b2⟩
    case round =>
      obtain ⟨k, vs, hk, rfl, rO, rg, rH, rb⟩ := hrel
      clear hmk O0 b2 hgs
      by_cases hlt : k < n
      · obtain ⟨b, o, rfl, hx, hcc⟩ := HC.out k hlt
        obtain ⟨c0, c1, c2, c3⟩ := hcc.below rb hx
        have i0 : (0 : Int) ≤ (k : Int) := by omega
        have i1 : (k : Int) < (n : Int) := by omega
        have hu := HO.out k hlt
        have hS0 := fun w => iSigOf_yes (f k).code (f k).data (f k).gain (f k).delay w hu
        have hS : ∀ w, Calls Try.prog 76 #[.agg #[.string (f k).code, .string (f k).data, .int .i64 (f k).gain, .int .i64 (f k).delay]] w fun e w' => ∃ u, e = .returned u ∧ OF w' w.heap.size u (usN f k) (usF f k) ∧ Below w.heap.size w w' := hS0
        obtain ⟨C, hC⟩ : ∃ C, (f k).code = C := ⟨_, rfl⟩
        obtain ⟨D, hDD⟩ : ∃ C, (f k).data = C := ⟨_, rfl⟩
        obtain ⟨X, hX⟩ : ∃ C, (f k).gain = C := ⟨_, rfl⟩
        obtain ⟨Y, hY⟩ : ∃ C, (f k).delay = C := ⟨_, rfl⟩
        rw [hC] at c0
        rw [hDD] at c1
        rw [hX] at c2
        rw [hY] at c3
        rw [hC, hDD, hX, hY] at hS
        have HS := Lib.hid hS
        clear hS hS0 hC hDD hX hY hcc hu
        go_wp2_with fail
        refine (HS.out _).mono ?_
        rintro e w5 ⟨u, rfl, O5, hb⟩
        have r5 := below_then (rb.alloc rb.size _) (Nat.le_refl _) hb
        have hba := (Below.refl wr.heap.size wr).alloc (Nat.le_refl _) (.cells #[.string C, .string D, .int .i64 X, .int .i64 Y] 30)
        have hbw := below_then hba (Nat.le_refl _) hb
        have V5 := rO.below hbw
        have H5 := Lib.hid (fun i hi => (rH.out i hi).below hbw)
        have O6 := O5.mono (show g + 1 ≤ (wr.alloc (.cells #[.string C, .string D, .int .i64 X, .int .i64 Y] 30)).heap.size by simp; omega)
        have g5 : g < w5.heap.size := Nat.lt_of_lt_of_le rg hbw.size
        clear c0 c1 c2 c3 hb hba hbw rO rH rb rg O5
        obtain ⟨ua, uc, rfl⟩ := O6.isSlice
        have d0 := V5.at k hlt
        have fr := V5.free
        obtain ⟨V6, gr⟩ := V5.set k (.slice ua (usN f k) uc) hlt
        have off : ∀ {v : Value} {m : Nat} {z : Nat → Int}, OF w5 (g + 1) v m z → OF (w5.setCell ⟨g, k, none⟩ (.slice ua (usN f k) uc)) (g + 1) v m z := fun h => h.kept gr (by
          rename_i v m z
          cases hv : v.ownBlock with
          | none => exact .inl rfl
          | some q => right; intro e; cases e; have := (h.lt _ hv).1; omega)
        have H6 : Hid (∀ i, i < k + 1 → OF (w5.setCell ⟨g, k, none⟩ (.slice ua (usN f k) uc)) (g + 1) (if i = k then .slice ua (usN f k) uc else vs i) (usN f i) (usF f i)) := Lib.hid (fun i hi => by
          by_cases e : i = k
          · rw [if_pos e, e]; exact off O6
          · rw [if_neg e]; exact off (H5.out i (by omega)))
        have V7 := Lib.hid V6
        have r6 := Lib.hid (r5.grown gr r5.size (fun q hq => by cases hq; exact hwg))
        have g6 : Hid (g < (w5.setCell ⟨g, k, none⟩ (.slice ua (usN f k) uc)).heap.size) := Lib.hid (Nat.lt_of_lt_of_le g5 gr.size)
        clear V5 V6 H5 O6 r5 g5 gr off
        go_wp2
        go_roundw
        case rel => exact ⟨k + 1, _, by omega, by go_num, V7.out, g6.out, H6, r6.out⟩
        case measure => simp [intOf]; omega
      · obtain rfl : n = k := by omega
        have hS : SigsR wr (.slice (some ⟨g, 0, none⟩) n n) n (usN f) (usF f) := ⟨_, _, rfl, fun i hi => ⟨⟨g, 0, none⟩, vs i, rfl, rg, by
          have e : (⟨g, 0, none⟩ : Addr).add i = ⟨g, i, none⟩ := by unfold Addr.add; split <;> simp_all
          rw [e]; exact rO.at i hi, (rH.out i hi).ints⟩⟩
        have hsz := rb.size
        clear rO rH rg
        go_wp2_with fail
        refine (HSP.out _ _ hS).mono ?_
        rintro e w5 ⟨u, rfl, O5, hb⟩
        have r5 := below_then rb (Nat.le_refl _) hb
        have O6 := O5.mono hsz
        clear hb hS O5 rb hsz
        go_wp2
        go_ret2
        exact ⟨u, rfl, O6, r5⟩
end Go.Proofs.Ythfcfnamaedffaa
