/- scan of the program: the next frame. -/
import Derived.Test.YtdafepfjjmdkeaaDoorFndAll
import Derived.Test.YtdafepfjjmdkeaaDoorAsLost
import Derived.Test.YtdafepfjjmdkeaaDoorDoorE
import Derived.Test.YtdafepfjjmdkeaaDoorIdxLay
import Derived.ScopeJumps
import Derived.WalkMore
namespace Go.Proofs.YtdafepfjjmdkeaaDoor
open Go.RowKit
set_option linter.unusedVariables false
set_option maxRecDepth 100000
/-- errors.As at an error of the type *lostFrame: what the walk of scan wants. -/
theorem lostAs_any (e t : Addr) (old v : Value) (w : World) (hg : DoorAt w) (ht : w.cell? t = some old) (hf : w.frozen? t = false) (hte : t ≠ e) (he : w.cell? e = some v) :
    Calls Tryd.prog 50 #[.iface 61 (.pointer (some e)), .iface 64 (.pointer (some t))] w fun ev w' => ev = .returned (.bool true) ∧ w'.cell? t = some (.pointer (some e)) ∧ w'.frozen? t = false ∧ w'.cell? e = some v ∧ w.heap.size ≤ w'.heap.size ∧ ∀ B, B ≤ t.block → Below B w w' := by
  have htl := World.block_lt_of_cell? _ _ ht
  have hel := World.block_lt_of_cell? _ _ he
  refine (as_hit e t old w hg.1 ht hf).mono ?_
  rintro ev w' ⟨rfl, rfl⟩
  have key : ∀ (x : Array Value) (y : Array Value) (z : Array Value) (u : Array Value) (t1 t2 t3 t4 : TypeId), ∃ W, ((((w.alloc (.cells x t1)).alloc (.cells y t2)).alloc (.cells z t3)).alloc (.cells u t4)) = W ∧ Below w.heap.size w W := fun x y z u t1 t2 t3 t4 =>
    ⟨_, rfl, ((((Below.refl _ w).alloc (Nat.le_refl _) _).alloc (by simp) _).alloc (by simp; omega) _).alloc (by simp; omega) _⟩
  obtain ⟨W, hW, hb⟩ := key #[.pointer (some t)] #[.pointer (some ⟨2, 64, none⟩), .pointer (some ⟨w.heap.size, 0, none⟩), .int .u64 150] #[.pointer (some ⟨2, 64, none⟩), .pointer (some ⟨w.heap.size, 0, none⟩), .int .u64 150] #[.pointer (some e)] 64 78 78 61
  rw [hW]
  have c1 := (hb.cell htl).trans ht
  refine ⟨rfl, World.cell?_setCell_same _ _ _ c1, ?_, ?_, ?_, fun B hB => ?_⟩
  · rw [World.frozen?_setCell]; exact (hb.frozen htl).trans hf
  · rw [World.cell?_setCell_other _ _ _ _ hte]; exact (hb.cell hel).trans he
  · simpa using hb.size
  · exact (hb.mono (by omega)).setCell hB _
/-- What looking for a frame answers. -/
def ScanPost (z : ByteArray) (a : Nat) (w : World) (e : Ending) (w' : World) : Prop :=
  (nx z a < z.size → e = .returned (.tuple #[.agg #[.string (parP z (nx z a)), .int .i64 (nx z a : Nat), .int .i64 (endF z (nx z a) : Nat)], .bool true])) ∧
  (z.size ≤ nx z a → e = .returned (.tuple #[.agg #[.string ⟨#[]⟩, .int .i64 0, .int .i64 0], .bool false])) ∧ Below w.heap.size w w'
theorem scope_jumps {P : Program} {a : Act} {w : World} {Q : Exit → Act → World → Prop} {c rest : Code} (l : Nat) (J : Act → World → Prop) (μ : Act → World → Nat) (hf : findLabel c l = some (Code.seq Code.skip rest))
    (start : (∀ a w, J a w → rest.wp P (Exit.jump l J Q) a w) → c.wp P (Exit.jump l J Q) a w)
    (pass : ∀ a w, J a w → rest.wp P (Exit.jump l (fun a' w' => J a' w' ∧ μ a' w' < μ a w) Q) a w) : (Code.scope c).wp P Q a w :=
  wp_scope_jumps l J μ hf (start fun a w h => Code.wp_mono (fun e a' w' he => by cases e <;> first | exact ⟨he.1, he.2.1⟩ | exact he) (pass a w h)) fun a w h => wp_seq (wp_skip (pass a w h))
set_option maxHeartbeats 1600000 in
theorem scan_any (z : ByteArray) (a : Nat) (w : World) (hbz : bitsB z = true) (ha : a ≤ z.size) (hd : DoorAt w) :
    Calls Tryd.prog 31 #[.string z, .int .i64 a] w (ScanPost z a w) := by
  have hdl := hd.lt
  obtain ⟨ho, h6⟩ := bits_of2 hbz
  have b0 := ((Below.refl w.heap.size w).alloc (Nat.le_refl _) (.cells #[.string ⟨#[]⟩, .int .i64 0, .int .i64 0] 41)).alloc (by simp) (.cells #[.pointer none] 61)
  have f0 := FrmAt.new w 41 ⟨#[]⟩ 0 0
  have s0 : (w.alloc (.cells #[.string ⟨#[]⟩, .int .i64 0, .int .i64 0] 41)).heap.size = w.heap.size + 1 := World.size_alloc _ _
  have f1 := f0.below ((Below.refl _ _).alloc (Nat.le_refl _) (.cells #[.pointer none] 61)) (by rw [s0]; omega)
  have c1 := box_new (w.alloc (.cells #[.string ⟨#[]⟩, .int .i64 0, .int .i64 0] 41)) (.pointer none) 61
  have g1 : ((w.alloc (.cells #[.string ⟨#[]⟩, .int .i64 0, .int .i64 0] 41)).alloc (.cells #[.pointer none] 61)).frozen? ⟨w.heap.size + 1, 0, none⟩ = false := by simp
  have s1 : ((w.alloc (.cells #[.string ⟨#[]⟩, .int .i64 0, .int .i64 0] 41)).alloc (.cells #[.pointer none] 61)).heap.size = w.heap.size + 2 := by rw [World.size_alloc, s0]
  rw [s0] at c1
  go_enter Tryd.func31, Tryd.ntmps31
  go_wp2
  refine scope_jumps 0 (fun a' w' => ∃ (i : Nat) (p : Option Addr) (u7 u8 u9 u10 u11 u12 u13 u14 u15 u16 u17 u18 u19 u20 u21 u22 u23 u24 u25 u26 u27 u28 u29 u30 u31 u32 u33 : Value), a' = { tmps := #[.string z, .int .i64 i, undef, undef, .pointer (some ⟨w.heap.size, 0, none⟩), .bool false, .pointer (some ⟨w.heap.size + 1, 0, none⟩), u7, u8, u9, u10, u11, u12, u13, u14, u15, u16, u17, u18, u19, u20, u21, u22, u23, u24, u25, u26, u27, u28, u29, u30, u31, u32, u33], defers := [] } ∧ i ≤ z.size ∧ Hid (nx z i = nx z a) ∧ Below w.heap.size w w' ∧ FrmAt w' w.heap.size ⟨#[]⟩ 0 0 ∧ w'.cell? ⟨w.heap.size + 1, 0, none⟩ = some (.pointer p) ∧ w'.frozen? ⟨w.heap.size + 1, 0, none⟩ = false ∧ w.heap.size + 1 < w'.heap.size)
    (fun a' _ => z.size + 1 - (intOf (a'.tmps.getD 1 undef)).toNat) rfl ?_ ?_
  · intro K
    go_wp2
    go_step3
    rename_i h2
    exact h2 _ _ (K _ _ ⟨a, _, _, _, _, _, _, _, _, _, _, _, _, _, _, _, _, _, _, _, _, _, _, _, _, _, _, _, _, rfl, ha, Lib.hid rfl, b0, f1, c1, g1, by omega⟩)
  · clear f0 s0 f1 c1 g1 s1 b0
    rintro a' wr ⟨i, p, u7, u8, u9, u10, u11, u12, u13, u14, u15, u16, u17, u18, u19, u20, u21, u22, u23, u24, u25, u26, u27, u28, u29, u30, u31, u32, u33, rfl, hi, HK, rb, rf, rc, rg, rs⟩
    obtain ⟨_, m, hm⟩ := id (hd.below rb hdl)
    have hsz := size_extract z i z.size (Nat.le_refl _)
    have hI := idx_any (z.extract i z.size) flagS m wr (by rw [hsz]; omega) hm
    have i0 : (0 : Int) ≤ (i : Int) := by omega
    have i1 : (i : Int) ≤ (z.size : Int) := by omega
    by_cases hx : Lib.index (z.extract i z.size).data.toList flagS.data.toList = -1
    · have HN := Lib.hid (no_flag hi hx)
      rw [hx] at hI
      have HI := Lib.hid hI
      clear hI hx hm hsz
      go_wp2_with fail
      refine HI.out.mono ?_
      rintro e w1 ⟨rfl, rfl⟩
      obtain ⟨⟨d0, d1, d2⟩, dl, g0, g1, g2⟩ := rf
      go_wp2
      simp only [Exit.jump]
      refine bodyPost_ret (v := .tuple #[.agg #[.string ⟨#[]⟩, .int .i64 0, .int .i64 0], .bool false]) (by simp [results, Tryd.results31, go_sem, d0, d1, d2]) rfl ?_
      refine ⟨fun h => ?_, fun _ => rfl, ?_⟩
      · have := HN.out; rw [HK.out] at this; omega
      · first
        | exact ((rb.setCell (p := ⟨w.heap.size, 0, none⟩) (Nat.le_refl _) _).setCell (p := ⟨w.heap.size, 1, none⟩) (Nat.le_refl _) _).setCell (p := ⟨w.heap.size, 2, none⟩) (Nat.le_refl _) _
        | exact rb
    · obtain ⟨d, hd1, hdr, hdn⟩ := at_flag hi hx
      rw [hd1] at hI
      have HI := Lib.hid hI
      clear hI hx hm hsz hd1
      obtain ⟨k, hk⟩ : ∃ k, i + d = k := ⟨_, rfl⟩
      rw [hk] at hdr hdn
      have v1 : (i : Int) + (d : Int) = (k : Int) := by omega
      have v2 : (k : Int) ≤ 600 := by omega
      have v3 : ¬ (d : Int) < 0 := by omega
      have HR := Lib.hid (fun w => read_any z k w hbz (by omega))
      have HK2 := Lib.hid (hdn.symm.trans HK.out)
      cases hh : hitB z k with
      | true =>
        have HX : Hid (nx z a = k) := Lib.hid (by rw [← HK2.out, nx_hit hh])
        have HL : Hid (k < z.size) := Lib.hid (by omega)
        have HH := Lib.hid hh
        obtain ⟨P, hP⟩ : ∃ P, parP z k = P := ⟨_, rfl⟩
        obtain ⟨E, hE2⟩ : ∃ P, k + 23 + nAt z k = P := ⟨_, rfl⟩
        have HP := Lib.hid hP
        have HE := Lib.hid hE2
        clear hh hP hE2 hdn hdr hbz hk
        go_wp2_with fail
        refine HI.out.mono ?_
        rintro e w1 ⟨rfl, rfl⟩
        go_wp2_with fail
        refine (HR.out _).mono ?_
        rintro e w2 ⟨b, hE, _, hb⟩
        have hE' := hE HH.out
        rw [HP.out, HE.out] at hE'
        subst hE'
        have b2 := below_then rb (Nat.le_refl _) hb
        have rf2 := rf.below hb rf.2.1
        have nf := FrmAt.new w2 41 P k E
        have rf3 := rf2.below ((Below.refl w2.heap.size w2).alloc (Nat.le_refl _) (.cells #[.string P, .int .i64 k, .int .i64 E] 41)) rf2.2.1
        have b3 := b2.alloc b2.size (.cells #[.string P, .int .i64 k, .int .i64 E] 41)
        clear hE hb rf rf2 b2 HI HR rc rg
        go_wp2_with fail
        refine (as_nil _ _).mono ?_
        rintro e w3 ⟨rfl, rfl⟩
        obtain ⟨⟨d0, d1, d2⟩, dl, g0, g1, g2⟩ := rf3
        obtain ⟨⟨e0, e1, e2⟩, el, _, _, _⟩ := nf
        obtain ⟨W, hW⟩ : ∃ W, w2.alloc (.cells #[.string P, .int .i64 k, .int .i64 E] 41) = W := ⟨_, rfl⟩
        rw [hW] at d0 d1 d2 dl g0 g1 g2 e0 e1 e2 el b3 ⊢
        clear hW
        go_wp2
        simp only [Exit.jump]
        refine bodyPost_ret (v := .tuple #[.agg #[.string P, .int .i64 k, .int .i64 E], .bool true]) (by simp [results, Tryd.results31, go_sem, d0, d1, d2]) rfl ?_
        refine ⟨fun _ => ?_, fun h => ?_, ?_⟩
        · rw [HX.out]; unfold endF; rw [HP.out, HE.out]
        · have := HL.out; rw [HX.out] at h; omega
        · first
          | exact ((b3.setCell (p := ⟨w.heap.size, 0, none⟩) (Nat.le_refl _) _).setCell (p := ⟨w.heap.size, 1, none⟩) (Nat.le_refl _) _).setCell (p := ⟨w.heap.size, 2, none⟩) (Nat.le_refl _) _
          | exact b3
      | false =>
        have HX := Lib.hid ((nx_miss hh (by omega)).symm.trans HK2.out)
        have HL : Hid (k + 1 ≤ z.size) := Lib.hid (by omega)
        have HH := Lib.hid hh
        have HD := Lib.hid hd
        have hik : i ≤ k := by omega
        clear hh hdn hdr hbz hk hd
        go_wp2_with fail
        refine HI.out.mono ?_
        rintro e w1 ⟨rfl, rfl⟩
        go_wp2_with fail
        refine (HR.out _).mono ?_
        rintro e w2 ⟨b, _, hE, hb⟩
        obtain ⟨rfl, cb, lb⟩ := hE HH.out
        have b2 := below_then rb (Nat.le_refl _) hb
        have rf2 := rf.below hb rf.2.1
        have rc2 := (hb.cell (p := ⟨w.heap.size + 1, 0, none⟩) rs).trans rc
        have rg2 := (hb.frozen (p := ⟨w.heap.size + 1, 0, none⟩) rs).trans rg
        have rs2 := hb.size
        have bW := (Below.refl w2.heap.size w2).alloc (Nat.le_refl _) (.cells #[.string ⟨#[]⟩, .int .i64 0, .int .i64 0] 41)
        have rf3 := rf2.below bW rf2.2.1
        have rc3 := (bW.cell (p := ⟨w.heap.size + 1, 0, none⟩) (Nat.lt_of_lt_of_le rs rs2)).trans rc2
        have rg3 := (bW.frozen (p := ⟨w.heap.size + 1, 0, none⟩) (Nat.lt_of_lt_of_le rs rs2)).trans rg2
        have cb3 := (bW.cell (p := ⟨b, 0, none⟩) lb).trans cb
        have b3 := b2.alloc b2.size (.cells #[.string ⟨#[]⟩, .int .i64 0, .int .i64 0] 41)
        have rs3 := bW.size
        clear hE hb rf rf2 b2 HI HR rc rg rc2 rg2 cb bW
        go_wp2_with fail
        obtain ⟨W, hW⟩ : ∃ W, w2.alloc (.cells #[.string ⟨#[]⟩, .int .i64 0, .int .i64 0] 41) = W := ⟨_, rfl⟩
        rw [hW] at rf3 rc3 rg3 cb3 b3 rs3 ⊢
        clear hW
        have hne : (⟨w.heap.size + 1, 0, none⟩ : Addr) ≠ ⟨b, 0, none⟩ := fun h => by rw [← h, rc3] at cb3; cases cb3
        refine (lostAs_any ⟨b, 0, none⟩ ⟨w.heap.size + 1, 0, none⟩ _ _ W (HD.out.below b3 hdl) rc3 rg3 hne cb3).mono ?_
        rintro e w3 ⟨rfl, c6, f6, ce, hs3, hB3⟩
        have b4 := b3.trans (hB3 w.heap.size (by simp))
        have rf4 := rf3.below (hB3 (w.heap.size + 1) (by simp)) (by omega)
        have rs4 : w.heap.size + 1 < w3.heap.size := by omega
        clear rf3 rc3 rg3 cb3 b3 hne hB3
        go_wp2
        go_step3
        refine ⟨rfl, ⟨k + 1, _, _, _, _, _, _, _, _, _, _, _, _, _, _, _, _, _, _, _, _, _, _, _, _, _, _, _, _, by first | rfl | (congr 2), HL.out, HX, b4, rf4, c6, f6, rs4⟩, ?_⟩
        have := HL.out
        simp [intOf]; omega
end Go.Proofs.YtdafepfjjmdkeaaDoor
