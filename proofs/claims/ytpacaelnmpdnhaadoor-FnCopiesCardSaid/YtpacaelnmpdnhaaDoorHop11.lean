/- What is received of data whose hops are jammed: copyFrom and l7Send; SendHops of both sides. -/
import Derived.Test.YtpacaelnmpdnhaaDoorMrgD
import Derived.Test.YtpacaelnmpdnhaaDoorFrm0
import Derived.Test.YtpacaelnmpdnhaaDoorSsFlip
import Derived.Shelf.Abstract
namespace Go.Proofs.YtpacaelnmpdnhaaDoor
open Go.RowKit Go.Maps Go.Shelf
set_option linter.unusedVariables false
set_option maxRecDepth 100000
/-- The byte that is received in a place. -/
def cpF (z : ByteArray) (n : Nat) (h : Nat → Int) (m : Nat) (j : Nat → Int) (s i : Nat) : Nat := if isJ m j (h ((s + i) % n)) then 63 else zb z i
def cpS (z : ByteArray) (n : Nat) (h : Nat → Int) (m : Nat) (j : Nat → Int) (s : Nat) : ByteArray := strF z.size (cpF z n h m j s)
theorem cpF_lt (z : ByteArray) (n : Nat) (h : Nat → Int) (m : Nat) (j : Nat → Int) (s i : Nat) : cpF z n h m j s i < 256 := by
  unfold cpF
  split
  · omega
  · exact zb_lt z i
theorem cpF_yes {z : ByteArray} {n : Nat} {h : Nat → Int} {m : Nat} {j : Nat → Int} {s i : Nat} (q : isJ m j (h ((s + i) % n)) = true) : cpF z n h m j s i = 63 := by unfold cpF; rw [if_pos q]
theorem cpF_no {z : ByteArray} {n : Nat} {h : Nat → Int} {m : Nat} {j : Nat → Int} {s i : Nat} (q : isJ m j (h ((s + i) % n)) = false) : cpF z n h m j s i = zb z i := by unfold cpF; rw [q]; rfl
def sndB (z : ByteArray) (n : Nat) (h : Nat → Int) (m : Nat) (j : Nat → Int) : Bool := bitsB z && (someB n h && jamB m j)
theorem sndB_iff (z : ByteArray) (n : Nat) (h : Nat → Int) (m : Nat) (j : Nat → Int) : sndB z n h m j = true ↔ bitsB z = true ∧ someB n h = true ∧ jamB m j = true := by unfold sndB; simp only [Bool.and_eq_true]
def sndV (z : ByteArray) (n : Nat) (h : Nat → Int) (m : Nat) (j : Nat → Int) : ByteArray := if sndB z n h m j then cpS z n h m j 0 else ⟨#[]⟩
theorem bits_600 {z : ByteArray} (h : bitsB z = true) : z.size ≤ 600 := by unfold bitsB at h; simp only [Bool.and_eq_true, decide_eq_true_eq] at h; exact h.2
theorem ret_byte {a b : Nat} (h : a = b) : Ending.returned (.int .u8 (a : Nat)) = .returned (.int .u8 (b : Nat)) := by rw [h]
/-- A row of bytes that can be read and written. -/
def RowB (w : World) (g n : Nat) (f : Nat → Nat) : Prop := g < w.heap.size ∧ ∀ i, i < n → w.cell? ⟨g, i, none⟩ = some (.int .u8 (f i : Nat)) ∧ w.frozen? ⟨g, i, none⟩ = false
theorem RowB.set {w : World} {g n k V : Nat} {f f' : Nat → Nat} (h : RowB w g n f) (hk : k < n) (e : ∀ i, i < n → f' i = if i = k then V else f i) : RowB (w.setCell ⟨g, k, none⟩ (.int .u8 (V : Nat))) g n f' := by
  obtain ⟨h1, h2⟩ := h
  refine ⟨by simpa [World.setCell] using h1, fun i hi => ⟨?_, ?_⟩⟩
  · rw [e i hi]
    by_cases ek : i = k
    · subst ek
      rw [World.cell?_setCell_same _ _ _ (h2 i hi).1]; simp
    · rw [World.cell?_setCell_other _ _ _ _ (by intro h; injection h with _ h _; exact ek h.symm), (h2 i hi).1, if_neg ek]
  · have hf := (h2 i hi).2
    go_simp
theorem RowB.below {w w' : World} {g n : Nat} {f : Nat → Nat} (h : RowB w g n f) (hb : Below w.heap.size w w') : RowB w' g n f :=
  ⟨Nat.lt_of_lt_of_le h.1 hb.size, fun i hi => ⟨(hb.cell (p := ⟨g, i, none⟩) h.1).trans (h.2 i hi).1, (hb.frozen (p := ⟨g, i, none⟩) h.1).trans (h.2 i hi).2⟩⟩
theorem RowB.congr {w : World} {g n : Nat} {f f' : Nat → Nat} (h : RowB w g n f) (e : ∀ i, i < n → f i = f' i) : RowB w g n f' := ⟨h.1, fun i hi => by rw [← e i hi]; exact h.2 i hi⟩
theorem copy1_any (z : ByteArray) (n s b L : Nat) (D : DataW Unit) (h : Nat → Int) (m : Nat) (j : Nat → Int) (bo bs bn bz i : Nat) (w : World)
    (h0 : w.cell? ⟨bo, 0, none⟩ = some (.map (some b))) (h1 : w.cell? ⟨bs, 0, none⟩ = some (.int .i64 (s : Nat))) (h2 : w.cell? ⟨bn, 0, none⟩ = some (.int .i64 (n : Nat))) (h3 : w.cell? ⟨bz, 0, none⟩ = some (.string z))
    (hS : SlotAt w b n D) (hM : SlotM D n (fun i => !isJ m j (h i)) L) (hn0 : 0 < n) (hn : n ≤ 300) (hs : s ≤ 10000) (hz : z.size ≤ 600) (hi : i < z.size) :
    Calls Tryd.prog 61 #[.int .i64 i, .pointer (some ⟨bo, 0, none⟩), .pointer (some ⟨bs, 0, none⟩), .pointer (some ⟨bn, 0, none⟩), .pointer (some ⟨bz, 0, none⟩)] w fun e w' => e = .returned (.int .u8 (cpF z n h m j s i : Nat)) ∧ Below w.heap.size w w' := by
  have t1 : ((s : Int) + (i : Int)).tmod (n : Int) = (((s + i) % n : Nat) : Int) := by rw [← Int.natCast_add, hop_mod]
  have u1 : IntKind.i64.wrap ((s : Int) + (i : Int)) = (s : Int) + (i : Int) := IntWalk.i64_in _ (by omega)
  obtain ⟨R, hR⟩ : ∃ R, (s + i) % n = R := ⟨_, rfl⟩
  have hRn : R < n := by rw [← hR]; exact Nat.mod_lt _ hn0
  rw [hR] at t1
  have hlk : ∀ q, (Instr.lookup 54 (.map (some b)) (.int .i64 (R : Int)) false).run Tryd.prog (w.drewN q) = .ok (.bool (!isJ m j (h R))) (w.drewN q) := fun q => by
    have := SlotAt.look (w := w.drewN q) (show SlotAt (w.drewN q) b n D from SlotAt.kept' hS q) hM R (by omega)
    rwa [decide_eq_true hRn, Bool.true_and] at this
  have l0 : ¬ ((n : Int) = 0) := by omega
  have l1 : ((n : Int) == 0) = false := by simp; omega
  have HF1 := fun q => cpF_yes (z := z) (n := n) (h := h) (m := m) (j := j) (s := s) (i := i) q
  have HF2 := fun q => cpF_no (z := z) (n := n) (h := h) (m := m) (j := j) (s := s) (i := i) q
  rw [hR] at HF1 HF2
  have HZ := Lib.hid (zb_at z i hi)
  have i0 : (0 : Int) ≤ (i : Int) := by omega
  have i1 : (i : Int) < (z.size : Int) := by omega
  clear hS hM hR
  cases hq : isJ m j (h R) with
  | true =>
    have HF := Lib.hid (HF1 hq)
    rw [hq] at hlk
    clear HF1 HF2 hq
    go_enter Tryd.func61, Tryd.ntmps61
    go_wp2_with fail
    go_quiet (fail)
    go_wp2
    go_ret
    exact ⟨ret_byte HF.out.symm, below_drewN (Below.refl _ _) _⟩
  | false =>
    have HF := Lib.hid (HF2 hq)
    rw [hq] at hlk
    clear HF1 HF2 hq
    go_enter Tryd.func61, Tryd.ntmps61
    go_wp2_with fail
    go_quiet (fail)
    go_wp2
    go_ret
    exact ⟨ret_byte (HZ.out.trans HF.out.symm), below_drewN (Below.refl _ _) _⟩
theorem hbx_kept {w W : World} {b : Nat} {v : Value} (h : w.cell? ⟨b, 0, none⟩ = some v) (hb : b < w.heap.size) (k : Below w.heap.size w W) : W.cell? ⟨b, 0, none⟩ = some v := (k.cell (p := ⟨b, 0, none⟩) hb).trans h
theorem hbx_new (w : World) (v : Value) (t : TypeId) : (w.alloc (.cells #[v] t)).cell? ⟨w.heap.size, 0, none⟩ = some v := by simp
theorem hbx_old {w : World} {b : Nat} {v : Value} (h : w.cell? ⟨b, 0, none⟩ = some v) (hb : b < w.heap.size) (o : Obj) : (w.alloc o).cell? ⟨b, 0, none⟩ = some v := hbx_kept h hb ((Below.refl _ _).alloc (Nat.le_refl _) _)
theorem copy_any (z : ByteArray) (n s b L : Nat) (D : DataW Unit) (h : Nat → Int) (m : Nat) (j : Nat → Int) (w : World)
    (hS : SlotAt w b n D) (hM : SlotM D n (fun i => !isJ m j (h i)) L) (hn0 : 0 < n) (hn : n ≤ 300) (hs : s ≤ 10000) (hz : z.size ≤ 600) :
    Calls Tryd.prog 39 #[.string z, .int .i64 (s : Nat), .int .i64 (n : Nat), .map (some b)] w fun e w' => e = .returned (.string (cpS z n h m j s)) ∧ Below w.heap.size w w' := by
  have s1 : (w.alloc (.cells #[.string z] 9)).heap.size = w.heap.size + 1 := World.size_alloc _ _
  have s2 : ((w.alloc (.cells #[.string z] 9)).alloc (.cells #[.int .i64 (s : Nat)] 3)).heap.size = w.heap.size + 1 + 1 := by rw [World.size_alloc, s1]
  have s3 : (((w.alloc (.cells #[.string z] 9)).alloc (.cells #[.int .i64 (s : Nat)] 3)).alloc (.cells #[.int .i64 (n : Nat)] 3)).heap.size = w.heap.size + 1 + 1 + 1 := by rw [World.size_alloc, s2]
  have s4 : ((((w.alloc (.cells #[.string z] 9)).alloc (.cells #[.int .i64 (s : Nat)] 3)).alloc (.cells #[.int .i64 (n : Nat)] 3)).alloc (.cells #[.map (some b)] 54)).heap.size = w.heap.size + 4 := by rw [World.size_alloc, s3]
  have b0 := (((((Below.refl w.heap.size w).alloc (Nat.le_refl _) (.cells #[.string z] 9)).alloc (by omega) (.cells #[.int .i64 (s : Nat)] 3)).alloc (by omega) (.cells #[.int .i64 (n : Nat)] 3))).alloc (by omega) (.cells #[.map (some b)] 54)
  have c0 := hbx_old (hbx_old (hbx_old (hbx_new w (.string z) 9) (by omega) (.cells #[.int .i64 (s : Nat)] 3)) (by omega) (.cells #[.int .i64 (n : Nat)] 3)) (by omega) (.cells #[.map (some b)] 54)
  have c1 := hbx_old (hbx_old (hbx_new (w.alloc (.cells #[.string z] 9)) (.int .i64 (s : Nat)) 3) (by omega) (.cells #[.int .i64 (n : Nat)] 3)) (by omega) (.cells #[.map (some b)] 54)
  have c2 := hbx_old (hbx_new ((w.alloc (.cells #[.string z] 9)).alloc (.cells #[.int .i64 (s : Nat)] 3)) (.int .i64 (n : Nat)) 3) (by omega) (.cells #[.map (some b)] 54)
  have c3 := hbx_new (((w.alloc (.cells #[.string z] 9)).alloc (.cells #[.int .i64 (s : Nat)] 3)).alloc (.cells #[.int .i64 (n : Nat)] 3)) (.map (some b)) 54
  rw [s1] at c1
  rw [s2] at c2
  rw [s3] at c3
  have hSW : SlotAt ((((w.alloc (.cells #[.string z] 9)).alloc (.cells #[.int .i64 (s : Nat)] 3)).alloc (.cells #[.int .i64 (n : Nat)] 3)).alloc (.cells #[.map (some b)] 54)) b n D := World.ownsMap.kept hS (grown_of_below b0) (by simp)
  have hcall : ∀ W, W = ((((w.alloc (.cells #[.string z] 9)).alloc (.cells #[.int .i64 (s : Nat)] 3)).alloc (.cells #[.int .i64 (n : Nat)] 3)).alloc (.cells #[.map (some b)] 54)) → Calls Tryd.prog 60 #[.int .i64 z.size, .func (.func 61) #[] #[.pointer (some ⟨w.heap.size + 1 + 1 + 1, 0, none⟩), .pointer (some ⟨w.heap.size + 1, 0, none⟩), .pointer (some ⟨w.heap.size + 1 + 1, 0, none⟩), .pointer (some ⟨w.heap.size, 0, none⟩)]] W
      fun e w' => e = .returned (.string (cpS z n h m j s)) ∧ Below W.heap.size W w' := fun W hW => by
    refine bitsOf_any z.size (cpF z n h m j s) 61 _ W (by omega) (enters_of Tryd.func61 (by kernel_rfl) rfl) ?_
    intro V i hV hi
    subst hW
    refine (copy1_any z n s b L D h m j (w.heap.size + 1 + 1 + 1) (w.heap.size + 1) (w.heap.size + 1 + 1) w.heap.size i V (hbx_kept c3 (by rw [s4]; omega) hV) (hbx_kept c1 (by rw [s4]; omega) hV) (hbx_kept c2 (by rw [s4]; omega) hV) (hbx_kept c0 (by rw [s4]; omega) hV) (World.ownsMap.kept hSW (grown_of_below hV) (by simp)) hM hn0 hn hs hz hi).mono ?_
    rintro e w' ⟨rfl, h⟩
    exact ⟨rfl, h⟩
  obtain ⟨y, hy⟩ : ∃ y, cpS z n h m j s = y := ⟨_, rfl⟩
  rw [hy] at hcall ⊢
  have HC := Lib.hid hcall
  have HB := Lib.hid b0
  clear hy hcall b0 c0 c1 c2 c3 s4 hSW hS hM
  go_enter Tryd.func39, Tryd.ntmps39
  go_wp2_with fail
  refine (HC.out _ rfl).mono ?_
  rintro e w1 ⟨rfl, hb1⟩
  have b1 := below_then HB.out (by simp) hb1
  clear hb1
  go_wp2
  go_ret
  exact ⟨rfl, b1⟩
theorem sSend_any (z : ByteArray) (v u : Value) (n : Nat) (h : Nat → Int) (m : Nat) (j : Nat → Int) (s : Nat) (w : World) (hv : IntsR w v n h) (hu : IntsR w u m j) (hn0 : 0 < n) (hn : n ≤ 300) (hm : m ≤ 16) (hs : s ≤ 10000) (hz : z.size ≤ 600) :
    Calls Tryd.prog 36 #[.string z, v, u, .int .i64 (s : Nat)] w fun e w' => e = .returned (.string (cpS z n h m j s)) ∧ Below w.heap.size w w' := by
  obtain ⟨W1, c, hcv, hH, hB⟩ : ∃ W1 c, (convert 9 36 (.string z)).run Tryd.prog w = .ok (.slice (some ⟨w.heap.size, 0, none⟩) z.size c) W1 ∧ RowB W1 w.heap.size z.size (zb z) ∧ Below w.heap.size w W1 :=
    ⟨_, _, Lib.run_convert_string_bytes w 9 36 5 z (u := .string) (by kernel_rfl) (by kernel_rfl) (by kernel_rfl), ⟨by rw [Lib.bytesWorld_size]; omega, bytes_row w 5 z⟩, below_bytesW w _ z⟩
  have HU := Lib.hid hu
  have HS := Lib.hid (fun y w h => sHas_any u m j y w h (by omega))
  have HY := Lib.hid (fun i (q : isJ m j (h ((s + i) % n)) = true) => cpF_yes (z := z) q)
  have HN := Lib.hid (fun i (q : isJ m j (h ((s + i) % n)) = false) => cpF_no (z := z) q)
  have HD : Hid (strF z.size (cpF z n h m j s) = cpS z n h m j s) := Lib.hid rfl
  obtain ⟨F, hF⟩ : ∃ F, cpF z n h m j s = F := ⟨_, rfl⟩
  rw [hF] at HY HN HD
  obtain ⟨a, cap, rfl, hc⟩ := hv
  have HC := Lib.hid hc
  have R0 := Lib.hid (hH.congr (f' := fun i => if i < 0 then F i else zb z i) (fun i _ => by simp))
  have l0 : ¬ ((n : Int) = 0) := by omega
  have l1 : ((n : Int) == 0) = false := by simp; omega
  have HB := Lib.hid hB
  clear hc hu hF hH hB
  go_enter Tryd.func36, Tryd.ntmps36
  go_wp2
  go_loopw [10] (fun t wr => ∃ i : Nat, i ≤ z.size ∧ t = .int .i64 i ∧ RowB wr w.heap.size z.size (fun l => if l < i then F l else zb z l) ∧ Below w.heap.size w wr) (fun t _ => z.size - (intOf t).toNat)
  case atStart => exact ⟨0, Nat.zero_le _, rfl, R0.out, HB.out⟩
  case round =>
    obtain ⟨i, hi, rfl, rR, rb⟩ := hrel
    clear hcv R0 HB
    by_cases hlt : i < z.size
    · have hRn : (s + i) % n < n := Nat.mod_lt _ hn0
      have t1 : ((s : Int) + (i : Int)).tmod (n : Int) = (((s + i) % n : Nat) : Int) := by rw [← Int.natCast_add, hop_mod]
      have hy := HY.out i
      have hnn := HN.out i
      obtain ⟨R, hR⟩ : ∃ R, (s + i) % n = R := ⟨_, rfl⟩
      rw [hR] at hRn t1 hy hnn
      obtain ⟨x, rfl, hx, hcc⟩ := HC.out R hRn
      have c0 := (rb.cell (p := x.add R) (by rw [add_block]; exact hx)).trans hcc
      have u1 : IntKind.i64.wrap ((s : Int) + (i : Int)) = (s : Int) + (i : Int) := IntWalk.i64_in _ (by omega)
      have i0 : (0 : Int) ≤ (i : Int) := by omega
      have i1 : (i : Int) < (z.size : Int) := by omega
      have j0 : (0 : Int) ≤ (R : Int) := by omega
      have j1 : (R : Int) < (n : Int) := by omega
      have hs := HS.out (h R) wr (HU.out.below rb)
      cases hq : isJ m j (h R) with
      | true =>
        have hv := hy hq
        rw [hq] at hs
        obtain ⟨Y, hY⟩ : ∃ Y, h R = Y := ⟨_, rfl⟩
        rw [hY] at c0 hs
        have HSS := Lib.hid hs
        obtain ⟨d1, d2⟩ := rR.2 i hlt
        have nR : Hid (RowB (wr.setCell ⟨w.heap.size, i, none⟩ (.int .u8 ((63 : Nat) : Int))) w.heap.size z.size (fun l => if l < i + 1 then F l else zb z l)) := Lib.hid (rR.set hlt (fun l hl => by
          by_cases e : l = i
          · subst e; rw [if_pos (by omega), if_pos rfl, hv]
          · rw [if_neg e]
            by_cases e' : l < i
            · rw [if_pos (by omega), if_pos e']
            · rw [if_neg (by omega), if_neg e']))
        have nb : Hid (Below w.heap.size w (wr.setCell ⟨w.heap.size, i, none⟩ (.int .u8 ((63 : Nat) : Int)))) := Lib.hid (rb.setCell (p := ⟨w.heap.size, i, none⟩) (Nat.le_refl _) _)
        clear hs hv hy hnn hq hY hR hcc hx rR rb
        go_wp2_with fail
        refine HSS.out.mono ?_
        rintro e w' ⟨rfl, rfl⟩
        go_wp2
        go_roundw
        case rel => exact ⟨i + 1, by omega, by go_num, nR.out, nb.out⟩
        case measure => simp [intOf]; omega
      | false =>
        have hv := hnn hq
        rw [hq] at hs
        obtain ⟨Y, hY⟩ : ∃ Y, h R = Y := ⟨_, rfl⟩
        rw [hY] at c0 hs
        have HSS := Lib.hid hs
        have nR : Hid (RowB wr w.heap.size z.size (fun l => if l < i + 1 then F l else zb z l)) := Lib.hid (rR.congr (fun l hl => by
          by_cases e : l = i
          · subst e; rw [if_neg (Nat.lt_irrefl _), if_pos (by omega), hv]
          · by_cases e' : l < i
            · rw [if_pos e', if_pos (by omega)]
            · rw [if_neg e', if_neg (by omega)]))
        clear hs hv hy hnn hq hY hR hcc hx rR
        go_wp2_with fail
        refine HSS.out.mono ?_
        rintro e w' ⟨rfl, rfl⟩
        go_wp2
        go_roundw
        case rel => exact ⟨i + 1, by omega, by go_num, nR.out, rb⟩
        case measure => simp [intOf]; omega
    · obtain rfl : i = z.size := by omega
      have hst := str_cells (W := wr) (g := w.heap.size) (n := z.size) (f := F) (cap := c) (fun l hl => by rw [(rR.2 l hl).1]; show _ = some (Value.int .u8 ((F l : Nat) : Int)); simp only [if_pos hl])
      have HY2 := HD
      obtain ⟨y, hy⟩ : ∃ y, strF z.size F = y := ⟨_, rfl⟩
      rw [hy] at hst HY2
      have HYY := Lib.hid HY2.out
      clear rR HY2 HD hy
      go_wp2
      go_ret
      exact ⟨ret_str HYY.out, rb⟩
theorem iSnd_any (z : ByteArray) (v u : Value) (n : Nat) (h : Nat → Int) (m : Nat) (j : Nat → Int) (w : World) (hv : IntsR w v n h) (hu : IntsR w u m j) (hn : n ≤ 1048576) (hm : m ≤ 1048576) (hz : z.size ≤ 1048576) :
    Calls Tryd.prog 37 #[.string z, v, u] w fun e w' => e = .returned (.bool (sndB z n h m j)) ∧ w = w' := by
  have h1 := fun w => bitsValid_any z w (by omega)
  have h2 := fun w h' => iSome_any v n h w h' hn
  have h3 := fun w h' => iJam_any u m j w h' hm
  have HV := Lib.hid hv
  have HU := Lib.hid hu
  have hB : sndB z n h m j = (bitsB z && (someB n h && jamB m j)) := rfl
  cases q1 : bitsB z with
  | false =>
    rw [q1, Bool.false_and] at hB
    rw [q1] at h1
    have HE := Lib.hid hB.symm
    have H1 := Lib.hid h1
    clear h1 h2 h3 hB q1 hv hu
    go_enter Tryd.func37, Tryd.ntmps37
    go_wp2_with fail
    refine (H1.out _).mono ?_
    rintro e w' ⟨rfl, rfl⟩
    go_wp2
    go_ret
    exact ⟨ret_bool HE.out, rfl⟩
  | true =>
    rw [q1, Bool.true_and] at hB
    rw [q1] at h1
    have H1 := Lib.hid h1
    cases q2 : someB n h with
    | false =>
      rw [q2, Bool.false_and] at hB
      rw [q2] at h2
      have HE := Lib.hid hB.symm
      have H2 := Lib.hid h2
      clear h1 h2 h3 hB q1 q2 hv hu
      go_enter Tryd.func37, Tryd.ntmps37
      go_wp2_with fail
      refine (H1.out _).mono ?_
      rintro e w' ⟨rfl, rfl⟩
      go_wp2_with fail
      refine (H2.out _ HV.out).mono ?_
      rintro e w' ⟨rfl, rfl⟩
      go_wp2
      go_ret
      exact ⟨ret_bool HE.out, rfl⟩
    | true =>
      rw [q2, Bool.true_and] at hB
      rw [q2] at h2
      have HE := Lib.hid hB.symm
      have H2 := Lib.hid h2
      have H3 := Lib.hid h3
      clear h1 h2 h3 hB q1 q2 hv hu
      go_enter Tryd.func37, Tryd.ntmps37
      go_wp2_with fail
      refine (H1.out _).mono ?_
      rintro e w' ⟨rfl, rfl⟩
      go_wp2_with fail
      refine (H2.out _ HV.out).mono ?_
      rintro e w' ⟨rfl, rfl⟩
      go_wp2_with fail
      refine (H3.out _ HU.out).mono ?_
      rintro e w' ⟨rfl, rfl⟩
      go_wp2
      go_ret
      exact ⟨ret_bool HE.out, rfl⟩
theorem sRdy_any (z : ByteArray) (v u : Value) (n : Nat) (h : Nat → Int) (m : Nat) (j : Nat → Int) (w : World) (hv : IntsR w v n h) (hu : IntsR w u m j) (hn : n ≤ 1048576) (hm : m ≤ 1048576) (hz : z.size ≤ 1048576) :
    Calls Tryd.prog 35 #[.string z, v, u] w fun e w' => e = .returned (.bool (sndB z n h m j)) ∧ w = w' := by
  have h1 := fun w => l1Bits_any z w (by omega)
  have h2 := fun w h' => sHops16_any v n h w h' hn
  have h3 := fun w h' => sJam_any u m j w h' hm
  have HV := Lib.hid hv
  have HU := Lib.hid hu
  have hB : sndB z n h m j = (bitsB z && ((decide (0 < n) && hopB n h 16) && jamB m j)) := rfl
  obtain ⟨a, cap, rfl, -⟩ := hv
  cases q1 : bitsB z with
  | false =>
    rw [q1, Bool.false_and] at hB
    rw [q1] at h1
    have HE := Lib.hid hB.symm
    have H1 := Lib.hid h1
    clear h1 h2 h3 hB q1 hu
    go_enter Tryd.func35, Tryd.ntmps35
    go_wp2_with fail
    refine (H1.out _).mono ?_
    rintro e w' ⟨rfl, rfl⟩
    go_wp2
    go_ret
    exact ⟨ret_bool HE.out, rfl⟩
  | true =>
    rw [q1, Bool.true_and] at hB
    rw [q1] at h1
    have H1 := Lib.hid h1
    cases q2 : hopB n h 16 with
    | false =>
      rw [q2, Bool.and_false, Bool.false_and] at hB
      rw [q2] at h2
      have HE := Lib.hid hB.symm
      have H2 := Lib.hid h2
      clear h1 h2 h3 hB q1 q2 hu
      go_enter Tryd.func35, Tryd.ntmps35
      go_wp2_with fail
      refine (H1.out _).mono ?_
      rintro e w' ⟨rfl, rfl⟩
      go_wp2_with fail
      refine (H2.out _ HV.out).mono ?_
      rintro e w' ⟨rfl, rfl⟩
      go_wp2
      go_ret
      exact ⟨ret_bool HE.out, rfl⟩
    | true =>
      rw [q2] at h2
      have H2 := Lib.hid h2
      by_cases h0 : 0 < n
      · rw [q2, decide_eq_true h0] at hB
        have HE : Hid (jamB m j = sndB z n h m j) := Lib.hid (by rw [hB]; rfl)
        have H3 := Lib.hid h3
        have l0 : (0 : Int) < (n : Int) := by omega
        clear h1 h2 h3 hB q1 q2 hu
        go_enter Tryd.func35, Tryd.ntmps35
        go_wp2_with fail
        refine (H1.out _).mono ?_
        rintro e w' ⟨rfl, rfl⟩
        go_wp2_with fail
        refine (H2.out _ HV.out).mono ?_
        rintro e w' ⟨rfl, rfl⟩
        go_wp2_with fail
        refine (H3.out _ HU.out).mono ?_
        rintro e w' ⟨rfl, rfl⟩
        go_wp2
        go_ret
        exact ⟨ret_bool HE.out, rfl⟩
      · rw [decide_eq_false h0, Bool.false_and, Bool.false_and] at hB
        have HE := Lib.hid hB.symm
        have l0 : ¬ ((0 : Int) < (n : Int)) := by omega
        clear h1 h2 h3 hB q1 q2 hu
        go_enter Tryd.func35, Tryd.ntmps35
        go_wp2_with fail
        refine (H1.out _).mono ?_
        rintro e w' ⟨rfl, rfl⟩
        go_wp2_with fail
        refine (H2.out _ HV.out).mono ?_
        rintro e w' ⟨rfl, rfl⟩
        go_wp2
        go_ret
        exact ⟨ret_bool HE.out, rfl⟩
theorem iSH_any (z : ByteArray) (v : Value) (n : Nat) (h : Nat → Int) (u : Value) (m : Nat) (j : Nat → Int) (w : World) (hz : z.size ≤ 1048576) (hv : IntsR w v n h) (hn : n ≤ 1048576) (hu : IntsR w u m j) (hm : m ≤ 1048576) :
    Calls Tryd.prog 22 #[.string z, v, u] w fun e w' => e = .returned (.tuple #[.string (sndV z n h m j), .bool (sndB z n h m j)]) ∧ Below w.heap.size w w' := by
  have h1 := fun w h1 h2 => iSnd_any z v u n h m j w h1 h2 hn hm hz
  have HV := Lib.hid hv
  have HU := Lib.hid hu
  unfold sndV
  cases hB : sndB z n h m j with
  | false =>
    rw [hB] at h1
    have H1 := Lib.hid h1
    clear h1 hB hv hu
    go_enter Tryd.func22, Tryd.ntmps22
    go_wp2_with fail
    refine (H1.out _ HV.out HU.out).mono ?_
    rintro e w' ⟨rfl, rfl⟩
    go_wp2
    go_ret2
    exact ⟨rfl, Below.refl _ _⟩
  | true =>
    rw [hB] at h1
    have H1 := Lib.hid h1
    obtain ⟨q1, q2, q3⟩ := (sndB_iff z n h m j).1 hB
    have z6 := bits_600 q1
    obtain ⟨n0, n3, -⟩ := (someB_iff n h).1 q2
    obtain ⟨m3, -⟩ := (jamB_iff m j).1 q3
    have HO := Lib.hid (open_slots v u n m h j w hv hu n3 m3)
    have HC := Lib.hid (fun b D w h1 h2 => copy_any z n 0 b (lostC h m j n) D h m j w h1 h2 n0 n3 (by omega) z6)
    obtain ⟨a, cap, rfl, -⟩ := hv
    obtain ⟨X, hX⟩ : ∃ X, cpS z n h m j 0 = X := ⟨_, rfl⟩
    rw [hX] at HC ⊢
    simp only [if_true]
    clear h1 hB hu q1 q2 q3 hX
    go_enter Tryd.func22, Tryd.ntmps22
    go_wp2_with fail
    refine (H1.out _ HV.out HU.out).mono ?_
    rintro e w' ⟨rfl, rfl⟩
    go_wp2_with fail
    refine HO.out.mono ?_
    rintro e w1 ⟨b, D, rfl, hown, hb, hM, hB1⟩
    have HCC := Lib.hid (HC.out b D w1 hown hM)
    clear HO HC hown hM hb
    go_wp2_with fail
    refine HCC.out.mono ?_
    rintro e w2 ⟨rfl, hB2⟩
    have b2 := below_then hB1 (Nat.le_refl _) hB2
    clear hB1 hB2
    go_wp2
    go_ret2
    exact ⟨rfl, b2⟩
theorem sSH_any (z : ByteArray) (v : Value) (n : Nat) (h : Nat → Int) (u : Value) (m : Nat) (j : Nat → Int) (w : World) (hz : z.size ≤ 1048576) (hv : IntsR w v n h) (hn : n ≤ 1048576) (hu : IntsR w u m j) (hm : m ≤ 1048576) :
    Calls Tryd.prog 23 #[.string z, v, u] w fun e w' => e = .returned (.tuple #[.string (sndV z n h m j), .bool (sndB z n h m j)]) ∧ Below w.heap.size w w' := by
  have h1 := fun w h1 h2 => sRdy_any z v u n h m j w h1 h2 hn hm hz
  have HV := Lib.hid hv
  have HU := Lib.hid hu
  unfold sndV
  cases hB : sndB z n h m j with
  | false =>
    rw [hB] at h1
    have H1 := Lib.hid h1
    clear h1 hB hv hu
    go_enter Tryd.func23, Tryd.ntmps23
    go_wp2_with fail
    refine (H1.out _ HV.out HU.out).mono ?_
    rintro e w' ⟨rfl, rfl⟩
    go_wp2
    go_ret2
    exact ⟨rfl, Below.refl _ _⟩
  | true =>
    rw [hB] at h1
    have H1 := Lib.hid h1
    obtain ⟨q1, q2, q3⟩ := (sndB_iff z n h m j).1 hB
    have z6 := bits_600 q1
    obtain ⟨n0, n3, -⟩ := (someB_iff n h).1 q2
    obtain ⟨m3, -⟩ := (jamB_iff m j).1 q3
    have HC := Lib.hid (fun w h1 h2 => sSend_any z v u n h m j 0 w h1 h2 n0 n3 m3 (by omega) z6)
    obtain ⟨X, hX⟩ : ∃ X, cpS z n h m j 0 = X := ⟨_, rfl⟩
    rw [hX] at HC ⊢
    simp only [if_true]
    clear h1 hB hu q1 q2 q3 hX hv
    go_enter Tryd.func23, Tryd.ntmps23
    go_wp2_with fail
    refine (H1.out _ HV.out HU.out).mono ?_
    rintro e w' ⟨rfl, rfl⟩
    go_wp2_with fail
    refine (HC.out _ HV.out HU.out).mono ?_
    rintro e w2 ⟨rfl, b2⟩
    go_wp2
    go_ret2
    exact ⟨rfl, b2⟩
end Go.Proofs.YtpacaelnmpdnhaaDoor
