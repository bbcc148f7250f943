/- Plain mathematics: registers made of bits have them; enough bits tell all further ones. -/
import Derived.Test.YtmlmpekhcnjehaaRegSeq
import Derived.Test.YtmlmpekhcnjehaaRegShort
namespace Go.Proofs.Ytmlmpekhcnjehaa
open Go.RowKit
set_option linter.unusedVariables false
theorem valN_bit : ∀ (l : List UInt8) (i : Nat) (h : i < l.length), AllBits l → bitN (valN l) i = l[i].toNat - 48
  | c :: r, 0, _, ha => by
    have h2 := ha c (List.mem_cons_self ..)
    rw [bitN_zero]; simp only [valN, List.getElem_cons_zero]; omega
  | c :: r, i + 1, h, ha => by
    have h2 := ha c (List.mem_cons_self ..)
    rw [← bitN_half]
    have e : valN (c :: r) / 2 = valN r := by simp only [valN]; omega
    rw [e, List.getElem_cons_succ]
    exact valN_bit r i _ (fun d hd => ha d (List.mem_cons_of_mem _ hd))
theorem take_all (z : ByteArray) : z.data.toList.take z.size = z.data.toList := List.take_of_length_le (Nat.le_refl _)
theorem val_bit {z : ByteArray} {s i : Nat} (hs : s ≤ z.size) (hi : i < s) (hb : okB z s = true) : bitN (valX z s) i = zb z i - 48 := by
  have hl : z.data.toList.length = z.size := rfl
  have hi2 : i < (z.data.toList.take s).length := by rw [List.length_take]; omega
  unfold valX
  rw [valN_bit _ i hi2 (allBits_of z s hs hb), List.getElem_take]
  have h1 := zb_at z i (by omega)
  rw [← h1]; rfl
theorem valX_all (z : ByteArray) : valX z z.size = valN z.data.toList := by unfold valX; rw [take_all]
theorem zb_run {s t x n i : Nat} (h : i < n) : zb (runS s t x n) i = 48 + stepsN s t i x % 2 := zb_strF h (by omega)
theorem run_from {s t : Nat} {z : ByteArray} (hz : z.size = s) (hb : bitsB z = true) : runS s t (valN z.data.toList) s = z := by
  have hok : okB z z.size = true := by unfold bitsB at hb; simp only [Bool.and_eq_true] at hb; exact hb.1
  subst hz
  refine ba_ext (runS_size _ _ _ _) fun i hi => ?_
  rw [runS_size] at hi
  rw [zb_run hi, first_bit i hi, ← valX_all, val_bit (Nat.le_refl _) hi hok]
  have := okB_zb z hok i hi
  omega
theorem okB_run (s t x n : Nat) : okB (runS s t x n) (runS s t x n).size = true := okB_of_zb _ fun i hi => by
  rw [runS_size] at hi
  rw [zb_run hi]; omega
theorem valX_run {s t x n : Nat} (h : RegN s t x) (hn : s ≤ n) : valX (runS s t x n) s = x := by
  have hsz := runS_size s t x n
  have hok := okB_less _ s _ (by omega) (Nat.le_refl _) (okB_run s t x n)
  have hlt : valX (runS s t x n) s < tw s := by
    have := valN_lt _ (allBits_of _ s (by omega) hok)
    rw [List.length_take, show (runS s t x n).data.toList.length = (runS s t x n).size from rfl, Nat.min_eq_left (by omega)] at this
    exact this
  refine eq_of_bits s _ _ hlt h.lt fun j hj => ?_
  rw [val_bit (by omega) hj hok, zb_run (by omega), first_bit j hj]
  omega
theorem okS_run {s t x n : Nat} (h8 : 8 ≤ n) (h64 : n ≤ 64) : okS (runS s t x n) = true := by
  have hsz := runS_size s t x n
  refine (okS_iff _).2 ⟨?_, by omega, by omega⟩
  unfold bitsB
  rw [okB_run, decide_eq_true (by omega)]; rfl
theorem hit_self {s t x n : Nat} (h : RegN s t x) (hn : s ≤ n) : hitB (runS s t x n) s t = true := by
  unfold hitB
  rw [valX_run h hn, runS_size]
  exact decide_eq_true rfl
/-- What the shortest register with the first 16 bits of one is. -/
theorem predict {s t x : Nat} (h : RegN s t x) {a : RegAns} (ha : ShA (runS s t x 16) a) :
    ∃ s' t' x' : Nat, a = ⟨s', t', x', true⟩ ∧ RegN s' t' x' ∧ s' ≤ s ∧ runS s' t' x' 64 = runS s t x 64 := by
  have h8 := h.hi
  rcases ha with ⟨hok, ha⟩ | ⟨h0, -⟩
  · rcases ha with ⟨s', t', a1, a2, a3, a4, am, ah, rfl⟩ | ⟨hm, -⟩
    · have hR := short_reg hok a1 a2 a3 a4
      refine ⟨s', t', valX (runS s t x 16) s', rfl, hR, ?_, ?_⟩
      · refine Classical.byContradiction fun hn => ?_
        have := am s t h.lo h.hi h.tap h.tapLt (by omega)
        rw [hit_self h (by omega)] at this; cases this
      · unfold hitB at ah
        have e := of_decide_eq_true ah
        rw [runS_size] at e
        have hs := reg_same hR h (fun k hk => by
          have e2 : zb (runS s' t' (valX (runS s t x 16) s') 16) k = zb (runS s t x 16) k := by rw [e]
          rw [zb_run (by omega), zb_run (by omega)] at e2
          omega)
        refine ba_ext (by rw [runS_size, runS_size]) fun i hi => ?_
        rw [runS_size] at hi
        rw [zb_run hi, zb_run hi, hs i]
    · have := hm s t h.lo h.hi h.tap h.tapLt (by omega)
      rw [hit_self h (by omega)] at this; cases this
  · rw [okS_run (by omega) (by omega)] at h0; cases h0
theorem sh_none {z : ByteArray} {a0 a1 a2 : Int} (h : ShA z ⟨a0, a1, a2, false⟩) : (⟨a0, a1, a2, false⟩ : RegAns) = noReg := by
  rcases h with ⟨hok, ha⟩ | ⟨h0, e⟩
  · rcases ha with ⟨s, t, b1, b2, b3, b4, bm, bh, e⟩ | ⟨hm, e⟩
    · injection e with _ _ _ e; cases e
    · exact e
  · exact e
theorem sh_some {z : ByteArray} {a0 a1 a2 : Int} (h : ShA z ⟨a0, a1, a2, true⟩) : ∃ s t x : Nat, a0 = s ∧ a1 = t ∧ a2 = x ∧ RegN s t x ∧ okS z = true ∧ Miss z s t ∧ runS s t x z.size = z := by
  rcases h with ⟨hok, ha⟩ | ⟨h0, e⟩
  · rcases ha with ⟨s, t, b1, b2, b3, b4, bm, bh, e⟩ | ⟨hm, e⟩
    · injection e with e0 e1 e2 _
      exact ⟨s, t, valX z s, e0, e1, e2, short_reg hok b1 b2 b3 b4, hok, bm, of_decide_eq_true bh⟩
    · injection e with _ _ _ e; cases e
  · injection e with _ _ _ e; cases e
end Go.Proofs.Ytmlmpekhcnjehaa
