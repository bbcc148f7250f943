/- Contracts of the draws of chapter 8: cells, cells that are sometimes none, targets. -/
import Derived.Test.YtjnipbopimpggabCelAdm
import Derived.Test.YtjnipbopimpggabDraw5
namespace Go.Proofs.Ytjnipbopimpggab
open Go.RowKit
set_option linter.unusedVariables false
set_option maxRecDepth 100000
theorem TxtAt.arr (w : World) (cs : Array Value) (T : TypeId) (n M : Nat) (h : ∀ i, i < n → ∃ z : ByteArray, cs[i]? = some (.string z) ∧ z.size ≤ M) : TxtAt (w.alloc (.cells cs T)) w.heap.size n M := by
  refine ⟨by simp, fun i hi => ?_⟩
  obtain ⟨z, h1, h2⟩ := h i hi
  refine ⟨z, ?_, h2⟩
  simp [h1]
theorem alloc_size (n : Nat) (f : Nat → ByteArray) (D : Int) : (allocAns n f D).1.size ≤ 6 := by
  unfold allocAns
  split
  · rename_i hu
    have hD := ((usedB_iff _ _ _).1 hu).2.1
    split
    · decide
    · rename_i hl
      show (LS (frL n f D.toNat (tw D.toNat)) 0).size ≤ 6
      have hm : LS (frL n f D.toNat (tw D.toNat)) 0 ∈ frL n f D.toNat (tw D.toNat) := by
        unfold LS
        rw [List.getD_eq_getElem?_getD, List.getElem?_eq_getElem (by omega)]
        exact List.getElem_mem _
      obtain ⟨l, hl'⟩ : ∃ l, frL n f D.toNat (tw D.toNat) = l := ⟨_, rfl⟩
      obtain ⟨y, hy⟩ : ∃ y, LS (frL n f D.toNat (tw D.toNat)) 0 = y := ⟨_, rfl⟩
      rw [hy] at hm ⊢
      unfold frL at hm
      simp at hm
      obtain ⟨i, _, rfl⟩ := hm
      have := ((pathB_iff _).1 (digS_path i D.toNat (by omega))).2
      exact this
  · decide
/-- A station that was drawn. -/
def DrT (u : Usr) : Prop := u.code.size ≤ 1000 ∧ u.data.size ≤ 1000 ∧ FitsI u.gain ∧ FitsI u.delay
theorem DrT.sz {n : Nat} {f : Nat → Usr} (h : ∀ i, i < n → DrT (f i)) : UsrSz n f := fun i hi => by have := h i hi; exact ⟨by have := this.1; omega, by have := this.2.1; omega⟩
theorem own_neT {w : World} {B b : Nat} {v : Value} {n : Nat} {f : Nat → Usr} (h : TF w B v n f) (hb : b < B) : v.ownBlock = none ∨ v.ownBlock ≠ some b := by
  cases hv : v.ownBlock with
  | none => exact .inl rfl
  | some q => right; intro e; cases e; have := (h.lt _ hv).1; omega
/-- Stations that were drawn. -/
def CelPost (b p M : Nat) (zs : List Int) (w : World) (e : Ending) (w' : World) : Prop :=
  ∃ (v : Value) (n : Nat) (f : Nat → Usr) (q : Nat), e = .returned v ∧ TF w' w.heap.size v n f ∧ n ≤ 8 ∧ (∀ i, i < n → DrT (f i)) ∧ q ≤ p + M ∧ RdAt w' b q zs ∧ w.grownBy w' (some b)
set_option maxHeartbeats 3200000 in
theorem l8Some_any (b p : Nat) (zs : List Int) (w : World) (hr : RdAt w b p zs) (hp : p ≤ 800000) :
    Calls Try.prog 56 #[.pointer (some ⟨b, 0, none⟩)] w (CelPost b p 500 zs w) := by
  have hbl := hr.1
  have hr0 := hr.alloc (.cells #[] 30)
  have hO := TF.empty0 w (fun _ => ⟨⟨#[]⟩, ⟨#[]⟩, 0, 0⟩)
  have hg0 := World.grownBy_alloc w (.cells #[] 30) (some b)
  clear hr
  go_enter Try.func56, Try.ntmps56
  go_wp2_with fail
  refine (pick_any b p 5 zs _ hr0 (by omega) (by omega) (by omega)).mono ?_
  rintro e w1 ⟨k, hk, rfl, hr1, hg1⟩
  have hO1 := hO.kept hg1 (.inr (by simp [Value.ownBlock]; omega))
  have hg1' := hg0.trans hg1
  clear hr0 hO hg0 hg1
  go_wp2
  go_loopw [3, 4] (fun v i wr => ∃ (j n q : Nat) (f : Nat → Usr), q + 110 * j ≤ p + 500 ∧ i = .int .i64 j ∧ TF wr w.heap.size v n f ∧ n ≤ 8 ∧ Hid (∀ t, t < n → DrT (f t)) ∧ RdAt wr b q zs ∧ w.grownBy wr (some b)) (fun _ i _ => (intOf i).toNat)
  case atStart => exact ⟨k, 0, p + 1, _, by omega, rfl, hO1, by omega, Lib.hid (fun t ht => absurd ht (Nat.not_lt_zero t)), hr1, hg1'⟩
  case round =>
    obtain ⟨j, n, q, f, hjq, rfl, rO, hn, rF, rR, rg⟩ := hrel
    clear hO1 hr1 hg1'
    have hnb := own_neT rO hbl
    by_cases h0 : 0 < j
    · go_wp2_with fail
      refine (of_any b q wr.heap.size 7 4 zs _ (rR.alloc _) (TxtAt.arr wr _ _ 7 4 (by
        intro i hi
        match i, hi with
        | 0, _ => exact ⟨_, rfl, by decide⟩
        | 1, _ => exact ⟨_, rfl, by decide⟩
        | 2, _ => exact ⟨_, rfl, by decide⟩
        | 3, _ => exact ⟨_, rfl, by decide⟩
        | 4, _ => exact ⟨_, rfl, by decide⟩
        | 5, _ => exact ⟨_, rfl, by decide⟩
        | 6, _ => exact ⟨_, rfl, by decide⟩)) rR.1 (by omega) (by omega) (by omega)).mono ?_
      rintro e w2 ⟨z, q2, rfl, hz, hq2, hr2, hg2⟩
      have O2 := (rO.alloc (.cells #[.string ⟨#[97]⟩, .string ⟨#[98]⟩, .string ⟨#[97, 98]⟩, .string ⟨#[99]⟩, .string ⟨#[108, 111, 110, 103]⟩, .string ⟨#[120]⟩, .string ⟨#[121]⟩] 9)).kept hg2 hnb
      have g2 := (rg.trans (World.grownBy_alloc wr (.cells #[.string ⟨#[97]⟩, .string ⟨#[98]⟩, .string ⟨#[97, 98]⟩, .string ⟨#[99]⟩, .string ⟨#[108, 111, 110, 103]⟩, .string ⟨#[120]⟩, .string ⟨#[121]⟩] 9) (some b))).trans hg2
      clear rR rO rg hg2
      go_wp2_with fail
      refine (pick_any b q2 4 zs _ hr2 (by omega) (by omega) (by omega)).mono ?_
      rintro e w3 ⟨k3, hk3, rfl, hr3, hg3⟩
      have O3 := O2.kept hg3 hnb
      have g3 := g2.trans hg3
      clear hr2 O2 g2 hg3
      go_wp2_with fail
      refine (pick_any b (q2 + 1) 6 zs _ hr3 (by omega) (by omega) (by omega)).mono ?_
      rintro e w4 ⟨k4, hk4, rfl, hr4, hg4⟩
      have O4 := O3.kept hg4 hnb
      have g4 := g3.trans hg4
      clear hr3 O3 g3 hg4
      have hsz := DrT.sz rF.out
      have HA := Lib.hid (sAdm_any u3 n f z (1 + (k3 : Int)) (1 + (k4 : Int)) w4 O4.stationsC (by omega) hsz (by omega))
      have hB : adB n f z (1 + (k3 : Int)) (1 + (k4 : Int)) = true → n < 8 := fun h => by
        unfold adB at h
        rw [Bool.and_eq_true, adP_iff] at h
        exact h.1.2.1
      have hsize := alloc_size n (pthF f) (1 + (k3 : Int))
      have hFn : ∀ i, i < n + 1 → adF n f z (1 + (k3 : Int)) (1 + (k4 : Int)) i = if i < n then f i else ⟨z, (allocAns n (pthF f) (1 + (k3 : Int))).1, 1, 1 + (k4 : Int)⟩ := fun i _ => rfl
      unfold adN at HA
      obtain ⟨K, hK⟩ : ∃ K, adB n f z (1 + (k3 : Int)) (1 + (k4 : Int)) = K := ⟨_, rfl⟩
      rw [hK] at HA hB
      obtain ⟨G, hG⟩ : ∃ G, adF n f z (1 + (k3 : Int)) (1 + (k4 : Int)) = G := ⟨_, rfl⟩
      rw [hG] at HA hFn
      obtain ⟨P, hP⟩ : ∃ G, (allocAns n (pthF f) (1 + (k3 : Int))).1 = G := ⟨_, rfl⟩
      rw [hP] at hFn hsize
      have HG : Hid (∀ i, i < n + 1 → DrT (G i)) := Lib.hid (fun i hi => by
        rw [hFn i hi]
        by_cases e : i < n
        · rw [if_pos e]; exact rF.out i e
        · rw [if_neg e]
          exact ⟨by show z.size ≤ 1000; omega, by show P.size ≤ 1000; omega, by show FitsI 1; unfold FitsI; omega, by show FitsI (1 + (k4 : Int)); unfold FitsI; omega⟩)
      clear hK hG hP hFn hsize hsz
      go_wp2_with fail
      refine HA.out.mono ?_
      clear HA
      rintro e w5 ⟨v5, rfl, O5, nb5⟩
      have hr5 := hr4.below nb5
      have g5 : w.grownBy w5 (some b) := grown_own g4 (grown_of_below nb5) (fun q e => by cases e)
      have hsw : w.heap.size ≤ w4.heap.size := g4.size
      cases K with
      | false =>
        have O6 := O4.below nb5
        clear O4 O5 nb5 HG g4 hr4
        go_wp2
        go_roundw
        case rel => exact ⟨j - 1, n, q2 + 1 + 1, f, by omega, by rw [show ((j - 1 : Nat) : Int) = (j : Int) - 1 by omega], O6, hn, rF, hr5, g5⟩
        case measure => simp [intOf]; omega
      | true =>
        have n8 := hB rfl
        rw [if_pos rfl] at O5
        have O6 := O5.mono hsw
        obtain ⟨a6, c6, rfl, hg6⟩ := O6.form
        obtain ⟨g, rfl, hgB, hgl⟩ := hg6 (by omega)
        clear O4 O5 nb5 g4 hr4 hg6 rF
        go_wp2_with fail
        refine (pick_any b (q2 + 1 + 1) 30 zs _ hr5 (by omega) (by omega) (by omega)).mono ?_
        rintro e w7 ⟨y, hy, rfl, hr7, hg7⟩
        have O7 := O6.kept hg7 (own_neT O6 hbl)
        have g7 := g5.trans hg7
        obtain ⟨-, -, d2, -⟩ := O7.cells n (by omega)
        have fr := O7.free
        have O8 := Lib.hid (O7.set2 n (y : Int))
        have one : w7.grownBy (w7.setCell ⟨g, n * 4 + 2, none⟩ (.int .i64 (y : Int))) (some g) := ⟨rfl, rfl, rfl, by simp, fun k hk hne => Below.heap_setCell _ _ _ _ (fun e => hne (by rw [e]))⟩
        have g8 := Lib.hid (grown_own g7 one (fun q e => by cases e; exact hgB))
        have hr8 := Lib.hid (hr7.kept one (fun q e => by cases e; omega))
        have HG2 : Hid (∀ i, i < n + 1 → DrT (upU G n ⟨(G n).code, (G n).data, (y : Int), (G n).delay⟩ i)) := Lib.hid (fun i hi => by
          by_cases e : i = n
          · rw [e, upU_eq]
            obtain ⟨h1, h2, _, h4⟩ := HG.out n (by omega)
            exact ⟨h1, h2, by show FitsI (y : Int); unfold FitsI; omega, h4⟩
          · rw [upU_ne e]; exact HG.out i hi)
        clear O6 O7 one g7 hr7 hg7 hr5 g5 HG
        have e1 : ((n + 1 : Nat) : Int) - 1 = (n : Int) := by omega
        go_wp2
        go_roundw
        case rel => exact ⟨j - 1, n + 1, q2 + 1 + 1 + 1, _, by omega, by rw [show ((j - 1 : Nat) : Int) = (j : Int) - 1 by omega], O8.out, by omega, HG2, hr8.out, g8.out⟩
        case measure => simp [intOf]; omega
    · obtain rfl : j = 0 := by omega
      have HFF := Lib.hid rF.out
      clear rF
      go_wp2
      go_ret
      exact ⟨_, n, f, q, rfl, rO, hn, HFF.out, by omega, rR, rg⟩
end Go.Proofs.Ytjnipbopimpggab
