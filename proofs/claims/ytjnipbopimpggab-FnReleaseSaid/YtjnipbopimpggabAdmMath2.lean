/- A cell with a new station is a cell: the mathematics of FnAdmitRelease. -/
import Derived.Test.YtjnipbopimpggabAdmMath
import Derived.Test.YtjnipbopimpggabCelRel
namespace Go.Proofs.Ytjnipbopimpggab
open Go.RowKit
set_option linter.unusedVariables false
theorem alloc_of {n : Nat} {F : Nat → ByteArray} {D : Int} (h : (allocAns n F D).2 = true) : 0 ≤ D ∧ D ≤ 6 ∧ ((allocAns n F D).1.size : Int) = D ∧ pathB (allocAns n F D).1 = true ∧ freeB n F (allocAns n F D).1 = true := by
  unfold allocAns at h ⊢
  cases hu : usedB n F D with
  | false => rw [hu] at h; cases h
  | true =>
    have hD := ((usedB_iff _ _ _).1 hu).2.1
    rw [hu] at h
    simp only [if_true] at h ⊢
    split at h
    · cases h
    · rename_i hl
      rw [if_neg hl]
      show 0 ≤ D ∧ D ≤ 6 ∧ ((LS (frL n F D.toNat (tw D.toNat)) 0).size : Int) = D ∧ pathB (LS (frL n F D.toNat (tw D.toNat)) 0) = true ∧ freeB n F (LS (frL n F D.toNat (tw D.toNat)) 0) = true
      have hm : LS (frL n F D.toNat (tw D.toNat)) 0 ∈ frL n F D.toNat (tw D.toNat) := by
        unfold LS
        rw [List.getD_eq_getElem?_getD, List.getElem?_eq_getElem (by omega)]
        exact List.getElem_mem _
      obtain ⟨y, hy⟩ : ∃ y, LS (frL n F D.toNat (tw D.toNat)) 0 = y := ⟨_, rfl⟩
      rw [hy] at hm ⊢
      unfold frL at hm
      simp at hm
      obtain ⟨i, ⟨_, hfr⟩, rfl⟩ := hm
      refine ⟨hD.1, hD.2, ?_, digS_path i D.toNat (by omega), hfr⟩
      rw [digS_size]; omega
theorem freeB_at {n : Nat} {F : Nat → ByteArray} {p : ByteArray} (h : freeB n F p = true) (j : Nat) (hj : j < n) : confB p (F j) = false := by
  unfold freeB at h
  have := List.all_eq_true.1 h j (List.mem_range.2 hj)
  simpa using this
theorem freeN_congr {f g : Nat → Usr} {i : Nat} (hi : f i = g i) : ∀ m, (∀ j, j < m → f j = g j) → freeN f i m = freeN g i m
  | 0, _ => rfl
  | m + 1, h => by simp only [freeN]; rw [freeN_congr hi m (fun j hj => h j (by omega)), h m (by omega), hi]
theorem celN_congr {f g : Nat → Usr} : ∀ n, (∀ j, j < n → f j = g j) → celN f n = celN g n
  | 0, _ => rfl
  | n + 1, h => by simp only [celN]; rw [celN_congr n (fun j hj => h j (by omega)), h n (by omega), freeN_congr (h n (by omega)) n (fun j hj => h j (by omega))]
theorem freeN_of {f : Nat → Usr} {i : Nat} : ∀ m, (∀ j, j < m → clashB (f j) (f i) = false) → freeN f i m = true
  | 0, _ => rfl
  | m + 1, h => by simp only [freeN]; rw [freeN_of m (fun j hj => h j (by omega)), h m (by omega)]; rfl
theorem ad_parts {n : Nat} {f : Nat → Usr} {z : ByteArray} {D L : Int} (h : adB n f z D L = true) : cellB n f = true ∧ n < 8 ∧ nameB z = true ∧ ixN n f z < 0 ∧ losB L = true ∧ (allocAns n (pthF f) D).2 = true := by
  unfold adB at h
  rw [Bool.and_eq_true, adP_iff] at h
  exact ⟨h.1.1, h.1.2.1, h.1.2.2.1, h.1.2.2.2.1, h.1.2.2.2.2, h.2⟩
theorem adF_lt {n : Nat} {f : Nat → Usr} {z : ByteArray} {D L : Int} {i : Nat} (h : i < n) : adF n f z D L i = f i := if_pos h
theorem adF_new {n : Nat} {f : Nat → Usr} {z : ByteArray} {D L : Int} : adF n f z D L n = ⟨z, (allocAns n (pthF f) D).1, 1, L⟩ := if_neg (Nat.lt_irrefl n)
theorem ad_cell {n : Nat} {f : Nat → Usr} {z : ByteArray} {D L : Int} (h : adB n f z D L = true) : cellB (n + 1) (adF n f z D L) = true := by
  obtain ⟨h1, h2, h3, h4, h5, h6⟩ := ad_parts h
  obtain ⟨d0, d1, hs, hp, hfr⟩ := alloc_of h6
  obtain ⟨l0, l1⟩ := (los_iff L).1 h5
  unfold cellB at h1 ⊢
  simp only [Bool.and_eq_true, decide_eq_true_eq] at h1
  have hst : (adF n f z D L n).stn = true := by
    rw [adF_new]
    exact (stnB_iff _ _ _ _).2 ⟨h3, hp, by show (0:Int) ≤ 1; decide, by show (1:Int) ≤ 1000; decide, l0, l1⟩
  have hfree : freeN (adF n f z D L) n n = true := freeN_of n (fun j hj => by
    rw [adF_lt hj, adF_new]
    have hk := (ix_neg f z n 0).1 h4 j (by omega) (by omega)
    have hc := freeB_at hfr j hj
    have hpj := ((stnB_iff _ _ _ _).1 (celN_at n h1.1 hj)).2.1
    have hcf : confB (allocAns n (pthF f) D).1 (pthF f j) = begB (allocAns n (pthF f) D).1 (f j).data := by
      unfold confB; rw [hp]; show (pathB (f j).data && begB _ _) = _; rw [hpj]; rfl
    rw [hcf] at hc
    unfold clashB
    rw [hk, begB_comm, hc]; rfl)
  simp only [celN]
  rw [celN_congr n (fun j hj => adF_lt hj), h1.1, hst, hfree, decide_eq_true (by omega)]; rfl
theorem ix_cut {f g : Nat → Usr} {z : ByteArray} : ∀ d k, (∀ i, k ≤ i → i < k + d → f i = g i) → ixI f z k d = ixI g z k d
  | 0, _, _ => rfl
  | d + 1, k, h => by
    simp only [ixI]
    rw [h k (by omega) (by omega), ix_cut d (k + 1) (fun i h1 h2 => h i (by omega) (by omega))]
theorem ix_last {f : Nat → Usr} {z : ByteArray} : ∀ d k, ixI f z k d < 0 → ((f (k + d)).code.toList == z.toList) = true → ixI f z k (d + 1) = ((k + d : Nat) : Int)
  | 0, k, _, h => by
    have h' : ((f k).code.toList == z.toList) = true := h
    have := ix_hit (d := 1) h' (by omega)
    exact this
  | d + 1, k, h, h2 => by
    cases hq : ((f k).code.toList == z.toList) with
    | true => rw [ix_hit hq (by omega)] at h; omega
    | false =>
      rw [ix_step hq] at h ⊢
      have := ix_last d (k + 1) h (by rw [show k + 1 + d = k + (d + 1) by omega]; exact h2)
      rw [this]; omega
theorem ad_index {n : Nat} {f : Nat → Usr} {z : ByteArray} {D L : Int} (h : adB n f z D L = true) : ixN (n + 1) (adF n f z D L) z = (n : Int) := by
  obtain ⟨h1, h2, h3, h4, h5, h6⟩ := ad_parts h
  unfold ixN at h4 ⊢
  have e : ixI (adF n f z D L) z 0 n < 0 := by rw [ix_cut n 0 (fun i _ hi => adF_lt (by omega))]; exact h4
  rw [ix_last n 0 e (by rw [Nat.zero_add, adF_new]; exact beq_self_eq_true _), Nat.zero_add]
theorem ad_released {n : Nat} {f : Nat → Usr} {z : ByteArray} {D L : Int} (h : adB n f z D L = true) : rlB (n + 1) (adF n f z D L) z = true := by
  unfold rlB; rw [ad_cell h, ad_index h]; simp
theorem ad_back {n : Nat} {f : Nat → Usr} {z : ByteArray} {D L : Int} (h : adB n f z D L = true) : ∀ i, i < n → rlF (n + 1) (adF n f z D L) z i = f i := fun i hi => by
  unfold rlF cutU
  rw [ad_index h, Int.toNat_natCast, if_pos hi, adF_lt hi]
theorem ad_twice {n : Nat} {f : Nat → Usr} {z : ByteArray} {D L : Int} (h : adB n f z D L = true) : adB (n + 1) (adF n f z D L) z D L = false :=
  ad_no (fun x => by have := x.2.2.2.1; rw [ad_index h] at this; omega)
theorem adF_sz {n : Nat} {f : Nat → Usr} {z : ByteArray} {D L : Int} (h : UsrSz n f) (hz : z.size ≤ 1048576) (hD : (allocAns n (pthF f) D).1.size ≤ 6) : UsrSz (n + 1) (adF n f z D L) := fun i hi => by
  by_cases e : i < n
  · rw [adF_lt e]; exact h i e
  · obtain rfl : i = n := by omega
    rw [adF_new]; exact ⟨hz, by show (allocAns i (pthF f) D).1.size ≤ _; omega⟩
end Go.Proofs.Ytjnipbopimpggab
