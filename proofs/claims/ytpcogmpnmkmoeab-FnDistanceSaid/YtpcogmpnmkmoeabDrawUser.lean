/- Contracts of the draws of codes. -/
import Derived.Test.YtpcogmpnmkmoeabDrawSig2
import Derived.Test.YtpcogmpnmkmoeabGoldS
import Derived.Test.YtpcogmpnmkmoeabWalS
import Derived.Test.YtpcogmpnmkmoeabSig10
namespace Go.Proofs.Ytpcogmpnmkmoeab
open Go.RowKit
set_option linter.unusedVariables false
set_option maxRecDepth 100000
theorem goldS_size {S a b k : Int} (ha : tapsB S a = true) (hb : tapsB S b = true) : 1 ≤ (goldS S a b k).size ∧ (goldS S a b k).size ≤ 255 := by
  have h1 := (seqB_iff _).1 (perS_seq ha)
  have h2 := (seqB_iff _).1 (perS_seq hb)
  unfold goldS
  split
  · exact h1.2
  · split
    · exact h2.2
    · rw [addS_size]; exact h1.2
theorem goldS_ok {S a b k : Int} (ha : tapsB S a = true) (hb : tapsB S b = true) : okB (goldS S a b k) (goldS S a b k).size = true := by
  have h1 := (seqB_iff _).1 (perS_seq ha)
  have h2 := (seqB_iff _).1 (perS_seq hb)
  unfold goldS
  split
  · exact h1.1
  · split
    · exact h2.1
    · exact addS_ok _ _
theorem walshB_ok (n i : Nat) : okB (walshB n i) (walshB n i).size = true := okB_of_zb _ fun k hk => by
  rw [walshB_size] at hk
  have := walF_lt i k
  unfold walshB
  rw [zb_strF hk (by omega)]
  omega
theorem walshB_seq (n i : Nat) (h1 : 1 ≤ n) (h2 : n ≤ 255) : seqB (walshB n i) = true := (seqB_iff _).2 ⟨walshB_ok n i, by rw [walshB_size]; exact h1, by rw [walshB_size]; exact h2⟩
theorem goldS_seq {S a b k : Int} (ha : tapsB S a = true) (hb : tapsB S b = true) : seqB (goldS S a b k) = true := (seqB_iff _).2 ⟨goldS_ok ha hb, goldS_size ha hb⟩
theorem taps33 : tapsB 3 3 = true := by decide
theorem taps35 : tapsB 3 5 = true := by decide
set_option maxHeartbeats 1600000 in
set_option maxRecDepth 100000 in
theorem l2Bad_big (b p : Nat) (zs : List Int) (z : ByteArray) (w : World) (hr : RdAt w b p zs) (hp : p ≤ 800000) (hz : z.size ≤ 900) :
    Calls Try.prog 88 #[.pointer (some ⟨b, 0, none⟩), .string z] w (fun e w' => ∃ (z : ByteArray) (q : Nat), e = .returned (.string z) ∧ z.size ≤ 1000 ∧ q ≤ p + 300 ∧ RdAt w' b q zs ∧ w.grownBy w' (some b)) := by
  have hbl := hr.1
  go_enter Try.func88, Try.ntmps88
  go_wp2_with fail
  refine (pick_any b p 40 zs _ hr (by omega) (by omega) (by omega)).mono ?_
  rintro e w1 ⟨k, hk, rfl, hr1, hg1⟩
  clear hr
  by_cases k0 : k = 0
  · subst k0
    clear hk
    go_wp2_with fail
    refine (of_any b (p + 1) w1.heap.size 3 1 zs _ (hr1.alloc _) (TxtAt.three w1 _) hr1.1 (by omega) (by omega) (by omega)).mono ?_
    rintro e w2 ⟨y, q, rfl, hy, hq, hr2, hg2⟩
    have hg2' := hg1.trans ((World.grownBy_alloc w1 _ (some b)).trans hg2)
    have hzs : z.size + y.size ≤ 9223372036854775807 := by omega
    have HZ : Hid ((z ++ y).size ≤ 1000) := Lib.hid (by rw [ByteArray.size_append]; omega)
    clear hr1 hg1 hg2
    go_wp2
    go_ret
    exact ⟨_, q, rfl, HZ.out, by omega, hr2, hg2'⟩
  by_cases k1 : k = 1
  · subst k1
    clear hk k0
    go_wp2
    go_ret
    exact ⟨⟨#[]⟩, p + 1, rfl, by decide, by omega, hr1, hg1⟩
  by_cases k2 : k = 2
  · subst k2
    clear hk k0 k1
    go_wp2_with fail
    refine (num_any b (p + 1) zs _ w1.heap.size 2 [255, 256] (hr1.alloc _) (IntsAt.new w1 _ [255, 256]) rfl hr1.1 (by omega) (by omega) (by omega)).mono ?_
    rintro e w2 ⟨v, hv, rfl, hr2, hg2⟩
    obtain ⟨s, rfl, hs5⟩ : ∃ s : Nat, v = s ∧ s ≤ 256 := by
      simp only [List.mem_cons, List.not_mem_nil, or_false] at hv
      exact ⟨v.toNat, by omega, by omega⟩
    have hg2' := hg1.trans ((World.grownBy_alloc w1 _ (some b)).trans hg2)
    have hM := fun w => l9Many_any ⟨#[49]⟩ s w (by show 1 * s ≤ _; omega) (by omega)
    have hsz := many_one_size s
    obtain ⟨Z, hZ⟩ : ∃ Z, many ⟨#[49]⟩ s = Z := ⟨_, rfl⟩
    rw [hZ] at hM hsz
    have HM := Lib.hid hM
    have HZ := Lib.hid (show Z.size ≤ 1000 by omega)
    clear hv hr1 hg1 hg2 hM hsz hZ
    go_wp2_with fail
    refine (HM.out _).mono ?_
    rintro e w' ⟨rfl, rfl⟩
    go_wp2
    go_ret
    exact ⟨Z, p + 1 + 1, rfl, HZ.out, by omega, hr2, hg2'⟩
  · have e0 : ((k : Int) == 0) = false := by simp; omega
    have e1 : ((k : Int) == 1) = false := by simp; omega
    have e2 : ((k : Int) == 2) = false := by simp; omega
    go_wp2
    go_ret
    exact ⟨z, p + 1, rfl, by omega, by omega, hr1, hg1⟩
/-- A string of at most m bytes was drawn. -/
def CodePost (m b p : Nat) (zs : List Int) (w : World) (e : Ending) (w' : World) : Prop := ∃ (z : ByteArray) (q : Nat), e = .returned (.string z) ∧ z.size ≤ m ∧ q ≤ p + 300 ∧ RdAt w' b q zs ∧ w.grownBy w' (some b)
end Go.Proofs.Ytpcogmpnmkmoeab
