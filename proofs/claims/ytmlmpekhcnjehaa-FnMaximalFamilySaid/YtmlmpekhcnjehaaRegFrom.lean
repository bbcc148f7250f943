/- RegisterFrom of both sides, and the walk of its exact law. -/
import Derived.Test.YtmlmpekhcnjehaaRegBits
import Derived.Test.YtmlmpekhcnjehaaRegJump
namespace Go.Proofs.Ytmlmpekhcnjehaa
open Go.RowKit
/-- The number whose binary digits are the bits of a text, the lowest one first. -/
def valN : List UInt8 → Nat
  | [] => 0
  | c :: r => (c.toNat - 48) + 2 * valN r
def AllBits (l : List UInt8) : Prop := ∀ c ∈ l, c.toNat = 48 ∨ c.toNat = 49
theorem valN_snoc (c : UInt8) : ∀ l, valN (l ++ [c]) = valN l + (c.toNat - 48) * tw l.length
  | [] => by simp [valN, tw]
  | d :: r => by
    simp only [List.cons_append, valN, List.length_cons, tw_succ]
    rw [valN_snoc c r, Nat.mul_add, ← Nat.mul_assoc, Nat.mul_comm 2 (c.toNat - 48), Nat.mul_assoc]
    omega
theorem valN_lt : ∀ l, AllBits l → valN l < tw l.length
  | [], _ => by simp [valN, tw]
  | c :: r, h => by
    have h1 := valN_lt r (fun d hd => h d (List.mem_cons_of_mem _ hd))
    have h2 := h c (List.mem_cons_self ..)
    simp only [valN, List.length_cons, tw_succ]
    omega
theorem allBits_of (s : ByteArray) : ∀ n, n ≤ s.size → okB s n = true → AllBits (s.data.toList.take n) := by
  intro n _ h c hc
  unfold okB at h
  rw [List.all_eq_true] at h
  have := h c hc
  simp only [Bool.or_eq_true, beq_iff_eq] at this
  rcases this with rfl | rfl
  · left; rfl
  · right; rfl
/-- What a round on the bit n turns: the sums, each by its own name. -/
theorem from_value (z : ByteArray) (n : Nat) (hn : n < z.size) (h8 : n < 8) (hok : okB z (n + 1) = true) : ∃ B P V' : Nat, V' = valN (z.data.toList.take (n + 1)) ∧
    IntKind.u8.wrap (((z[n].toNat : Nat) : Int) - 48) = B ∧ IntKind.i64.wrap (B : Int) = B ∧ IntKind.i64.wrap ((B : Int) * 2 ^ n) = P ∧ bits .or .i64 ((valN (z.data.toList.take n) : Nat) : Int) (P : Int) = V' := by
  have ha := allBits_of z (n + 1) (by omega) hok
  have hs := take_snoc' z n hn
  have hc : z[n].toNat = 48 ∨ z[n].toNat = 49 := ha z[n] (by rw [hs]; simp)
  have ha' : AllBits (z.data.toList.take n) := fun c hc' => ha c (by rw [hs]; exact List.mem_append_left _ hc')
  have hlen : (z.data.toList.take n).length = n := by rw [List.length_take]; have : z.data.toList.length = z.size := rfl; omega
  have hv := valN_lt _ ha'
  rw [hlen] at hv
  have ht := tw_le n (by omega)
  have hP : (z[n].toNat - 48) * tw n ≤ 1 * tw n := Nat.mul_le_mul_right _ (by omega)
  refine ⟨z[n].toNat - 48, (z[n].toNat - 48) * tw n, _, rfl, ?_, ?_, ?_, ?_⟩
  · rw [show ((z[n].toNat : Nat) : Int) - 48 = ((z[n].toNat - 48 : Nat) : Int) by omega]; exact IntWalk.u8_in _ (by omega)
  · exact IntWalk.i64_in _ (by omega)
  · rw [int_tw, ← Int.natCast_mul]; exact IntWalk.i64_in _ (by omega)
  · rw [or64 _ _ (by omega) (by omega), hs, valN_snoc, hlen, Nat.or_comm, nat_join n _ _ (by rw [show tw n = 2 ^ n from rfl]; exact Nat.mul_mod_left _ _) (by simpa [tw] using hv), Nat.add_comm]
theorem okB_less (s : ByteArray) (k n : Nat) (h : k ≤ n) (hn : n ≤ s.size) (hok : okB s n = true) : okB s k = true := by
  cases hk : okB s k with
  | true => rfl
  | false =>
    have := okB_mono s (n - k) k (by omega) hk
    rw [show k + (n - k) = n by omega, hok] at this; cases this
theorem two_new' (w : World) (t : TypeId) (S T X : Int) : ∃ W, Below w.heap.size w W ∧ RegAt W w.heap.size 0 0 0 ∧ RegAt W (w.heap.size + 1) S T X ∧ (∀ o, W.frozen? ⟨w.heap.size, o, none⟩ = false) ∧ (∀ o, W.frozen? ⟨w.heap.size + 1, o, none⟩ = false) ∧
    (w.alloc (.cells #[.int .i64 0, .int .i64 0, .int .i64 0] t)).alloc (.cells #[.int .i64 S, .int .i64 T, .int .i64 X] t) = W := by
  refine ⟨_, ((Below.refl _ w).alloc (Nat.le_refl _) _).alloc (by simp) _, ?_, ?_, ?_, ?_, rfl⟩
  · exact (RegAt.new w t 0 0 0).below (B := w.heap.size + 1) ((Below.refl _ _).alloc (by simp) _) (by omega)
  · have := RegAt.new (w.alloc (.cells #[.int .i64 0, .int .i64 0, .int .i64 0] t)) t S T X
    simpa using this
  · intro o; simp
  · intro o
    exact (show ∀ V : World, V.heap.size = w.heap.size + 1 → (V.alloc (.cells #[.int .i64 S, .int .i64 T, .int .i64 X] t)).frozen? ⟨w.heap.size + 1, o, none⟩ = false from fun V hV => by rw [← hV]; simp) _ (by simp)
theorem drop_val (z : ByteArray) (s k : Nat) (hk : k < s) (hs : s ≤ z.size) : valN ((z.data.toList.take s).drop k) = (z[k].toNat - 48) + 2 * valN ((z.data.toList.take s).drop (k + 1)) := by
  have hl : k < (z.data.toList.take s).length := by rw [List.length_take]; have : z.data.toList.length = z.size := rfl; omega
  rw [List.drop_eq_getElem_cons hl]
  simp only [valN]
  congr 2
  rw [List.getElem_take]
  rfl
theorem sfrom_value (z : ByteArray) (s k : Nat) (hk : k < s) (h8 : s ≤ 8) (hs : s ≤ z.size) (hok : okB z s = true) : ∃ A C V' : Nat, V' = valN ((z.data.toList.take s).drop k) ∧
    IntKind.i64.wrap (2 * ((valN ((z.data.toList.take s).drop (k + 1)) : Nat) : Int)) = A ∧ IntKind.i64.wrap ((z[k].toNat : Nat) : Int) = ((z[k].toNat : Nat) : Int) ∧
    IntKind.i64.wrap ((A : Int) + ((z[k].toNat : Nat) : Int)) = C ∧ IntKind.i64.wrap ((C : Int) - 48) = V' := by
  have ha := allBits_of z s hs hok
  have hl : (z.data.toList.take s).length = s := by rw [List.length_take]; have : z.data.toList.length = z.size := rfl; omega
  have hd : AllBits ((z.data.toList.take s).drop (k + 1)) := fun c hc => ha c (List.mem_of_mem_drop hc)
  have hv := valN_lt _ hd
  rw [List.length_drop, hl] at hv
  have ht := tw_le (s - (k + 1)) (by omega)
  have hc : z[k].toNat = 48 ∨ z[k].toNat = 49 := by
    have h1 := take_snoc' z k (by omega)
    have h2 := allBits_of z (k + 1) (by omega) (okB_less z (k + 1) s (by omega) hs hok)
    exact h2 z[k] (by rw [h1]; simp)
  have hdv := drop_val z s k hk hs
  obtain ⟨c, hc'⟩ : ∃ c, z[k].toNat = c := ⟨_, rfl⟩
  obtain ⟨v, hv'⟩ : ∃ v, valN ((z.data.toList.take s).drop (k + 1)) = v := ⟨_, rfl⟩
  rw [hc', hv'] at hdv
  rw [hc'] at hc ⊢
  rw [hv'] at hv ⊢
  refine ⟨2 * v, 2 * v + c, _, rfl, ?_, ?_, ?_, ?_⟩
  · rw [show 2 * (v : Int) = ((2 * v : Nat) : Int) by omega]; exact IntWalk.i64_in _ (by omega)
  · exact IntWalk.i64_in _ (by omega)
  · rw [← Int.natCast_add]; exact IntWalk.i64_in _ (by omega)
  · rw [hdv, show ((2 * v + c : Nat) : Int) - 48 = ((c - 48 + 2 * v : Nat) : Int) by omega]; exact IntWalk.i64_in _ (by omega)
end Go.Proofs.Ytmlmpekhcnjehaa
