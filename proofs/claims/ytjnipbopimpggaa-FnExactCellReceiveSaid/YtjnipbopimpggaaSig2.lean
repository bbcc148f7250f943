/- Chips and signs, energy and errors: contracts of both sides. -/
import Derived.Test.YtjnipbopimpggaaSig
import Derived.Laws.CopyOwn
namespace Go.Proofs.Ytjnipbopimpggaa
open Go.RowKit
set_option linter.unusedVariables false
set_option maxRecDepth 100000
/-- A slice of n numbers that can be read and cut: element i is f i. -/
def IntsC (w : World) (v : Value) (n : Nat) (f : Nat → Int) : Prop :=
  ∃ a cap, v = .slice a n cap ∧ n ≤ cap ∧ ∀ i, i < n → ∃ x : Addr, a = some x ∧ x.block < w.heap.size ∧ w.cell? (x.add i) = some (.int .i64 (f i))
theorem IntsC.ints {w : World} {v : Value} {n : Nat} {f : Nat → Int} (h : IntsC w v n f) : IntsR w v n f := by
  obtain ⟨a, cap, h1, _, h2⟩ := h
  exact ⟨a, cap, h1, h2⟩
theorem IntsC.below {w w' : World} {v : Value} {n : Nat} {f : Nat → Int} (h : IntsC w v n f) (hb : Below w.heap.size w w') : IntsC w' v n f := by
  obtain ⟨a, cap, rfl, hl, hc⟩ := h
  refine ⟨a, cap, rfl, hl, fun i hi => ?_⟩
  obtain ⟨x, rfl, h1, h2⟩ := hc i hi
  exact ⟨x, rfl, Nat.lt_of_lt_of_le h1 hb.size, (hb.cell (p := x.add i) (by rw [add_block]; exact h1)).trans h2⟩
theorem OF.intsC {w : World} {B : Nat} {v : Value} {n : Nat} {f : Nat → Int} (h : OF w B v n f) : IntsC w v n f := by
  have hr := h.ints
  obtain ⟨h1, ⟨rfl, rfl⟩ | ⟨g, cap, cur, rfl, hB, hg, hn, hm, hs, ht⟩⟩ := h
  · exact ⟨none, 0, rfl, Nat.le_refl _, fun i hi => absurd hi (Nat.not_lt_zero i)⟩
  · obtain ⟨a, c, e, hc⟩ := hr
    injection e with e1 e2 e3
    subst e1 e3
    exact ⟨_, cap, rfl, hn, hc⟩
theorem OF.none0 (w : World) (B : Nat) (f : Nat → Int) : OF w B (.slice none 0 0) 0 f := OF.nil w B f
/-- The chip of a bit. -/
def chF (z : ByteArray) (i : Nat) : Int := 1 - 2 * ((zb z i : Int) - 48)
theorem chF_of {z : ByteArray} {i b : Nat} (h : zb z i = 48 + b) : chF z i = 1 - 2 * (b : Int) := by unfold chF; rw [h]; omega
theorem chF_bd {z : ByteArray} (h : okB z z.size = true) {i : Nat} (hi : i < z.size) : chF z i = 1 ∨ chF z i = -1 := by
  unfold chF
  rcases okB_zb z h i hi with e | e <;> rw [e] <;> decide
set_option maxRecDepth 100000 in
theorem iChips_yes (z : ByteArray) (w : World) (h : okB z z.size = true) (hn : z.size ≤ 1000000) :
    Calls Try.prog 107 #[.string z] w fun e w' => ∃ v, e = .returned v ∧ OF w' w.heap.size v z.size (chF z) ∧ Below w.heap.size w w' := by
  have hmk := make_ints z.size (by omega)
  have HA := Lib.hid (okB_zb z h)
  clear h
  go_enter Try.func107, Try.ntmps107
  go_wp2
  go_loopw [10] (fun i wr => ∃ k : Nat, k ≤ z.size ∧ i = .int .i64 k ∧ OF wr w.heap.size (.slice (some ⟨w.heap.size, 0, none⟩) z.size z.size) z.size (fun j => if j < k then chF z j else 0) ∧ Below w.heap.size w wr) (fun i _ => z.size - (intOf i).toNat)
  case atStart => exact ⟨0, by omega, rfl, (OF.made w z.size (by omega)).congr (fun j _ => by simp), (Below.refl _ _).alloc (Nat.le_refl _) _⟩
  case round =>
    obtain ⟨k, hk, rfl, rO, rb⟩ := hrel
    clear hmk
    by_cases hlt : k < z.size
    · obtain ⟨b, hb, hbe⟩ := isBit _ (HA.out k hlt)
      have hch := chF_of hbe
      have v1 : IntKind.u8.wrap (((z[k].toNat : Nat) : Int) - 48) = (b : Nat) := by
        rw [zb_at z k hlt, hbe]
        have : b = 0 ∨ b = 1 := by omega
        rcases this with rfl | rfl <;> decide
      obtain ⟨c1, c2⟩ := rO.at k hlt
      have i0 : (0 : Int) ≤ (k : Int) := by omega
      have i1 : (k : Int) < (z.size : Int) := by omega
      have nO : Hid (OF (wr.setCell ⟨w.heap.size, k, none⟩ (.int .i64 (1 - 2 * (b : Int)))) w.heap.size (.slice (some ⟨w.heap.size, 0, none⟩) z.size z.size) z.size (fun j => if j < k + 1 then chF z j else 0)) :=
        Lib.hid (rO.set k (1 - 2 * (b : Int)) hlt (fun j hj => by
          by_cases e : j = k
          · subst e; rw [if_pos (by omega), if_pos rfl]; exact hch
          · rw [if_neg e]
            by_cases e' : j < k
            · rw [if_pos (by omega), if_pos e']
            · rw [if_neg (by omega), if_neg e']))
      have nb : Hid (Below w.heap.size w (wr.setCell ⟨w.heap.size, k, none⟩ (.int .i64 (1 - 2 * (b : Int))))) := Lib.hid (bytes_below rb (Nat.le_refl _) _ _)
      clear rO rb hch hbe
      go_wp2
      go_roundw
      case rel => exact ⟨k + 1, by omega, by go_num, nO.out, nb.out⟩
      case measure => simp [intOf]; omega
    · obtain rfl : k = z.size := by omega
      have nO := Lib.hid (rO.congr (g := chF z) (fun j hj => by rw [if_pos hj]))
      clear rO
      go_wp2
      go_ret
      exact ⟨_, rfl, nO.out, rb⟩
theorem bits_iff (z : ByteArray) : bitsB z = true ↔ okB z z.size = true ∧ z.size ≤ 600 := by unfold bitsB; simp only [Bool.and_eq_true, decide_eq_true_eq]
/-- How many chips ChipsOf answers. -/
def chN (z : ByteArray) : Nat := if bitsB z then z.size else 0
theorem chN_le6 (z : ByteArray) : chN z ≤ 1000000 := by
  unfold chN
  split
  · have := ((bits_iff z).1 (by assumption)).2; omega
  · omega
theorem ret_st {a b : ByteArray} (h : a = b) : Ending.returned (.string a) = .returned (.string b) := by rw [h]
/-- The bits that signs tell. -/
def sgF (f : Nat → Int) (i : Nat) : Nat := if f i < 0 then 49 else 48
def sgS (n : Nat) (f : Nat → Int) : ByteArray := strF n (sgF f)
theorem sgF_lt (f : Nat → Int) (i : Nat) : sgF f i < 256 := by unfold sgF; split <;> omega
theorem sgS_size (n : Nat) (f : Nat → Int) : (sgS n f).size = n := strF_size _ _
theorem zb_sgS {n : Nat} {f : Nat → Int} {i : Nat} (h : i < n) : zb (sgS n f) i = sgF f i := zb_strF h (sgF_lt f i)
theorem sgS_congr {n : Nat} {f g : Nat → Int} (h : ∀ i, i < n → f i = g i) : sgS n f = sgS n g := strF_congr fun i hi => by unfold sgF; rw [h i hi]
theorem sgS_ok (n : Nat) (f : Nat → Int) : okB (sgS n f) (sgS n f).size = true := okB_of_zb _ fun i hi => by
  rw [sgS_size] at hi
  rw [zb_sgS hi]
  unfold sgF
  split
  · exact .inr rfl
  · exact .inl rfl
set_option maxRecDepth 100000 in
theorem iSigns_any (v : Value) (n : Nat) (z : Nat → Int) (w : World) (h : IntsR w v n z) (hn : n ≤ 1048576) :
    Calls Try.prog 88 #[v] w fun e w' => e = .returned (.string (sgS n z)) ∧ Below w.heap.size w w' := by
  obtain ⟨a, cap, rfl, hc⟩ := h
  have hmk := make_bytes n (by omega) (by omega)
  have HC := Lib.hid hc
  clear hc
  go_enter Try.func88, Try.ntmps88
  go_wp2
  go_loopw [11] (fun i wr => ∃ k : Nat, k ≤ n ∧ i = .int .i64 k ∧ Bytes wr w.heap.size 5 n (fun v => if v < k then sgF z v else 0) ∧ Below w.heap.size w wr) (fun i _ => n - (intOf i).toNat)
  case atStart => exact ⟨0, by omega, rfl, Bytes.congr (Bytes.new rfl) (fun v _ => by simp), (Below.refl _ _).alloc (Nat.le_refl _) _⟩
  case round =>
    obtain ⟨k, hk, rfl, rB, rb⟩ := hrel
    clear hmk
    by_cases hlt : k < n
    · obtain ⟨x, rfl, hx, hcc⟩ := HC.out k hlt
      rw [← rb.cell (p := x.add k) (by rw [add_block]; exact hx)] at hcc
      have hsg : sgF z k = if z k < 0 then 49 else 48 := rfl
      obtain ⟨y, hy⟩ : ∃ y, z k = y := ⟨_, rfl⟩
      rw [hy] at hcc hsg
      have hc := rB.cell k hlt
      have hf := World.rowIs.frozen rB k
      have i0 : (0 : Int) ≤ (k : Int) := by omega
      have i1 : (k : Int) < (n : Int) := by omega
      by_cases hneg : y < 0
      · rw [if_pos hneg] at hsg
        have r1 : Bytes (wr.setCell ⟨w.heap.size, k, none⟩ (.int .u8 48)) w.heap.size 5 n (fun v => if v = k then 48 else if v < k then sgF z v else 0) := Bytes.set rB k 48 (fun v _ => rfl)
        have nB : Hid (Bytes ((wr.setCell ⟨w.heap.size, k, none⟩ (.int .u8 48)).setCell ⟨w.heap.size, k, none⟩ (.int .u8 49)) w.heap.size 5 n (fun v => if v < k + 1 then sgF z v else 0)) :=
          Lib.hid (Bytes.set r1 k 49 fun v _ => by
            by_cases e : v = k
            · subst e; rw [if_pos (by omega), if_pos rfl, hsg]
            · rw [if_neg e, if_neg e]
              by_cases e' : v < k
              · rw [if_pos (by omega), if_pos e']
              · rw [if_neg (by omega), if_neg e'])
        have nb : Hid (Below w.heap.size w ((wr.setCell ⟨w.heap.size, k, none⟩ (.int .u8 48)).setCell ⟨w.heap.size, k, none⟩ (.int .u8 49))) := Lib.hid (bytes_below (bytes_below rb (Nat.le_refl _) _ _) (Nat.le_refl _) _ _)
        clear r1 hy rB rb hx hsg
        go_wp2
        go_roundw
        case rel => exact ⟨k + 1, by omega, by go_num, nB.out, nb.out⟩
        case measure => simp [intOf]; omega
      · rw [if_neg hneg] at hsg
        have nB : Hid (Bytes (wr.setCell ⟨w.heap.size, k, none⟩ (.int .u8 (48 : Nat))) w.heap.size 5 n (fun v => if v < k + 1 then sgF z v else 0)) :=
          Lib.hid (row_step (F := fun v => sgF z v) rB hsg)
        have nb : Hid (Below w.heap.size w (wr.setCell ⟨w.heap.size, k, none⟩ (.int .u8 (48 : Nat)))) := Lib.hid (bytes_below rb (Nat.le_refl _) _ _)
        clear hy rB rb hx hsg
        go_wp2
        go_roundw
        case rel => exact ⟨k + 1, by omega, by go_num, nB.out, nb.out⟩
        case measure => simp [intOf]; omega
    · obtain rfl : k = n := by omega
      have hst := fun cap => rB.str (P := Try.prog) 52 5 9 (by kernel_rfl) (by kernel_rfl) (by kernel_rfl) 0 k cap (by omega)
      obtain ⟨y, hy⟩ : ∃ y, strF k (fun i => if 0 + i < k then sgF z (0 + i) else 0) = y := ⟨_, rfl⟩
      rw [hy] at hst
      have HY : Hid (y = sgS k z) := Lib.hid (by rw [← hy]; exact strF_congr fun i hi => by simp [hi])
      clear hy
      go_wp2
      go_ret
      exact ⟨ret_st HY.out, rb⟩
set_option maxRecDepth 100000 in
theorem sSigns_any (v : Value) (n : Nat) (z : Nat → Int) (w : World) (h : IntsR w v n z) (hn : n ≤ 1048576) :
    Calls Try.prog 82 #[v] w fun e w' => e = .returned (.string (sgS n z)) ∧ Below w.heap.size w w' := by
  obtain ⟨a, cap, rfl, hc⟩ := h
  have hmk := make_bytes n (by omega) (by omega)
  have HC := Lib.hid hc
  clear hc
  go_enter Try.func82, Try.ntmps82
  go_wp2
  go_loopw [4] (fun i wr => ∃ k : Nat, k ≤ n ∧ i = .int .i64 k ∧ Bytes wr w.heap.size 5 n (fun v => if v < k then sgF z v else 0) ∧ Below w.heap.size w wr) (fun i _ => n - (intOf i).toNat)
  case atStart => exact ⟨0, by omega, rfl, Bytes.congr (Bytes.new rfl) (fun v _ => by simp), (Below.refl _ _).alloc (Nat.le_refl _) _⟩
  case round =>
    obtain ⟨k, hk, rfl, rB, rb⟩ := hrel
    clear hmk
    by_cases hlt : k < n
    · obtain ⟨x, rfl, hx, hcc⟩ := HC.out k hlt
      have hcx : (wr.setCell ⟨w.heap.size, k, none⟩ (.int .u8 48)).cell? (x.add k) = some (.int .i64 (z k)) :=
        ((bytes_below rb (Nat.le_refl _) k (.int .u8 48)).cell (p := x.add k) (by rw [add_block]; exact hx)).trans hcc
      have hsg : sgF z k = if z k < 0 then 49 else 48 := rfl
      obtain ⟨y, hy⟩ : ∃ y, z k = y := ⟨_, rfl⟩
      rw [hy] at hcx hsg
      have hc := rB.cell k hlt
      have hf := World.rowIs.frozen rB k
      have i0 : (0 : Int) ≤ (k : Int) := by omega
      have i1 : (k : Int) < (n : Int) := by omega
      by_cases hneg : y < 0
      · rw [if_pos hneg] at hsg
        have r1 : Bytes (wr.setCell ⟨w.heap.size, k, none⟩ (.int .u8 48)) w.heap.size 5 n (fun v => if v = k then 48 else if v < k then sgF z v else 0) := Bytes.set rB k 48 (fun v _ => rfl)
        have nB : Hid (Bytes ((wr.setCell ⟨w.heap.size, k, none⟩ (.int .u8 48)).setCell ⟨w.heap.size, k, none⟩ (.int .u8 49)) w.heap.size 5 n (fun v => if v < k + 1 then sgF z v else 0)) :=
          Lib.hid (Bytes.set r1 k 49 fun v _ => by
            by_cases e : v = k
            · subst e; rw [if_pos (by omega), if_pos rfl, hsg]
            · rw [if_neg e, if_neg e]
              by_cases e' : v < k
              · rw [if_pos (by omega), if_pos e']
              · rw [if_neg (by omega), if_neg e'])
        have nb : Hid (Below w.heap.size w ((wr.setCell ⟨w.heap.size, k, none⟩ (.int .u8 48)).setCell ⟨w.heap.size, k, none⟩ (.int .u8 49))) := Lib.hid (bytes_below (bytes_below rb (Nat.le_refl _) _ _) (Nat.le_refl _) _ _)
        clear r1 hy rB rb hx hsg hcc
        go_wp2
        go_roundw
        case rel => exact ⟨k + 1, by omega, by go_num, nB.out, nb.out⟩
        case measure => simp [intOf]; omega
      · rw [if_neg hneg] at hsg
        have nB : Hid (Bytes (wr.setCell ⟨w.heap.size, k, none⟩ (.int .u8 (48 : Nat))) w.heap.size 5 n (fun v => if v < k + 1 then sgF z v else 0)) :=
          Lib.hid (row_step (F := fun v => sgF z v) rB hsg)
        have nb : Hid (Below w.heap.size w (wr.setCell ⟨w.heap.size, k, none⟩ (.int .u8 (48 : Nat)))) := Lib.hid (bytes_below rb (Nat.le_refl _) _ _)
        clear hy rB rb hx hsg hcc
        go_wp2
        go_roundw
        case rel => exact ⟨k + 1, by omega, by go_num, nB.out, nb.out⟩
        case measure => simp [intOf]; omega
    · obtain rfl : k = n := by omega
      have hst := fun cap => rB.str (P := Try.prog) 52 5 9 (by kernel_rfl) (by kernel_rfl) (by kernel_rfl) 0 k cap (by omega)
      obtain ⟨y, hy⟩ : ∃ y, strF k (fun i => if 0 + i < k then sgF z (0 + i) else 0) = y := ⟨_, rfl⟩
      rw [hy] at hst
      have HY : Hid (y = sgS k z) := Lib.hid (by rw [← hy]; exact strF_congr fun i hi => by simp [hi])
      clear hy
      go_wp2
      go_ret
      exact ⟨ret_st HY.out, rb⟩
end Go.Proofs.Ytjnipbopimpggaa
