/- Words compared; the orders of Walsh codes; WalshIndex of both sides and the walk of its exact law. -/
import Derived.Test.YtgfehabpoebaoaaFam4
import Derived.Test.YtgfehabpoebaoaaFirstN
import Derived.Stop.BytesEq
import Derived.Deep.RegionHeld3
namespace Go.Proofs.Ytgfehabpoebaoaa
open Go.RowKit
set_option linter.unusedVariables false
def isT (n : Nat) : Bool := n == 1 || n == 2 || n == 4 || n == 8 || n == 16 || n == 32 || n == 64
theorem isT_tw {n : Nat} (h : isT n = true) : ∃ o, o ≤ 6 ∧ tw o = n := by
  unfold isT at h
  simp only [Bool.or_eq_true, beq_iff_eq] at h
  rcases h with (((((rfl | rfl) | rfl) | rfl) | rfl) | rfl) | rfl
  · exact ⟨0, by omega, rfl⟩
  · exact ⟨1, by omega, rfl⟩
  · exact ⟨2, by omega, rfl⟩
  · exact ⟨3, by omega, rfl⟩
  · exact ⟨4, by omega, rfl⟩
  · exact ⟨5, by omega, rfl⟩
  · exact ⟨6, by omega, rfl⟩
theorem tw_isT : ∀ o, o ≤ 6 → isT (tw o) = true := by
  intro o h
  have : o = 0 ∨ o = 1 ∨ o = 2 ∨ o = 3 ∨ o = 4 ∨ o = 5 ∨ o = 6 := by omega
  rcases this with rfl | rfl | rfl | rfl | rfl | rfl | rfl <;> rfl
theorem tw_lt {k o : Nat} (h : k < o) : tw k < tw o := Nat.pow_lt_pow_right (by decide) h
set_option maxRecDepth 100000 in
theorem l3Order_yes (o : Nat) (w : World) (h : o ≤ 6) :
    Calls Try.prog 64 #[.int .i64 ((tw o : Nat) : Int)] w fun e w' => e = .returned (.int .i64 o) ∧ w = w' := by
  have HL := Lib.hid (fun k (hk : k < o) => tw_lt hk)
  have HT := Lib.hid (fun k w (hk : k ≤ o) => l1Two_any k w (by omega))
  obtain ⟨T, hTT⟩ : ∃ T, tw o = T := ⟨_, rfl⟩
  rw [hTT] at HL ⊢
  have HO := Lib.hid hTT
  clear hTT
  go_enter Try.func64, Try.ntmps64
  go_wp2
  go_loop [3] (fun i => ∃ k : Nat, k ≤ o ∧ i = .int .i64 k) (fun i => o + 1 - (intOf i).toNat)
  case atStart => exact ⟨0, by omega, rfl⟩
  case round =>
    obtain ⟨k, hk, rfl⟩ := hrel
    have h6 : (k : Int) ≤ 6 := by omega
    have hT := fun w => HT.out k w hk
    by_cases hlt : k < o
    · have hl := HL.out k hlt
      obtain ⟨U, hU⟩ : ∃ U, tw k = U := ⟨_, rfl⟩
      rw [hU] at hT hl
      have hne : ((U : Int) == (T : Int)) = false := by rw [beq_eq_false_iff_ne]; omega
      clear hU hl
      go_wp2_with fail
      refine (hT _).mono ?_
      rintro e w' ⟨rfl, rfl⟩
      go_wp2
      go_round
      case rel => exact ⟨k + 1, by omega, by go_num⟩
      case measure => simp [intOf]; omega
    · obtain rfl : k = o := by omega
      rw [HO.out] at hT
      go_wp2_with fail
      refine (hT _).mono ?_
      rintro e w' ⟨rfl, rfl⟩
      go_wp2
      go_ret
      exact ⟨rfl, rfl⟩
set_option maxRecDepth 100000 in
theorem l3Order_no (n : Nat) (w : World) (hn : n ≤ 9223372036854775807) (h : isT n = false) :
    Calls Try.prog 64 #[.int .i64 (n : Int)] w fun e w' => e = .returned (.int .i64 (-1)) ∧ w = w' := by
  have HN := Lib.hid (fun k (hk : k ≤ 6) => show ¬ tw k = n from fun e => by rw [← e, tw_isT k hk] at h; cases h)
  have HT := Lib.hid (fun k w (hk : k ≤ 6) => l1Two_any k w (by omega))
  clear h
  go_enter Try.func64, Try.ntmps64
  go_wp2
  go_loop [3] (fun i => ∃ k : Nat, k ≤ 7 ∧ i = .int .i64 k) (fun i => 7 - (intOf i).toNat)
  case atStart => exact ⟨0, by omega, rfl⟩
  case round =>
    obtain ⟨k, hk, rfl⟩ := hrel
    by_cases hlt : k ≤ 6
    · have h6 : (k : Int) ≤ 6 := by omega
      have hT := fun w => HT.out k w hlt
      have hl := HN.out k hlt
      obtain ⟨U, hU⟩ : ∃ U, tw k = U := ⟨_, rfl⟩
      rw [hU] at hT hl
      have hne : ((U : Int) == (n : Int)) = false := by rw [beq_eq_false_iff_ne]; omega
      clear hU hl
      go_wp2_with fail
      refine (hT _).mono ?_
      rintro e w' ⟨rfl, rfl⟩
      go_wp2
      go_round
      case rel => exact ⟨k + 1, by omega, by go_num⟩
      case measure => simp [intOf]; omega
    · obtain rfl : k = 7 := by omega
      go_wp2
      go_ret
      exact ⟨rfl, rfl⟩
theorem and_pred : ∀ n, n ≤ 64 → 0 < n → ((((n &&& (n - 1) : Nat) : Int) == 0) = isT n) := by decide
set_option maxRecDepth 100000 in
theorem wordLen_any (n : Nat) (w : World) (hn : n ≤ 9223372036854775807) :
    Calls Try.prog 54 #[.int .i64 (n : Int)] w fun e w' => e = .returned (.bool (isT n)) ∧ w = w' := by
  by_cases h0 : 0 < n
  · by_cases h6 : n ≤ 64
    · have hx := and64 n (n - 1) (by omega) (by omega)
      rw [show ((n - 1 : Nat) : Int) = (n : Int) - 1 by omega] at hx
      have hp := and_pred n h6 h0
      obtain ⟨X, hX⟩ : ∃ X, n &&& (n - 1) = X := ⟨_, rfl⟩
      rw [hX] at hx hp
      obtain ⟨b, hb⟩ : ∃ b, isT n = b := ⟨_, rfl⟩
      rw [hb] at hp ⊢
      have i0 : (0 : Int) < (n : Int) := by omega
      have i1 : (n : Int) ≤ 64 := by omega
      clear hX hb
      cases b
      all_goals
        go_enter Try.func54, Try.ntmps54
        go_wp2
        go_ret
        exact ⟨rfl, rfl⟩
    · have i0 : (0 : Int) < (n : Int) := by omega
      have i1 : ¬ ((n : Int) ≤ 64) := by omega
      rw [show isT n = false by unfold isT; simp only [Bool.or_eq_false_iff, beq_eq_false_iff_ne]; omega]
      go_enter Try.func54, Try.ntmps54
      go_wp2
      go_ret
      exact ⟨rfl, rfl⟩
  · obtain rfl : n = 0 := by omega
    go_enter Try.func54, Try.ntmps54
    go_wp2
    go_ret
    exact ⟨rfl, rfl⟩
def wL (f : Nat → Nat) : List UInt8 := (List.range 64).map fun v => UInt8.ofNat (f v)
theorem wordA_cells (f : Nat → Nat) (h : ∀ i, f i < 2) : wordA f = ((wL f).map Extern.Stop.cell).toArray := by
  unfold wordA wL
  rw [List.map_map]
  congr 1
  refine List.map_congr_left fun v _ => ?_
  have := h v
  simp only [Function.comp_apply, Extern.Stop.cell]
  rw [UInt8.toNat_ofNat', Nat.mod_eq_of_lt (by omega)]
  rfl
/-- The elements of a word, as the model reads a range of cells. -/
def wordL (f : Nat → Nat) : List Value := (List.range 64).map fun v => Value.int .u8 (f v : Nat)
theorem wordA_list (f : Nat → Nat) : wordA f = (wordL f).toArray := rfl
theorem wordL_len (f : Nat → Nat) : (wordL f).length = 64 := by simp [wordL]
theorem Bytes.range {w : World} {g : Nat} {t : TypeId} {f : Nat → Nat} (h : Bytes w g t 64 f) : w.rangeAt g 0 (wordL f) := fun j v hv => by
  have hj : j < 64 := by
    have := (List.getElem?_eq_some_iff.1 hv).1
    rwa [wordL_len] at this
  rw [Nat.zero_add, h.cell j hj]
  simp only [wordL, List.getElem?_map, List.getElem?_range hj, Option.map_some] at hv
  exact hv
theorem rangeAt_below {w w' : World} {B g : Nat} {cs : List Value} (h : w.rangeAt g 0 cs) (hb : Below B w w') (hg : g < B) : w'.rangeAt g 0 cs := fun j v hv => (hb.cell (p := ⟨g, 0 + j, none⟩) hg).trans (h j v hv)
theorem elt_one : (Try.prog.info? 55).map (·.size) = some 1 := by kernel_rfl
theorem elt_size (w : World) : (sizeOf 55).run Try.prog w = .ok 1 w := by
  obtain ⟨i, hi, hs⟩ := Option.map_eq_some_iff.1 elt_one
  simp [sizeOf, typeInfo, hi, hs]
theorem eql_word (f g : Nat → Nat) (hf : ∀ i, f i < 2) (hg : ∀ i, g i < 2) (w : World) :
    (binOp .eql 57 (.agg (wordA f)) (.agg (wordA g))).run Try.prog w = .ok (.bool (wL f == wL g)) w := by
  rw [wordA_cells f hf, wordA_cells g hg]
  exact run_eql_bytes w 57 55 64 (by kernel_rfl) (by kernel_rfl) elt_size _ _ (by simp [wL]) (by simp [wL])
theorem wL_iff (f g : Nat → Nat) (hf : ∀ i, f i < 2) (hg : ∀ i, g i < 2) : (wL f == wL g) = true ↔ ∀ i, i < 64 → f i = g i := by
  rw [beq_iff_eq]
  unfold wL
  rw [List.map_inj_left]
  constructor
  · intro h i hi
    have := h i (List.mem_range.2 hi)
    have := congrArg UInt8.toNat this
    rw [UInt8.toNat_ofNat', UInt8.toNat_ofNat'] at this
    have := hf i
    have := hg i
    omega
  · intro h i hi
    rw [h i (List.mem_range.1 hi)]
theorem zb_walsh (n i v : Nat) (h : v < n) : zb (walshB n i) v = 48 + walF i v := zb_strF h (by have := walF_lt i v; omega)
theorem walsh_eq (z : ByteArray) (i : Nat) (h64 : z.size ≤ 64) (hz : okB z z.size = true) :
    (∀ v, v < 64 → (if v < z.size then walF i v else 0) = eltF z v) ↔ walshB z.size i = z := by
  constructor
  · intro h
    refine ba_ext (walshB_size _ _) fun v hv => ?_
    rw [walshB_size] at hv
    rw [zb_walsh _ _ _ hv]
    have h1 := h v (by omega)
    rw [if_pos hv] at h1
    unfold eltF at h1
    rw [if_pos hv] at h1
    rcases okB_zb z hz v hv with e | e
    · rw [e] at h1 ⊢; simp at h1; omega
    · rw [e] at h1 ⊢; simp at h1; omega
  · intro h v hv
    by_cases hv : v < z.size
    · rw [if_pos hv]
      unfold eltF
      rw [if_pos hv]
      have := zb_walsh z.size i v hv
      rw [h] at this
      have := walF_lt i v
      split <;> omega
    · rw [if_neg hv]
      unfold eltF
      rw [if_neg hv]
theorem walsh_ok (z : ByteArray) (i : Nat) (h : walshB z.size i = z) : okB z z.size = true := okB_of_zb _ fun v hv => by
  have := zb_walsh z.size i v hv
  rw [h] at this
  have := walF_lt i v
  omega
def idxP (z : ByteArray) (i : Nat) : Bool := decide (walshB z.size i = z)
/-- The index of a Walsh code. -/
def idxAns (z : ByteArray) : Int × Bool := if isT z.size = true ∧ firstN (idxP z) z.size < z.size then ((firstN (idxP z) z.size : Nat), true) else noI
theorem idx_no {z : ByteArray} (h : isT z.size = false) : idxAns z = noI := by unfold idxAns; rw [if_neg (by rw [h]; simp)]
theorem idx_none {z : ByteArray} (h : firstN (idxP z) z.size = z.size) : idxAns z = noI := by unfold idxAns; rw [if_neg (by omega)]
theorem idx_hit {z : ByteArray} {k : Nat} (hT : isT z.size = true) (hk : k < z.size) (h : firstN (idxP z) k = k) (hp : idxP z k = true) : idxAns z = ((k : Int), true) := by
  have := firstN_hit h hp z.size hk
  unfold idxAns
  rw [this, if_pos ⟨hT, hk⟩]
theorem isT_bd {n : Nat} (h : isT n = true) : 1 ≤ n ∧ n ≤ 64 := by
  obtain ⟨o, ho, rfl⟩ := isT_tw h
  exact ⟨tw_pos o, tw_6 o ho⟩
set_option maxRecDepth 100000 in
theorem sIdx_any (z : ByteArray) (w : World) (hz : z.size ≤ 9223372036854775807) :
    Calls Try.prog 33 #[.string z] w fun e w' => e = .returned (.tuple #[.int .i64 (idxAns z).1, .bool (idxAns z).2]) ∧ Below w.heap.size w w' := by
  cases hT : isT z.size with
  | false =>
    rw [idx_no hT]
    have hO := fun w => l3Order_no z.size w hz hT
    clear hT
    go_enter Try.func33, Try.ntmps33
    go_wp2_with fail
    refine (hO _).mono ?_
    rintro e w' ⟨rfl, rfl⟩
    go_wp2
    go_loop [5] (fun i => i = .int .i64 0) (fun i => 0)
    case atStart => rfl
    case round =>
      obtain rfl := hrel
      go_wp2
      go_ret2
      exact ⟨rfl, Below.refl _ _⟩
  | true =>
    obtain ⟨o, ho, hto⟩ := isT_tw hT
    obtain ⟨hb1, hb2⟩ := isT_bd hT
    have hO := fun w => l3Order_yes o w ho
    have HW := Lib.hid (fun i w (hi : i < 64) => l3Walsh_any o i w ho hi)
    rw [hto] at hO HW
    have HH := Lib.hid (fun k => idx_hit (z := z) (k := k) hT)
    have HN := Lib.hid (fun h => idx_none (z := z) h)
    have HP := Lib.hid (fun k => show idxP z k = decide (walshB z.size k = z) from rfl)
    have HS := Lib.hid (fun k h => firstN_step (p := idxP z) (k := k) h)
    have o0 : (0 : Int) ≤ (o : Int) := by omega
    clear hto hT
    go_enter Try.func33, Try.ntmps33
    go_wp2_with fail
    refine (hO _).mono ?_
    rintro e w' ⟨rfl, rfl⟩
    clear hO
    go_wp2
    go_loopw [5] (fun i wr => ∃ k : Nat, k ≤ z.size ∧ i = .int .i64 k ∧ Hid (firstN (idxP z) k = k) ∧ Below w.heap.size w wr) (fun i _ => z.size - (intOf i).toNat)
    case atStart => exact ⟨0, by omega, rfl, Lib.hid rfl, Below.refl _ _⟩
    case round =>
      obtain ⟨k, hk, rfl, rF, rb⟩ := hrel
      by_cases hlt : k < z.size
      · have hW := fun w => HW.out k w (by omega)
        have hp := HP.out k
        obtain ⟨y, hy⟩ : ∃ y, walshB z.size k = y := ⟨_, rfl⟩
        rw [hy] at hW hp
        have hWW := Lib.hid hW
        clear hy hW
        by_cases e : y = z
        · subst e
          rw [decide_eq_true rfl] at hp
          have HA := Lib.hid (HH.out k hlt rF.out hp)
          clear hp rF
          go_wp2_with fail
          refine (hWW.out _).mono ?_
          rintro e w1 ⟨rfl, hb⟩
          have b1 := below_then rb (Nat.le_refl _) hb
          go_wp2
          go_ret2
          exact ⟨by rw [HA.out]; rfl, b1⟩
        · rw [decide_eq_false e] at hp
          have hne := str_ne e
          have nF := Lib.hid (HS.out k rF.out hp)
          clear hp rF
          go_wp2_with fail
          refine (hWW.out _).mono ?_
          rintro e w1 ⟨rfl, hb⟩
          have b1 := below_then rb (Nat.le_refl _) hb
          go_wp2
          go_roundw
          case rel => exact ⟨k + 1, by omega, by go_num, nF, b1⟩
          case measure => simp [intOf]; omega
      · obtain rfl : k = z.size := by omega
        have HA := Lib.hid (HN.out rF.out)
        clear rF
        go_wp2
        go_ret2
        exact ⟨by rw [HA.out]; rfl, rb⟩
set_option maxRecDepth 100000 in
theorem iIdx_any (z : ByteArray) (w : World) (hz : z.size ≤ 9223372036854775807) :
    Calls Try.prog 22 #[.string z] w fun e w' => e = .returned (.tuple #[.int .i64 (idxAns z).1, .bool (idxAns z).2]) ∧ Below w.heap.size w w' := by
  have hO := fun w => wordLen_any z.size w hz
  cases hT : isT z.size with
  | false =>
    rw [idx_no hT]
    rw [hT] at hO
    clear hT
    go_enter Try.func22, Try.ntmps22
    go_wp2_with fail
    refine (hO _).mono ?_
    rintro e w' ⟨rfl, rfl⟩
    go_wp2
    go_ret2
    exact ⟨rfl, Below.refl _ _⟩
  | true =>
    rw [hT] at hO
    obtain ⟨hb1, hb2⟩ := isT_bd hT
    have hB := fun w => bitsValid_any z w hz
    cases hv : bitsB z with
    | false =>
      rw [hv] at hB
      have hno : firstN (idxP z) z.size = z.size := by
        have hle := firstN_le (idxP z) z.size
        by_cases e : firstN (idxP z) z.size = z.size
        · exact e
        · exfalso
          have hbad : ∀ i, idxP z i = false := fun i => by
            unfold idxP
            rw [decide_eq_false]
            intro h
            have := walsh_ok z i h
            unfold bitsB at hv
            rw [this, decide_eq_true (by omega)] at hv
            cases hv
          have : ∀ n, firstN (idxP z) n = n := by
            intro n
            induction n with
            | zero => rfl
            | succ n ih => exact firstN_step ih (hbad n)
          exact e (this _)
      rw [idx_none hno]
      clear hT hv hno
      go_enter Try.func22, Try.ntmps22
      go_wp2_with fail
      refine (hO _).mono ?_
      rintro e w' ⟨rfl, rfl⟩
      go_wp2_with fail
      refine (hB _).mono ?_
      rintro e w' ⟨rfl, rfl⟩
      go_wp2
      go_ret2
      exact ⟨rfl, Below.refl _ _⟩
    | true =>
      rw [hv] at hB
      have hok : okB z z.size = true := by unfold bitsB at hv; simp only [Bool.and_eq_true] at hv; exact hv.1
      have hG := fun w => wordOf_any z w hb2
      have HW := Lib.hid (fun i w (hi : i < 64) => walshWord_any z.size i w hb2 hi)
      have HE := Lib.hid (fun i w => eql_word (fun v => if v < z.size then walF i v else 0) (eltF z) (fun v => by split; exact walF_lt _ _; omega) (eltF_lt z) w)
      have HQ : Hid (∀ i, (wL (fun v => if v < z.size then walF i v else 0) == wL (eltF z)) = idxP z i) := Lib.hid (fun i => by
        rw [Bool.eq_iff_iff, wL_iff _ _ (fun v => by split; exact walF_lt _ _; omega) (eltF_lt z), walsh_eq z i hb2 hok]
        unfold idxP
        rw [decide_eq_true_iff])
      have HH := Lib.hid (fun k => idx_hit (z := z) (k := k) hT)
      have HN := Lib.hid (fun h => idx_none (z := z) h)
      have HS := Lib.hid (fun k h => firstN_step (p := idxP z) (k := k) h)
      have s1 : (Try.prog.info? 57).map (·.size) = some (wordL (eltF z)).length := by rw [wordL_len]; exact word_size
      have u1 := Try.underlying57
      obtain ⟨F, hF⟩ : ∃ F : Nat → Nat, eltF z = F := ⟨_, rfl⟩
      rw [hF] at hG HE HQ s1
      rw [wordA_list F] at hG
      have HA := Lib.hid (wordA_list F)
      rw [HA.out] at HE
      obtain ⟨cs, hC⟩ : ∃ cs, wordL F = cs := ⟨_, rfl⟩
      rw [hC] at hG HE s1 HA
      have HC := Lib.hid hC
      clear hT hv hok hF hC
      go_enter Try.func22, Try.ntmps22
      go_wp2_with fail
      refine (hO _).mono ?_
      rintro e w' ⟨rfl, rfl⟩
      go_wp2_with fail
      refine (hB _).mono ?_
      rintro e w' ⟨rfl, rfl⟩
      go_wp2_with fail
      refine (hG _).mono ?_
      rintro e w1 ⟨rfl, hb⟩
      go_wp2_with (first | (refine wpList_store_word rfl 57 _ _ rfl w1.heap.size F cs.toArray HA.out.symm rfl rfl 57 _ (heap_alloc_new w1 _) word_size ?_ ?_; kernel_rfl; intro W hbel hL; have b2 := hbel _ _ (hb.alloc hb.size _) hb.size))
      have r3 := Bytes.range hL
      rw [HC.out] at r3
      have hgl : w1.heap.size < W.heap.size := hL.lt
      have hwg := hb.size
      obtain ⟨g, hg⟩ : ∃ g, w1.heap.size = g := ⟨_, rfl⟩
      rw [hg] at r3 hgl hwg ⊢
      clear hO hB hG hL hbel hb hg
      go_loopw [19] (fun i wr => ∃ k : Nat, k ≤ z.size ∧ i = .int .i64 k ∧ Hid (firstN (idxP z) k = k) ∧ Hid (g < wr.heap.size) ∧ wr.rangeAt g 0 cs ∧ Below w.heap.size w wr) (fun i _ => z.size - (intOf i).toNat)
      case atStart => exact ⟨0, by omega, rfl, Lib.hid rfl, Lib.hid hgl, r3, b2⟩
      case round =>
        obtain ⟨k, hk, rfl, rF, rl, rg, rb⟩ := hrel
        by_cases hlt : k < z.size
        · have hW := fun w => HW.out k w (by omega)
          have hE := fun w => HE.out k w
          have hp := HQ.out k
          obtain ⟨G, hGG⟩ : ∃ G, wordA (fun v => if v < z.size then walF k v else 0) = G := ⟨_, rfl⟩
          rw [hGG] at hW hE
          obtain ⟨b, hbb⟩ : ∃ b, (wL (fun v => if v < z.size then walF k v else 0) == wL F) = b := ⟨_, rfl⟩
          rw [hbb] at hE hp
          have hWW := Lib.hid hW
          have r0 := Below.refl wr.heap.size wr
          have hgl2 : g < wr.heap.size := rl.out
          clear hGG hbb hW
          cases b with
          | true =>
            have HA := Lib.hid (HH.out k hlt rF.out hp.symm)
            clear hp rF
            go_wp2_with fail
            go_region_held3 (fun wx => Below wr.heap.size wr wx ∧ wx.rangeAt g 0 cs) (first | exact ⟨c50, c51⟩ | exact ⟨r0.drew, rg⟩) (first | (go_at_call 55; refine (hWW.out _).mono ?_; rintro e w5 ⟨rfl, hB⟩; have c50 := below_then r0.drew (Nat.le_refl _) hB; have c51 : w5.rangeAt g 0 cs := rangeAt_below rg c50 hgl2))
            all_goals
              have b5 := below_then rb (Nat.le_refl _) c50
              go_wp2
              go_ret2
              exact ⟨by rw [HA.out]; rfl, b5⟩
          | false =>
            have nF := Lib.hid (HS.out k rF.out hp.symm)
            clear hp rF
            go_wp2_with fail
            go_region_held3 (fun wx => Below wr.heap.size wr wx ∧ wx.rangeAt g 0 cs) (first | exact ⟨c50, c51⟩ | exact ⟨r0.drew, rg⟩) (first | (go_at_call 55; refine (hWW.out _).mono ?_; rintro e w5 ⟨rfl, hB⟩; have c50 := below_then r0.drew (Nat.le_refl _) hB; have c51 : w5.rangeAt g 0 cs := rangeAt_below rg c50 hgl2))
            all_goals
              have b5 := below_then rb (Nat.le_refl _) c50
              go_wp2
              go_roundw
              case rel => exact ⟨k + 1, by omega, by go_num, nF, Lib.hid (Nat.lt_of_lt_of_le hgl2 c50.size), c51, b5⟩
              case measure => simp [intOf]; omega
        · obtain rfl : k = z.size := by omega
          have HA := Lib.hid (HN.out rF.out)
          clear rF
          go_wp2
          go_ret2
          exact ⟨by rw [HA.out]; rfl, rb⟩
end Go.Proofs.Ytgfehabpoebaoaa
