/- The model's Walsh codes. Words: arrays of 64 elements; contracts of walshWord, wordOf, text, l3Walsh and WalshCode. ssWalsh. -/
import Derived.Test.YtmlmpekhcnjehaaSeqFun
import Derived.Test.YtmlmpekhcnjehaaFam2
import Derived.Laws.Rows
import Derived.Laws.Tables
import Derived.Laws.CopyOwn
namespace Go.Proofs.Ytmlmpekhcnjehaa
open Go.RowKit
set_option linter.unusedVariables false
/-- The bit of a Walsh code. -/
def walF (i k : Nat) : Nat := par (i &&& k)
theorem walF_lt (i k : Nat) : walF i k < 2 := par_lt _
def walshB (n i : Nat) : ByteArray := strF n (fun k => 48 + walF i k)
theorem walshB_size (n i : Nat) : (walshB n i).size = n := strF_size _ _
theorem tw_6 (o : Nat) (h : o ≤ 6) : tw o ≤ 64 := Nat.pow_le_pow_right (n := 2) (by omega) h
theorem and_bd (i k : Nat) (h : i < 64) : i &&& k < 64 := Nat.lt_of_le_of_lt Nat.and_le_left h
end Go.Proofs.Ytmlmpekhcnjehaa
namespace Go.Proofs.Ytmlmpekhcnjehaa
open Go.RowKit
set_option linter.unusedVariables false
def walshAns (o i : Int) : ByteArray × Bool := if (0 ≤ o ∧ o ≤ 6) ∧ 0 ≤ i ∧ i < tw o.toNat then (walshB (tw o.toNat) i.toNat, true) else noS
theorem walshAns_no {o i : Int} (h : ¬ ((0 ≤ o ∧ o ≤ 6) ∧ 0 ≤ i ∧ i < tw o.toNat)) : walshAns o i = noS := by unfold walshAns; rw [if_neg h]
theorem walshAns_yes {o i : Nat} (h : o ≤ 6) (hi : i < tw o) : walshAns o i = (walshB (tw o) i, true) := by
  unfold walshAns
  rw [if_pos ⟨⟨by omega, by omega⟩, by omega, by rw [Int.toNat_natCast]; omega⟩, Int.toNat_natCast, Int.toNat_natCast]
/-- A word's value. -/
def wordA (f : Nat → Nat) : Array Value := ((List.range 64).map fun v => Value.int .u8 (f v : Nat)).toArray
theorem wordA_size (f : Nat → Nat) : (wordA f).size = 64 := by simp [wordA]
theorem wordA_at (f : Nat → Nat) (i : Nat) (h : i < 64) : (wordA f)[i]? = some (.int .u8 (f i : Nat)) := by simp [wordA, List.getElem?_range h]
theorem wordA_one (f : Nat → Nat) : (wordA f).all (·.oneCell') = true := by
  rw [Array.all_eq_true]
  intro i hi
  have h1 : i < 64 := by rw [wordA_size] at hi; exact hi
  have := wordA_at f i h1
  rw [Array.getElem?_eq_getElem hi] at this
  injection this with this
  rw [this]; rfl
theorem wordA_congr {f g : Nat → Nat} (h : ∀ i, i < 64 → f i = g i) : wordA f = wordA g := by
  unfold wordA
  congr 1
  exact List.map_congr_left fun i hi => by rw [h i (List.mem_range.1 hi)]
theorem Bytes.row {w : World} {b : Nat} {t : TypeId} {f : Nat → Nat} (h : Bytes w b t 64 f) : w.heap[b]? = some (.cells (wordA f) t (0, 0)) := by
  obtain ⟨c, hb, hn, hc⟩ := h
  rw [hb]
  congr 2
  apply Array.ext
  · rw [hn, wordA_size]
  · intro i h1 h2
    have h3 : i < 64 := by omega
    have e1 := hc i h3
    have e2 := wordA_at f i h3
    rw [Array.getElem?_eq_getElem h1] at e1
    rw [Array.getElem?_eq_getElem h2] at e2
    injection e1 with e1
    injection e2 with e2
    rw [e1, e2]
theorem Bytes.laid {w : World} {b : Nat} {t : TypeId} (f : Nat → Nat) {old : Array Value} (h : w.heap[b]? = some (.cells old t (0, 0))) : Bytes (w.setRow b (wordA f)) b t 64 f :=
  ⟨wordA f, setRow_heap w b old (wordA f) t (0, 0) h, wordA_size f, fun i hi => wordA_at f i hi⟩
theorem Bytes.zero {w : World} {b : Nat} {t : TypeId} (c : Array Value) (hc : c = Array.replicate 64 (.int .u8 0)) (hb : b = w.heap.size) : Bytes (w.alloc (.cells c t)) b t 64 (fun _ => 0) := by
  subst hb hc
  have := World.rowIs_alloc w (Array.replicate 64 (.int .u8 0)) t (fun _ => .int .u8 ((0 : Nat) : Int)) (fun i hi => by
    simp at hi
    rw [Array.getElem?_replicate, if_pos hi]; rfl)
  rw [Array.size_replicate] at this
  exact this
/-- A word is stored into a box. -/
theorem wpList_store_word {ops : Array Oper} {rest : List Oper} {o : Oper} {a : Act} {w : World} {Q : Exit → Act → World → Prop} (hgd : o.guard = none) (ty : TypeId) (x y : Operand) (ho : o.op = .store ty x y)
    (g : Nat) (f : Nat → Nat) (A : Array Value) (hA : A = wordA f) (hx : a.eval x = .pointer (some ⟨g, 0, none⟩)) (hy : a.eval y = .agg A)
    (t : TypeId) (old : Array Value) (hg : w.heap[g]? = some (.cells old t (0, 0))) (hi : (Try.prog.info? ty).map (·.size) = some 64) (hold : old.size = 64)
    (h : ∀ W, (∀ B w0, Below B w0 w → B ≤ g → Below B w0 W) → Bytes W g t 64 f → wpList Try.prog ops Q rest (a.put o.dst undef) W) : wpList Try.prog ops Q (o :: rest) a w := by
  subst hA
  exact wpList_store_row hgd ty x y ho g (wordA f) hx hy t old hg (by rw [hi, wordA_size]) (by rw [hold, wordA_size]) (wordA_one f)
    (h _ (fun B w0 hb hB => below_setRow hb hB _) (Bytes.laid f hg))
set_option maxRecDepth 100000 in
theorem word_size : (Try.prog.info? 82).map (·.size) = some 64 := by kernel_rfl
theorem word_size' (f : Nat → Nat) : (Try.prog.info? 82).map (·.size) = some (wordA f).size := by rw [wordA_size]; exact word_size
theorem ret_agg {a b : Array Value} (h : a = b) : Ending.returned (.agg a) = .returned (.agg b) := by rw [h]
set_option maxRecDepth 100000 in
theorem walshWord_any (n i : Nat) (w : World) (hn : n ≤ 64) (hi : i < 64) :
    Calls Try.prog 62 #[.int .i64 n, .int .i64 i] w fun e w' => e = .returned (.agg (wordA (fun v => if v < n then walF i v else 0))) ∧ Below w.heap.size w w' := by
  go_enter Try.func62, Try.ntmps62
  go_wp2
  go_loopw [8] (fun j wr => ∃ k : Nat, k ≤ n ∧ j = .int .i64 k ∧ Bytes wr (w.heap.size + 1) 82 64 (fun v => if v < k then walF i v else 0) ∧ Bytes wr w.heap.size 82 64 (fun _ => 0) ∧ Below w.heap.size w wr) (fun j _ => n - (intOf j).toNat)
  case atStart =>
    exact ⟨0, by omega, rfl, Bytes.congr (Bytes.zero _ (by kernel_rfl) (by simp)) (fun v _ => by simp), World.rowIs.alloc (Bytes.zero _ (by kernel_rfl) rfl) _, ((Below.refl _ _).alloc (Nat.le_refl _) _).alloc (by simp) _⟩
  case round =>
    obtain ⟨k, hk, rfl, rB, rZ, rb⟩ := hrel
    by_cases hlt : k < n
    · have hx := and64 i k (by omega) (by omega)
      have hbd := and_bd i k hi
      have hP := fun w => parity_any (i &&& k) w (by omega)
      have hp2 := walF_lt i k
      have hd : walF i k = par (i &&& k) := rfl
      obtain ⟨X, hX⟩ : ∃ X, i &&& k = X := ⟨_, rfl⟩
      rw [hX] at hx hP hd
      obtain ⟨Y, hY⟩ : ∃ Y, par X = Y := ⟨_, rfl⟩
      rw [hY] at hP hd
      rw [hd] at hp2
      have hc := rB.cell k (by omega)
      have hf := World.rowIs.frozen rB k
      have i0 : (0 : Int) ≤ (k : Int) := by omega
      have i1 : (k : Int) < (n : Int) := by omega
      have i2 : (k : Int) < 64 := by omega
      have nB : Hid (Bytes (wr.setCell ⟨w.heap.size + 1, k, none⟩ (.int .u8 (Y : Nat))) (w.heap.size + 1) 82 64 (fun v => if v < k + 1 then walF i v else 0)) :=
        row_step (F := fun v => walF i v) rB hd
      have nZ : Hid (Bytes (wr.setCell ⟨w.heap.size + 1, k, none⟩ (.int .u8 (Y : Nat))) w.heap.size 82 64 (fun _ => 0)) := Lib.hid (World.rowIs.setOther rZ (by simp) _)
      have nb : Hid (Below w.heap.size w (wr.setCell ⟨w.heap.size + 1, k, none⟩ (.int .u8 (Y : Nat)))) := Lib.hid (bytes_below rb (by omega) _ _)
      clear hd hX hY rB rZ rb hbd
      go_wp2_with (first | (go_at_call 76; refine (hP _).mono ?_; rintro e w' ⟨rfl, rfl⟩))
      clear hx hP
      go_roundw
      case rel => exact ⟨k + 1, by omega, by go_num, nB.out, nZ.out, nb.out⟩
      case measure => simp [intOf]; omega
    · obtain rfl : k = n := by omega
      have g1 := Bytes.row rB
      have g2 := Bytes.row rZ
      have s1 := word_size' (fun v => if v < k then walF i v else 0)
      obtain ⟨F, hF⟩ : ∃ F : Nat → Nat, (fun v => if v < k then walF i v else 0) = F := ⟨_, rfl⟩
      rw [hF] at g1 s1
      have HF := Lib.hid hF
      have z1 := wordA_size (fun _ => 0)
      obtain ⟨A, hA⟩ : ∃ A, wordA F = A := ⟨_, rfl⟩
      obtain ⟨Z, hZ⟩ : ∃ Z, wordA (fun _ => 0) = Z := ⟨_, rfl⟩
      rw [hA] at g1 s1
      rw [hZ] at g2 z1
      have HA := Lib.hid hA
      clear hA hZ hF rB rZ
      go_wp2_with (first | (refine wpList_load_row rfl 82 _ rfl (w.heap.size + 1) rfl 82 A (0, 0) _ g1 Try.underlying82 rfl s1 ?_) | (refine wpList_store_word rfl 82 _ _ rfl w.heap.size F A HA.out.symm rfl rfl 82 Z g2 word_size z1 ?_; intro W hbel hW))
      have r3 := Bytes.row hW
      rw [HA.out] at r3
      refine bodyPost_ret (results_cell_row Try.results62 _ _ w.heap.size 82 A (0, 0) _ rfl r3 Try.underlying82 rfl s1) rfl ⟨ret_agg (by rw [HF.out, HA.out]), hbel _ _ rb (Nat.le_refl _)⟩
set_option maxRecDepth 100000 in
theorem text_any (g n : Nat) (f : Nat → Nat) (w : World) (hf : Bytes w g 82 64 f) (h2 : ∀ i, f i < 2) (hn : n ≤ 64) :
    Calls Try.prog 63 #[.pointer (some ⟨g, 0, none⟩), .int .i64 n] w fun e w' => e = .returned (.string (strF n (fun k => 48 + f k))) ∧ Below w.heap.size w w' := by
  have hmk := make_bytes n (by omega) (by omega)
  have hgl := hf.lt
  have HF := Lib.hid hf
  have H2 := Lib.hid h2
  clear hf h2
  go_enter Try.func63, Try.ntmps63
  go_wp2
  go_loopw [11] (fun j wr => ∃ k : Nat, k ≤ n ∧ j = .int .i64 k ∧ Bytes wr w.heap.size 5 n (fun v => if v < k then 48 + f v else 0) ∧ Below w.heap.size w wr) (fun j _ => n - (intOf j).toNat)
  case atStart => exact ⟨0, by omega, rfl, Bytes.congr (Bytes.new rfl) (fun v _ => by simp), (Below.refl _ _).alloc (Nat.le_refl _) _⟩
  case round =>
    obtain ⟨k, hk, rfl, rB, rb⟩ := hrel
    clear hmk
    by_cases hlt : k < n
    · have c1 := HF.out.cell k (by omega)
      rw [← rb.cell (p := ⟨g, k, none⟩) hgl] at c1
      have hb2 := H2.out k
      obtain ⟨Y, hY⟩ : ∃ Y, f k = Y := ⟨_, rfl⟩
      rw [hY] at c1 hb2
      obtain ⟨V, hV⟩ : ∃ V, 48 + Y = V := ⟨_, rfl⟩
      have v4 : (48 : Int) + (Y : Int) = (V : Int) := by omega
      have hVV : 48 + f k = V := by rw [hY, hV]
      have hc := rB.cell k hlt
      have hf := World.rowIs.frozen rB k
      have i0 : (0 : Int) ≤ (k : Int) := by omega
      have i1 : (k : Int) < (n : Int) := by omega
      have i2 : (k : Int) < 64 := by omega
      have hV2 : V < 50 := by omega
      have nB : Hid (Bytes (wr.setCell ⟨w.heap.size, k, none⟩ (.int .u8 (V : Nat))) w.heap.size 5 n (fun v => if v < k + 1 then 48 + f v else 0)) :=
        row_step (F := fun v => 48 + f v) rB hVV
      have nb : Hid (Below w.heap.size w (wr.setCell ⟨w.heap.size, k, none⟩ (.int .u8 (V : Nat)))) := Lib.hid (bytes_below rb (Nat.le_refl _) _ _)
      clear hV hVV hY rB rb
      go_wp2
      clear v4
      go_roundw
      case rel => exact ⟨k + 1, by omega, by go_num, nB.out, nb.out⟩
      case measure => simp [intOf]; omega
    · obtain rfl : k = n := by omega
      have hst := fun cap => rB.str (P := Try.prog) 27 5 9 (by kernel_rfl) (by kernel_rfl) (by kernel_rfl) 0 k cap (by omega)
      obtain ⟨y, hy⟩ : ∃ y, strF k (fun j => if 0 + j < k then 48 + f (0 + j) else 0) = y := ⟨_, rfl⟩
      rw [hy] at hst
      have HY : Hid (y = strF k (fun k => 48 + f k)) := Lib.hid (by rw [← hy]; exact strF_congr fun j hj => by simp [hj])
      clear hy
      go_wp2
      go_ret
      exact ⟨ret_str HY.out, rb⟩
set_option maxRecDepth 100000 in
theorem iWalsh_any (o i : Int) (w : World) :
    Calls Try.prog 44 #[.int .i64 o, .int .i64 i] w fun e w' => e = .returned (.tuple #[.string (walshAns o i).1, .bool (walshAns o i).2]) ∧ Below w.heap.size w w' := by
  by_cases h1 : 0 ≤ o ∧ o ≤ 6
  · obtain ⟨q, rfl⟩ : ∃ q : Nat, o = q := ⟨o.toNat, by omega⟩
    have h6 : q ≤ 6 := by omega
    have hT := tw_6 q h6
    have hw := wrap_tw60 q (by omega)
    by_cases h3 : 0 ≤ i ∧ i < tw q
    · obtain ⟨j, rfl⟩ : ∃ j : Nat, i = j := ⟨i.toNat, by omega⟩
      rw [walshAns_yes h6 (by omega)]
      have hW := fun w => walshWord_any (tw q) j w hT (by omega)
      have h4 : ¬ ((tw q : Nat) : Int) ≤ (j : Int) := by omega
      have h5 : ¬ ((j : Int) < 0) := by omega
      have h7 : (j : Int) < ((tw q : Nat) : Int) := by omega
      unfold walshB
      have HT := Lib.hid (fun (g : Nat) w hB => text_any g (tw q) (fun v => if v < tw q then walF j v else 0) w hB (fun v => by split; exact walF_lt _ _; omega) hT)
      have HE : Hid (strF (tw q) (fun k => 48 + if k < tw q then walF j k else 0) = strF (tw q) (fun k => 48 + walF j k)) := Lib.hid (strF_congr fun v hv => by rw [if_pos hv])
      obtain ⟨F, hF⟩ : ∃ F : Nat → Nat, (fun v => if v < tw q then walF j v else 0) = F := ⟨_, rfl⟩
      rw [hF] at hW HT
      obtain ⟨A, hA⟩ : ∃ A, wordA F = A := ⟨_, rfl⟩
      rw [hA] at hW
      have HA := Lib.hid hA
      obtain ⟨T, hTT⟩ : ∃ T, tw q = T := ⟨_, rfl⟩
      rw [hTT] at hW hT h4 h7 hw HT HE ⊢
      clear hTT h3 hA hF
      go_enter Try.func44, Try.ntmps44
      go_wp2_with fail
      refine (orderValid_yes _ _ h1.1 h1.2).mono ?_
      rintro e w' ⟨rfl, rfl⟩
      clear h1
      go_wp2_with fail
      refine (hW _).mono ?_
      rintro e w1 ⟨rfl, hb⟩
      go_wp2_with (first | (refine wpList_store_word rfl 82 _ _ rfl w1.heap.size F A HA.out.symm rfl rfl 82 _ (heap_alloc_new w1 _) word_size ?_ ?_; kernel_rfl; intro W hbel hL; have b2 := hbel _ _ (hb.alloc hb.size _) hb.size) | (go_at_call 63; refine (HT.out _ _ hL).mono ?_; rintro e w2 ⟨rfl, hb2⟩))
      have b3 := below_then b2 (Nat.le_refl _) hb2
      go_ret2
      exact ⟨by rw [← HE.out]; rfl, b3⟩
    · rw [walshAns_no (by rw [Int.toNat_natCast]; intro hh; exact h3 hh.2)]
      by_cases h8 : i < 0
      · clear h3 hw
        go_enter Try.func44, Try.ntmps44
        go_wp2_with fail
        refine (orderValid_yes _ _ h1.1 h1.2).mono ?_
        rintro e w' ⟨rfl, rfl⟩
        clear h1
        go_wp2
        go_ret2
        exact ⟨rfl, Below.refl _ _⟩
      · have h4 : ((tw q : Nat) : Int) ≤ i := by omega
        obtain ⟨T, hTT⟩ : ∃ T, tw q = T := ⟨_, rfl⟩
        rw [hTT] at hw h4
        clear hTT h3
        go_enter Try.func44, Try.ntmps44
        go_wp2_with fail
        refine (orderValid_yes _ _ h1.1 h1.2).mono ?_
        rintro e w' ⟨rfl, rfl⟩
        clear h1
        go_wp2
        go_ret2
        exact ⟨rfl, Below.refl _ _⟩
  · rw [walshAns_no (fun hh => h1 hh.1)]
    go_enter Try.func44, Try.ntmps44
    go_wp2_with fail
    refine (orderValid_no _ _ h1).mono ?_
    rintro e w' ⟨rfl, rfl⟩
    go_wp2
    go_ret2
    exact ⟨rfl, Below.refl _ _⟩
end Go.Proofs.Ytmlmpekhcnjehaa
namespace Go.Proofs.Ytmlmpekhcnjehaa
open Go.RowKit
set_option linter.unusedVariables false
set_option maxRecDepth 100000
theorem ssWal_any (o i : Int) (w : World) :
    Calls Try.prog 22 #[.int .i64 o, .int .i64 i] w fun e w' => e = .returned (.string (walshAns o i).1) ∧ Below w.heap.size w w' := by
  have hi := fun w => iWalsh_any o i w
  obtain ⟨A, hA⟩ : ∃ A, walshAns o i = A := ⟨_, rfl⟩
  rw [hA] at hi ⊢
  have HI := Lib.hid hi
  clear hi hA
  go_enter Try.func22, Try.ntmps22
  go_wp2_with fail
  refine (HI.out _).mono ?_
  rintro e w1 ⟨rfl, b1⟩
  go_wp2
  go_ret
  exact ⟨rfl, b1⟩
end Go.Proofs.Ytmlmpekhcnjehaa
