/- The different numbers of a list, ascending: CrossValues of both sides. -/
import Derived.Test.YtmlmpekhcnjehaaSeqIns
import Derived.Lib.SlicesCompact
import Derived.Test.YtmlmpekhcnjehaaSortLay
import Derived.Lib.OwnBridge
import Derived.Lib.AppendIntMem
namespace Go.Proofs.Ytmlmpekhcnjehaa
open Go.RowKit
set_option linter.unusedVariables false
def addL (o : List Int) (x : Int) : List Int := if x ∈ o then o else insL x o
def valK (f : Nat → Int) : Nat → List Int
  | 0 => []
  | k + 1 => addL (valK f k) (f k)
theorem insL_mem (n y : Int) : ∀ l, y ∈ insL n l ↔ y = n ∨ y ∈ l
  | [] => by simp [insL]
  | x :: l => by
    simp only [insL]
    split
    · simp
    · simp only [List.mem_cons, insL_mem n y l]
      constructor
      · rintro (h | h | h)
        · exact .inr (.inl h)
        · exact .inl h
        · exact .inr (.inr h)
      · rintro (h | h | h)
        · exact .inr (.inl h)
        · exact .inl h
        · exact .inr (.inr h)
theorem insL_asc (n : Int) : ∀ l : List Int, l.Pairwise (· < ·) → n ∉ l → (insL n l).Pairwise (· < ·)
  | [], _, _ => by simp [insL]
  | x :: l, h, hn => by
    rw [List.pairwise_cons] at h
    simp only [List.mem_cons, not_or] at hn
    simp only [insL]
    split
    · next hx =>
      refine List.pairwise_cons.2 ⟨fun y hy => ?_, List.pairwise_cons.2 h⟩
      rcases List.mem_cons.1 hy with rfl | hy
      · exact hx
      · have := h.1 y hy; omega
    · next hx =>
      refine List.pairwise_cons.2 ⟨fun y hy => ?_, insL_asc n l h.2 hn.2⟩
      rcases (insL_mem n y l).1 hy with rfl | hy
      · have := hn.1; omega
      · exact h.1 y hy
theorem asc_ext : ∀ l m : List Int, l.Pairwise (· < ·) → m.Pairwise (· < ·) → (∀ x, x ∈ l ↔ x ∈ m) → l = m
  | [], [], _, _, _ => rfl
  | [], y :: m, _, _, h => by have := (h y).2 (List.mem_cons_self ..); cases this
  | x :: l, [], _, _, h => by have := (h x).1 (List.mem_cons_self ..); cases this
  | x :: l, y :: m, h1, h2, h => by
    rw [List.pairwise_cons] at h1 h2
    have e : x = y := by
      rcases List.mem_cons.1 ((h x).1 (List.mem_cons_self ..)) with e | hx
      · exact e
      · rcases List.mem_cons.1 ((h y).2 (List.mem_cons_self ..)) with e | hy
        · exact e.symm
        · have := h2.1 x hx; have := h1.1 y hy; omega
    subst e
    rw [asc_ext l m h1.2 h2.2 fun z => ?_]
    constructor
    · intro hz
      rcases List.mem_cons.1 ((h z).1 (List.mem_cons_of_mem _ hz)) with rfl | hz'
      · have := h1.1 z hz; omega
      · exact hz'
    · intro hz
      rcases List.mem_cons.1 ((h z).2 (List.mem_cons_of_mem _ hz)) with rfl | hz'
      · have := h2.1 z hz; omega
      · exact hz'
theorem valK_mem (f : Nat → Int) (y : Int) : ∀ k, y ∈ valK f k ↔ ∃ j, j < k ∧ f j = y
  | 0 => by simp [valK]
  | k + 1 => by
    have ih := valK_mem f y k
    simp only [valK, addL]
    constructor
    · intro h
      by_cases hx : f k ∈ valK f k
      · rw [if_pos hx] at h
        obtain ⟨j, hj, e⟩ := ih.1 h
        exact ⟨j, by omega, e⟩
      · rw [if_neg hx] at h
        rcases (insL_mem _ _ _).1 h with rfl | h
        · exact ⟨k, by omega, rfl⟩
        · obtain ⟨j, hj, e⟩ := ih.1 h
          exact ⟨j, by omega, e⟩
    · rintro ⟨j, hj, e⟩
      by_cases hx : f k ∈ valK f k
      · rw [if_pos hx]
        by_cases hjk : j = k
        · subst hjk; rw [← e]; exact hx
        · exact ih.2 ⟨j, by omega, e⟩
      · rw [if_neg hx]
        by_cases hjk : j = k
        · subst hjk; exact (insL_mem _ _ _).2 (.inl e.symm)
        · exact (insL_mem _ _ _).2 (.inr (ih.2 ⟨j, by omega, e⟩))
theorem valK_asc (f : Nat → Int) : ∀ k, (valK f k).Pairwise (· < ·)
  | 0 => List.Pairwise.nil
  | k + 1 => by
    simp only [valK, addL]
    split
    · exact valK_asc f k
    · next h => exact insL_asc _ _ (valK_asc f k) h
theorem valK_len (f : Nat → Int) : ∀ k, (valK f k).length ≤ k
  | 0 => Nat.le_refl _
  | k + 1 => by
    have := valK_len f k
    simp only [valK, addL]
    split
    · omega
    · rw [insL_length]; omega
/-- Of an ascending list, the elements that Compact keeps: strictly ascending, the same ones. -/
theorem compact_upTo (d : Array Int) (n : Nat) (hs : ∀ i j, i ≤ j → j < n → d[i]! ≤ d[j]!) : ∀ m, m ≤ n → (Lib.compactUpTo d m).Pairwise (· < ·) ∧ ∀ y, y ∈ Lib.compactUpTo d m ↔ ∃ j, j < m ∧ d[j]! = y
  | 0, _ => by simp [Lib.compactUpTo]
  | m + 1, hm => by
    obtain ⟨h1, h2⟩ := compact_upTo d n hs m (by omega)
    by_cases hk : Lib.keeps d m = true
    · have e : Lib.compactUpTo d (m + 1) = Lib.compactUpTo d m ++ [d[m]!] := by unfold Lib.compactUpTo; rw [List.range_succ, List.filter_append, List.map_append]; simp [hk]
      rw [e]
      have hk' : m = 0 ∨ d[m]! ≠ d[m - 1]! := by simpa [Lib.keeps] using hk
      refine ⟨List.pairwise_append.2 ⟨h1, by simp, fun a ha b hb => ?_⟩, fun y => ?_⟩
      · rw [List.mem_singleton] at hb
        subst hb
        obtain ⟨j, hj, rfl⟩ := (h2 a).1 ha
        have ha := hs j (m - 1) (by omega) (by omega)
        have hb := hs (m - 1) m (by omega) (by omega)
        rcases hk' with h | h
        · omega
        · omega
      · rw [List.mem_append, h2, List.mem_singleton]
        constructor
        · rintro (⟨j, hj, e⟩ | rfl)
          · exact ⟨j, by omega, e⟩
          · exact ⟨m, by omega, rfl⟩
        · rintro ⟨j, hj, ee⟩
          by_cases hjm : j = m
          · subst hjm; exact .inr ee.symm
          · exact .inl ⟨j, by omega, ee⟩
    · have e : Lib.compactUpTo d (m + 1) = Lib.compactUpTo d m := by unfold Lib.compactUpTo; rw [List.range_succ, List.filter_append, List.map_append]; simp [hk]
      rw [e]
      have hk' : ¬ (m = 0 ∨ d[m]! ≠ d[m - 1]!) := by simpa [Lib.keeps] using hk
      refine ⟨h1, fun y => ?_⟩
      rw [h2]
      constructor
      · rintro ⟨j, hj, e⟩; exact ⟨j, by omega, e⟩
      · rintro ⟨j, hj, ee⟩
        by_cases hjm : j = m
        · subst hjm
          have h0 : j ≠ 0 := fun h => hk' (.inl h)
          have h3 : d[j]! = d[j - 1]! := by by_cases h : d[j]! = d[j - 1]!; exact h; exact absurd (.inr h) hk'
          exact ⟨j - 1, by omega, by rw [← h3]; exact ee⟩
        · exact ⟨j, by omega, ee⟩
def srt (l : List Int) : List Int := l.mergeSort fun x y => decide (x ≤ y)
theorem srt_len (l : List Int) : (srt l).length = l.length := List.length_mergeSort l
theorem srt_mem (l : List Int) (y : Int) : y ∈ srt l ↔ y ∈ l := List.mem_mergeSort
theorem srt_asc (l : List Int) : (srt l).Pairwise (· ≤ ·) := by
  have := List.pairwise_mergeSort (le := fun x y : Int => decide (x ≤ y)) (fun a b c h1 h2 => by simp at h1 h2 ⊢; omega) (fun a b => by simp; omega) l
  exact this.imp fun h => by simpa using h
theorem vals_eq (f : Nat → Int) (n : Nat) : Lib.compact (srt ((List.range n).map f)) = valK f n := by
  have hs := srt_asc ((List.range n).map f)
  have hl : (srt ((List.range n).map f)).length = n := by rw [srt_len]; simp
  obtain ⟨s, e⟩ : ∃ s, srt ((List.range n).map f) = s := ⟨_, rfl⟩
  have hm : ∀ y, y ∈ s ↔ ∃ j, j < n ∧ f j = y := fun y => by rw [← e, srt_mem]; simp
  rw [e] at hs hl ⊢
  have hget : ∀ i, i < n → ∀ h : i < s.length, s.toArray[i]! = s[i] := fun i hi h => by simp [getElem!_pos, h]
  obtain ⟨h1, h2⟩ := compact_upTo s.toArray n (fun i j hij hj => by
    rw [hget i (by omega) (by omega), hget j hj (by omega)]
    by_cases hlt : i < j
    · exact List.pairwise_iff_getElem.1 hs i j (by omega) (by omega) hlt
    · obtain rfl : i = j := by omega
      exact Int.le_refl _) n (Nat.le_refl _)
  unfold Lib.compact
  rw [hl]
  refine asc_ext _ _ h1 (valK_asc f n) fun y => ?_
  rw [h2, valK_mem, ← hm y, List.mem_iff_getElem]
  constructor
  · rintro ⟨j, hj, ee⟩; exact ⟨j, by omega, by rw [← hget j hj (by omega)]; exact ee⟩
  · rintro ⟨j, hj, ee⟩; exact ⟨j, by omega, by rw [hget j (by omega) hj]; exact ee⟩
theorem rangeLF (l : List Int) : ((List.range l.length).map fun j => Value.int .i64 (LF l j)) = l.map (Value.int .i64) := by
  apply List.ext_getElem (by simp)
  intro i h1 h2
  simp only [List.length_map] at h2
  simp [LF, h2]
theorem OF.own {w : World} {B : Nat} {v : Value} {l : List Int} : OF w B v l.length (LF l) ↔ w.ownsRow B 3 1 v l.length (l.map (Value.int .i64)) := by unfold OF; rw [rangeLF]
theorem OF.list {w : World} {B : Nat} {v : Value} {n : Nat} {f : Nat → Int} (h : OF w B v n f) : OF w B v ((List.range n).map f).length (LF ((List.range n).map f)) := by
  rw [List.length_map, List.length_range]
  exact h.congr fun j hj => by simp [LF, hj]
theorem compact_len (l : List Int) : (Lib.compact l).length ≤ l.length := by
  unfold Lib.compact Lib.compactUpTo
  rw [List.length_map]
  exact Nat.le_trans (List.length_filter_le _ _) (by simp)
theorem sort_any (v : Value) (B : Nat) (l : List Int) (w : World) (h : OF w B v l.length (LF l)) (hl : l.length ≤ 1000000) (hB : B ≤ w.heap.size) :
    Calls Try.prog 51 #[v] w fun e w' => e = .returned (.tuple #[]) ∧ OF w' B v (srt l).length (LF (srt l)) ∧ Below B w w' := by
  by_cases h0 : l = []
  · subst h0
    obtain ⟨a, cap, rfl, _⟩ := h.form
    refine (sort_ints_none a cap w).mono ?_
    rintro e w' ⟨rfl, rfl⟩
    exact ⟨rfl, by rw [show srt [] = [] by simp [srt]]; exact h, Below.refl _ _⟩
  · have hl0 : 0 < l.length := List.length_pos_iff.2 h0
    obtain ⟨g, cap, rfl, hg, hgl, hc, _, _, hH⟩ := Lib.holds_of_ownsRow (OF.own.1 h) (by intro e; obtain ⟨a, c, e', h'⟩ := h.form; rw [e] at e'; injection e' with _ e2 _; omega)
    refine (sort_ints g 0 cap l w hH hgl (by omega)).mono ?_
    rintro e w' ⟨rfl, n, os, rfl⟩
    have h1 := Lib.ownsRow_putRow (q := n) (k := l.length) (ys := srt l) (OF.own.1 h) (srt_len l) (Nat.le_refl _)
    rw [List.take_of_length_le (by rw [srt_len]; exact Nat.le_refl _)] at h1
    have h2 := Lib.ownsRow_grow h1 0 os
    have b1 : Below B w (Go.Sort.putRow (Value.int .i64) (Go.Sort.ahead w n) g 0 (srt l).toArray) := Lib.below_putRow (Below.refl _ _) hg
    refine ⟨rfl, ?_, below_then b1 hB (Lib.below_grow _ _ (Nat.le_refl _) 0 os)⟩
    rw [OF.own, srt_len]
    exact h2
theorem compact_any (v : Value) (B : Nat) (l : List Int) (w : World) (h : OF w B v l.length (LF l)) (hl : l.length ≤ 1000000) :
    Calls Try.prog 52 #[v] w fun e w' => ∃ v', e = .returned v' ∧ OF w' B v' (Lib.compact l).length (LF (Lib.compact l)) ∧ Below B w w' := by
  by_cases h0 : l = []
  · subst h0
    obtain ⟨a, cap, rfl, _⟩ := h.form
    refine (compact_ints_empty a cap w).mono ?_
    rintro e w' ⟨rfl, rfl⟩
    exact ⟨_, rfl, h, Below.refl _ _⟩
  · have hl0 : 0 < l.length := List.length_pos_iff.2 h0
    obtain ⟨g, cap, rfl, hg, hgl, hc, _, _, hH⟩ := Lib.holds_of_ownsRow (OF.own.1 h) (by intro e; obtain ⟨a, c, e', h'⟩ := h.form; rw [e] at e'; injection e' with _ e2 _; omega)
    refine (compact_ints g 0 cap l w hH (by omega) hc).mono ?_
    rintro e w' ⟨rfl, q, rfl⟩
    have hcl := compact_len l
    have h1 := Lib.ownsRow_putRow (q := q) (k := (Lib.compact l).length) (ys := Lib.compact l ++ List.replicate (l.length - (Lib.compact l).length) 0) (OF.own.1 h) (by simp; omega) hcl
    rw [List.take_left] at h1
    exact ⟨_, rfl, OF.own.2 h1, Lib.below_putRow (Below.refl _ _) hg⟩
set_option maxRecDepth 100000 in
theorem iVals_any (a b : ByteArray) (w : World) (ha : a.size ≤ 9223372036854775807) (hb : b.size ≤ 9223372036854775807) :
    Calls Try.prog 31 #[.string a, .string b] w fun e w' => ∃ v, e = .returned v ∧ OF w' w.heap.size v (valK (tabF a b) (tabN a b)).length (LF (valK (tabF a b) (tabN a b))) ∧ Below w.heap.size w w' := by
  have HT := Lib.hid (fun w => iTab_any a b w ha hb)
  have hn := tabN_le a b
  have HV := Lib.hid (vals_eq (tabF a b) (tabN a b))
  obtain ⟨f, hf⟩ : ∃ f, tabF a b = f := ⟨_, rfl⟩
  obtain ⟨n, hN⟩ : ∃ n, tabN a b = n := ⟨_, rfl⟩
  rw [hf, hN] at HT HV
  rw [hN] at hn
  rw [hf, hN]
  clear hf hN ha hb
  go_enter Try.func31, Try.ntmps31
  go_wp2_with fail
  refine (HT.out _).mono ?_
  rintro e w1 ⟨v, rfl, O1, b1⟩
  have P1 := Lib.hid O1.list
  clear O1
  have hlen : ((List.range n).map f).length ≤ 1000000 := by simp; omega
  obtain ⟨L, hL⟩ : ∃ L, (List.range n).map f = L := ⟨_, rfl⟩
  rw [hL] at P1 HV hlen
  clear hL
  go_wp2_with fail
  refine (sort_any v _ L _ P1.out hlen b1.size).mono ?_
  rintro e w2 ⟨rfl, O2, b2⟩
  have P2 := Lib.hid O2
  have c2 : Below w.heap.size w w2 := b1.trans b2
  clear O2 b2 P1 b1
  go_wp2_with fail
  refine (compact_any v _ (srt L) _ P2.out (by rw [srt_len]; exact hlen)).mono ?_
  rintro e w3 ⟨v', rfl, O3, b3⟩
  have c3 : Below w.heap.size w w3 := c2.trans b3
  rw [HV.out] at O3
  clear b3 P2 c2
  go_wp2
  go_ret
  exact ⟨_, rfl, O3, c3⟩
def vlsN (a b : ByteArray) : Nat := (valK (tabF a b) (tabN a b)).length
def valF (a b : ByteArray) : Nat → Int := LF (valK (tabF a b) (tabN a b))
theorem valN_le6 (a b : ByteArray) : vlsN a b ≤ 1000000 := by
  have h1 := valK_len (tabF a b) (tabN a b)
  have h2 := tabN_le a b
  unfold vlsN
  omega
set_option maxRecDepth 100000 in
theorem sVals_any (a b : ByteArray) (w : World) (ha : a.size ≤ 9223372036854775807) (hb : b.size ≤ 9223372036854775807) :
    Calls Try.prog 47 #[.string a, .string b] w fun e w' => ∃ v, e = .returned v ∧ OF w' w.heap.size v (valK (tabF a b) (tabN a b)).length (LF (valK (tabF a b) (tabN a b))) ∧ Below w.heap.size w w' := by
  have HT := Lib.hid (fun w => sTab_any a b w ha hb)
  have hn := tabN_le a b
  obtain ⟨f, hf⟩ : ∃ f, tabF a b = f := ⟨_, rfl⟩
  obtain ⟨n, hN⟩ : ∃ n, tabN a b = n := ⟨_, rfl⟩
  rw [hf, hN] at HT
  rw [hN] at hn
  rw [hf, hN]
  clear hf hN ha hb
  go_enter Try.func47, Try.ntmps47
  go_wp2_with fail
  refine (HT.out _).mono ?_
  rintro e w1 ⟨v, rfl, O1, b1⟩
  obtain ⟨sl, cap, rfl, hsl⟩ := O1.form
  have P1 := Lib.hid O1
  have HSL := Lib.hid hsl
  clear O1 hsl
  go_wp2
  go_loopw [6, 7] (fun o i wr => ∃ k : Nat, k ≤ n ∧ i = .int .i64 k ∧ OF wr w.heap.size o (valK f k).length (LF (valK f k)) ∧ Hid (OF wr w.heap.size (.slice sl n cap) n f) ∧ Below w.heap.size w wr) (fun _ i _ => n - (intOf i).toNat)
  case atStart => exact ⟨0, by omega, rfl, (OF.empty w1 _).mono b1.size, Lib.hid (P1.out.alloc _), b1.alloc b1.size _⟩
  case round =>
    obtain ⟨k, hk, rfl, rO, rT, rb⟩ := hrel
    have hlen := valK_len f k
    by_cases hlt : k < n
    · obtain ⟨g, hg, _, _, _⟩ := HSL.out (by omega)
      subst hg
      have c1 := (rT.out.at k hlt).1
      have HM := Lib.hid (fun w v B (h : OF w B v (valK f k).length (LF (valK f k))) => l2Has_any v B (valK f k) (f k) w h (by omega))
      have HI := Lib.hid (fun w v B (h : OF w B v (valK f k).length (LF (valK f k))) => l1Insert_any v B (valK f k) (f k) w h (by omega))
      have HK : Hid (valK f (k + 1) = if f k ∈ valK f k then valK f k else insL (f k) (valK f k)) := Lib.hid rfl
      obtain ⟨x, hx⟩ : ∃ x, f k = x := ⟨_, rfl⟩
      obtain ⟨l, hl⟩ : ∃ l, valK f k = l := ⟨_, rfl⟩
      rw [hx] at c1 HM HI HK
      rw [hl] at rO HM HI HK hlen
      have i0 : (0 : Int) ≤ (k : Int) := by omega
      have i1 : (k : Int) < (n : Int) := by omega
      clear hx hl
      by_cases hxl : x ∈ l
      · have hd : decide (x ∈ l) = true := decide_eq_true hxl
        have hK := HK.out
        rw [if_pos hxl] at hK
        have rO2 := rO
        rw [← hK] at rO2
        have RO2 := Lib.hid rO2
        rw [hd] at HM
        clear hd hK rO2 hxl
        go_wp2_with fail
        refine (HM.out _ _ _ rO).mono ?_
        rintro e w' ⟨rfl, rfl⟩
        go_wp2
        go_roundw
        case rel => exact ⟨k + 1, by omega, by go_num, RO2.out, rT, rb⟩
        case measure => simp [intOf]; omega
      · have hd : decide (x ∈ l) = false := decide_eq_false hxl
        have hK := HK.out
        rw [if_neg hxl] at hK
        rw [← hK] at HI
        rw [hd] at HM
        clear hd hK hxl
        go_wp2_with fail
        refine (HM.out _ _ _ rO).mono ?_
        rintro e w' ⟨rfl, rfl⟩
        go_wp2_with fail
        refine (HI.out _ _ _ rO).mono ?_
        rintro e w' ⟨v', rfl, O2, b2⟩
        have O3 := O2.mono rb.size
        have rT2 := Lib.hid (rT.out.below b2)
        have b3 := below_then rb (Nat.le_refl _) b2
        clear O2 b2 rT rb rO c1
        go_wp2
        go_roundw
        case rel => exact ⟨k + 1, by omega, by go_num, O3, rT2, b3⟩
        case measure => simp [intOf]; omega
    · obtain rfl : k = n := by omega
      go_wp2
      go_ret
      exact ⟨_, rfl, rO, rb⟩
theorem sVals (a b : ByteArray) (w : World) (ha : a.size ≤ 9223372036854775807) (hb : b.size ≤ 9223372036854775807) :
    Calls Try.prog 47 #[.string a, .string b] w fun e w' => ∃ v, e = .returned v ∧ OF w' w.heap.size v (vlsN a b) (valF a b) ∧ Below w.heap.size w w' := sVals_any a b w ha hb
theorem iVals (a b : ByteArray) (w : World) (ha : a.size ≤ 9223372036854775807) (hb : b.size ≤ 9223372036854775807) :
    Calls Try.prog 31 #[.string a, .string b] w fun e w' => ∃ v, e = .returned v ∧ OF w' w.heap.size v (vlsN a b) (valF a b) ∧ Below w.heap.size w w' := iVals_any a b w ha hb
end Go.Proofs.Ytmlmpekhcnjehaa
