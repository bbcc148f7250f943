/- Stations by value, and slices of them: the laws' helpers. -/
import Derived.Test.YtjnipbopimpggaaUsr0
import Derived.Test.YtjnipbopimpggaaStrs2
import Derived.Test.YtjnipbopimpggaaSsStr
namespace Go.Proofs.Ytjnipbopimpggaa
open Go.RowKit
set_option linter.unusedVariables false
set_option maxRecDepth 100000
theorem szStation_any (c p : ByteArray) (g d l : Int) (w : World) (hc : c.size ≤ 9223372036854775807) (hp : p.size ≤ 9223372036854775807) (h0 : 0 ≤ l) (h1 : l ≤ 1048576) :
    Calls Try.prog 18 #[.agg #[.string c, .string p, .int .i64 g, .int .i64 d], .int .i64 l] w fun e w' => e = .returned (.int .i64 (szU c p l)) ∧ Below w.heap.size w w' := by
  unfold szU
  by_cases q : l - (c.size : Int) < 0
  · rw [if_pos q]
    go_enter Try.func18, Try.ntmps18
    go_wp2
    go_ret
    exact ⟨rfl, by go_grown⟩
  · rw [if_neg q]
    by_cases q2 : l - (c.size : Int) - (p.size : Int) < 0
    · rw [if_pos q2]
      go_enter Try.func18, Try.ntmps18
      go_wp2
      go_ret
      exact ⟨rfl, by go_grown⟩
    · rw [if_neg q2]
      go_enter Try.func18, Try.ntmps18
      go_wp2
      go_ret
      exact ⟨rfl, by go_grown⟩
theorem toStation_any (c p : ByteArray) (g d : Int) (w : World) :
    Calls Try.prog 20 #[.agg #[.string c, .string p, .int .i64 g, .int .i64 d]] w fun e w' => e = .returned (.agg #[.string c, .string p, .int .i64 g, .int .i64 d]) ∧ Below w.heap.size w w' := by
  go_enter Try.func20, Try.ntmps20
  go_wp2
  go_returns
  exact ⟨rfl, by go_grown⟩
theorem eqStation_same (c p : ByteArray) (g d : Int) (w : World) :
    Calls Try.prog 45 #[.agg #[.string c, .string p, .int .i64 g, .int .i64 d], .agg #[.string c, .string p, .int .i64 g, .int .i64 d]] w fun e w' => e = .returned (.bool true) ∧ Below w.heap.size w w' := by
  go_enter Try.func45, Try.ntmps45
  go_wp2
  go_ret
  exact ⟨rfl, by go_grown⟩
set_option maxHeartbeats 1600000 in
theorem szStationS_any (v : Value) (n : Nat) (f : Nat → Usr) (w : World) (h : UsrsR w v n f) (hn : n ≤ 9223372036854775807) (hf : ∀ i, i < n → (f i).code.size ≤ 9223372036854775807 ∧ (f i).data.size ≤ 9223372036854775807) :
    Calls Try.prog 13 #[v, .int .i64 1048576] w fun e w' => ∃ Z : Int, e = .returned (.int .i64 Z) ∧ (¬ Z < 0 → n ≤ 1048576 ∧ ∀ i, i < n → (f i).code.size ≤ 1048576 ∧ (f i).data.size ≤ 1048576) ∧ Below w.heap.size w w' := by
  obtain ⟨a, cap, rfl, hc⟩ := h
  have HC := Lib.hid hc
  have HF := Lib.hid hf
  clear hc hf
  by_cases q : (1048576 : Int) - (n : Int) < 0
  · go_enter Try.func13, Try.ntmps13
    go_wp2
    go_ret
    exact ⟨-1, rfl, fun h => absurd (show (0 : Int) ≤ -1 from h) (by decide), Below.refl _ _⟩
  · go_enter Try.func13, Try.ntmps13
    go_wp2
    go_loopw [1, 5] (fun l i wr => ∃ (k : Nat) (L : Int), k ≤ n ∧ i = .int .i64 k ∧ l = .int .i64 L ∧ 0 ≤ L ∧ L ≤ 1048576 ∧ Hid (∀ i, i < k → (f i).code.size ≤ 1048576 ∧ (f i).data.size ≤ 1048576) ∧ Below w.heap.size w wr) (fun _ i _ => n - (intOf i).toNat)
    case atStart => exact ⟨0, _, by omega, rfl, rfl, by omega, by omega, Lib.hid (fun i hi => absurd hi (Nat.not_lt_zero i)), Below.refl _ _⟩
    case round =>
      obtain ⟨k, L, hk, rfl, rfl, l0, l1, rH, rb⟩ := hrel
      by_cases hlt : k < n
      · obtain ⟨b, o, rfl, hx, hcc⟩ := HC.out k hlt
        obtain ⟨f1, f2⟩ := HF.out k hlt
        obtain ⟨c0, c1, c2, c3⟩ := hcc.below rb hx
        have i0 : (0 : Int) ≤ (k : Int) := by omega
        have i1 : (k : Int) < (n : Int) := by omega
        have hz := fun g d w => szStation_any (f k).code (f k).data g d L w f1 f2 l0 l1
        obtain ⟨A, hA⟩ : ∃ A, (f k).code = A := ⟨_, rfl⟩
        obtain ⟨D, hD⟩ : ∃ D, (f k).data = D := ⟨_, rfl⟩
        have hbd := fun h => szU_at A D L (by omega) h
        rw [hA, hD] at hz
        rw [hA] at c0
        rw [hD] at c1
        obtain ⟨Z, hZ⟩ : ∃ Z, szU A D L = Z := ⟨_, rfl⟩
        rw [hZ] at hz hbd
        have HZ := Lib.hid (fun w => hz (f k).gain (f k).delay w)
        have HK : Hid (¬ Z < 0 → 0 ≤ Z ∧ Z ≤ 1048576 ∧ ∀ i, i < k + 1 → (f i).code.size ≤ 1048576 ∧ (f i).data.size ≤ 1048576) := Lib.hid (fun h => by
          obtain ⟨q1, q2, q3, q4⟩ := hbd h
          refine ⟨q1, by omega, fun i hi => ?_⟩
          by_cases e : i < k
          · exact rH.out i e
          · rw [show i = k by omega, hA, hD]; omega)
        clear hz hbd hA hD hZ hcc rH f1 f2
        go_wp2_with fail
        refine (HZ.out _).mono ?_
        rintro e w5 ⟨rfl, hb⟩
        have r5 := below_then rb (Nat.le_refl _) hb
        clear c0 c1 c2 c3 hb rb
        by_cases hz0 : Z < 0
        · go_wp2
          go_ret
          exact ⟨-1, rfl, fun h => absurd (show (0 : Int) ≤ -1 from h) (by decide), r5⟩
        · obtain ⟨z0, z1, z2⟩ := HK.out (by omega)
          have Z2 := Lib.hid z2
          clear z2 hx
          go_wp2
          go_roundw
          case rel => exact ⟨k + 1, Z, by omega, by go_num, rfl, z0, z1, Z2, r5⟩
          case measure => simp [intOf]; omega
      · obtain rfl : n = k := by omega
        go_wp2
        go_ret
        exact ⟨L, rfl, fun _ => ⟨by omega, rH.out⟩, rb⟩
/-- A slice of n stations of a call's own: element i is f i. -/
def TF (w : World) (B : Nat) (v : Value) (n : Nat) (f : Nat → Usr) : Prop := w.ownsRow B 33 4 v n (usrL n f)
theorem TF.congr {w : World} {B : Nat} {v : Value} {n : Nat} {f g : Nat → Usr} (h : TF w B v n f) (e : ∀ i, i < n → f i = g i) : TF w B v n g := by
  unfold TF at h ⊢
  rw [← usrL_congr e]; exact h
theorem TF.kept {w w' : World} {B : Nat} {v : Value} {n : Nat} {f : Nat → Usr} {row : Option Nat} (h : TF w B v n f) (hg : w.grownBy w' row) (hne : v.ownBlock = none ∨ v.ownBlock ≠ row) : TF w' B v n f := World.ownsRow.kept h hg hne
theorem TF.lt {w : World} {B : Nat} {v : Value} {n : Nat} {f : Nat → Usr} (h : TF w B v n f) : ∀ k, v.ownBlock = some k → B ≤ k ∧ k < w.heap.size := World.ownsRow.lt h
theorem TF.below {w w' : World} {B : Nat} {v : Value} {n : Nat} {f : Nat → Usr} (h : TF w B v n f) (hb : Below w.heap.size w w') : TF w' B v n f :=
  h.kept (grown_of_below hb) (by cases v.ownBlock <;> simp)
theorem TF.drewN {w : World} {B : Nat} {v : Value} {n : Nat} {f : Nat → Usr} (h : TF w B v n f) (m : Nat) : TF (w.drewN m) B v n f := h.below (below_drewN (Below.refl _ _) m)
theorem TF.alloc {w : World} {B : Nat} {v : Value} {n : Nat} {f : Nat → Usr} (h : TF w B v n f) (o : Obj) : TF (w.alloc o) B v n f := World.ownsRow.alloc h o
theorem TF.mono {w : World} {B C : Nat} {v : Value} {n : Nat} {f : Nat → Usr} (h : TF w B v n f) (hC : C ≤ B) : TF w C v n f := by
  obtain ⟨h1, ⟨rfl, rfl⟩ | ⟨g, cap, cur, rfl, hB, hg, hn, hm, hs, ht⟩⟩ := h
  · exact ⟨h1, .inl ⟨rfl, rfl⟩⟩
  · exact ⟨h1, .inr ⟨g, cap, cur, rfl, Nat.le_trans hC hB, hg, hn, hm, hs, ht⟩⟩
theorem TF.form {w : World} {B : Nat} {v : Value} {n : Nat} {f : Nat → Usr} (h : TF w B v n f) : ∃ a cap, v = .slice a n cap ∧ (0 < n → ∃ g, a = some ⟨g, 0, none⟩ ∧ B ≤ g ∧ g < w.heap.size) := by
  obtain ⟨h1, ⟨rfl, rfl⟩ | ⟨g, cap, cur, rfl, hB, hg, hn, hm, hs, ht⟩⟩ := h
  · exact ⟨none, 0, rfl, fun h => absurd h (Nat.lt_irrefl 0)⟩
  · exact ⟨_, cap, rfl, fun _ => ⟨g, rfl, hB, (Array.getElem?_eq_some_iff.1 hg).1⟩⟩
theorem TF.cells {w : World} {B g n cap : Nat} {f : Nat → Usr} (h : TF w B (.slice (some ⟨g, 0, none⟩) n cap) n f) (i : Nat) (hi : i < n) : UsrCells w g (i * 4) (f i) := by
  have c := fun (j : Nat) (hj : j < 4) => (World.ownsRow.cellAt h (i * 4 + j) (by omega)).trans (usrL_cell hi hj)
  exact ⟨c 0 (by omega), c 1 (by omega), c 2 (by omega), c 3 (by omega)⟩
theorem TF.free {w : World} {B g n cap : Nat} {f : Nat → Usr} (h : TF w B (.slice (some ⟨g, 0, none⟩) n cap) n f) (j : Nat) : w.frozen? ⟨g, j, none⟩ = false := World.ownsRow.frozenAt h j
theorem TF.stations {w : World} {B : Nat} {v : Value} {n : Nat} {f : Nat → Usr} (h : TF w B v n f) : UsrsR w v n f := by
  obtain ⟨a, cap, rfl, hc⟩ := h.form
  refine ⟨a, cap, rfl, fun i hi => ?_⟩
  obtain ⟨g, rfl, _, hl⟩ := hc (by omega)
  exact ⟨g, 0, rfl, hl, by have := h.cells i hi; rwa [Nat.zero_add]⟩
theorem TF.stationsC {w : World} {B : Nat} {v : Value} {n : Nat} {f : Nat → Usr} (h : TF w B v n f) : UsrsC w v n f := by
  obtain ⟨h1, ⟨rfl, rfl⟩ | ⟨g, cap, cur, rfl, hB, hg, hn, hm, hs, ht⟩⟩ := id h
  · exact ⟨none, 0, rfl, ⟨Nat.le_refl _, fun _ => ⟨rfl, rfl⟩⟩, fun i hi => absurd hi (Nat.not_lt_zero i)⟩
  · exact ⟨_, cap, rfl, ⟨hn, fun e => by cases e⟩, fun i hi => ⟨g, 0, rfl, (Array.getElem?_eq_some_iff.1 hg).1, by have := h.cells i hi; rwa [Nat.zero_add]⟩⟩
theorem TF.made (w : World) (n : Nat) (hm : n ≤ 1048576) : TF (w.alloc (.cells (madeCells #[.string ⟨#[]⟩, .string ⟨#[]⟩, .int .i64 0, .int .i64 0] (n * 4)) 33)) w.heap.size (.slice (some ⟨w.heap.size, 0, none⟩) n n) n (fun _ => ⟨⟨#[]⟩, ⟨#[]⟩, 0, 0⟩) := by
  have hs : (madeCells #[Value.string ⟨#[]⟩, .string ⟨#[]⟩, .int .i64 0, .int .i64 0] (n * 4)).size = n * 4 := size_madeCells _ _
  refine ⟨usrL_len _ _, .inr ⟨w.heap.size, n, madeCells #[.string ⟨#[]⟩, .string ⟨#[]⟩, .int .i64 0, .int .i64 0] (n * 4), rfl, Nat.le_refl _, ?_, Nat.le_refl _, by unfold maxLen; omega, hs, ?_⟩⟩
  · show (w.heap.push _)[w.heap.size]? = _
    simp
  · rw [List.take_of_length_le (by rw [Array.length_toList, hs]; omega)]
    apply List.ext_getElem?
    intro t
    by_cases ht : t < n * 4
    · rw [usrL_at ht]
      have hj : t % 4 = 0 ∨ t % 4 = 1 ∨ t % 4 = 2 ∨ t % 4 = 3 := by omega
      rcases hj with e | e | e | e <;> simp [madeCells, Usr.at, e, ht]
    · rw [List.getElem?_eq_none (by rw [Array.length_toList, hs]; omega), List.getElem?_eq_none (by rw [usrL_len]; omega)]
theorem make_stations (n : Nat) (h : n ≤ 1048576) (w : World) :
    (Instr.makeSlice 25 (.int .i64 (n : Int)) (.int .i64 (n : Int))).run Try.prog w = .ok (.slice (some ⟨w.heap.size, 0, none⟩) n n) (w.alloc (.cells (madeCells #[.string ⟨#[]⟩, .string ⟨#[]⟩, .int .i64 0, .int .i64 0] (n * 4)) 33)) := by
  obtain ⟨i0, hi, hzz⟩ := Option.map_eq_some_iff.1 (show (Try.prog.info? 33).map (fun i => (i.zero, i.size, i.bytes)) = some (some (.agg #[.string ⟨#[]⟩, .string ⟨#[]⟩, .int .i64 0, .int .i64 0]), 4, 48) by kernel_rfl)
  simp only [Prod.mk.injEq] at hzz
  obtain ⟨hz, hsz, hby⟩ := hzz
  have hr := run_make (P := Try.prog) w 25 33 i0 _ (by kernel_rfl) hi hz .i64 .i64 (n : Int) (n : Int) (by omega) (by omega) (by rw [hby]; omega) (by omega)
  simp only [Int.toNat_natCast, hsz] at hr
  exact hr
theorem TF.set {w : World} {B g cap n : Nat} {f : Nat → Usr} (h : TF w B (.slice (some ⟨g, 0, none⟩) n cap) n f) (p : Nat) (y : Value) (f' : Nat → Usr)
    (e : ∀ t, t < n * 4 → (f' (t / 4)).at (t % 4) = if t = p then y else (f (t / 4)).at (t % 4)) : TF (w.setCell ⟨g, p, none⟩ y) B (.slice (some ⟨g, 0, none⟩) n cap) n f' := by
  have := (World.ownsRow.stored h p y).1
  rw [usrL_set e] at this
  exact this
theorem TF.set0 {w : World} {B g cap n : Nat} {f : Nat → Usr} (h : TF w B (.slice (some ⟨g, 0, none⟩) n cap) n f) (k : Nat) (y : ByteArray) : TF (w.setCell ⟨g, k * 4, none⟩ (.string y)) B (.slice (some ⟨g, 0, none⟩) n cap) n (upU f k ⟨y, (f k).data, (f k).gain, (f k).delay⟩) :=
  h.set (k * 4) _ _ (fun t _ => by
    have := upd_at (f := f) (f' := upU f k ⟨y, (f k).data, (f k).gain, (f k).delay⟩) (k := k) (j := 0) (y := .string y) (by omega) (fun i hi => upU_ne hi) (by rw [upU_eq]; rfl) (fun t h1 h2 => by
      rw [upU_eq]
      have : t = 1 ∨ t = 2 ∨ t = 3 := by omega
      rcases this with rfl | rfl | rfl <;> rfl) t
    simpa using this)
theorem TF.set1 {w : World} {B g cap n : Nat} {f : Nat → Usr} (h : TF w B (.slice (some ⟨g, 0, none⟩) n cap) n f) (k : Nat) (y : ByteArray) : TF (w.setCell ⟨g, k * 4 + 1, none⟩ (.string y)) B (.slice (some ⟨g, 0, none⟩) n cap) n (upU f k ⟨(f k).code, y, (f k).gain, (f k).delay⟩) :=
  h.set (k * 4 + 1) _ _ (fun t _ => upd_at (k := k) (j := 1) (by omega) (fun i hi => upU_ne hi) (by rw [upU_eq]; rfl) (fun t h1 h2 => by
      rw [upU_eq]
      have : t = 0 ∨ t = 2 ∨ t = 3 := by omega
      rcases this with rfl | rfl | rfl <;> rfl) t)
theorem TF.set2 {w : World} {B g cap n : Nat} {f : Nat → Usr} (h : TF w B (.slice (some ⟨g, 0, none⟩) n cap) n f) (k : Nat) (y : Int) : TF (w.setCell ⟨g, k * 4 + 2, none⟩ (.int .i64 y)) B (.slice (some ⟨g, 0, none⟩) n cap) n (upU f k ⟨(f k).code, (f k).data, y, (f k).delay⟩) :=
  h.set (k * 4 + 2) _ _ (fun t _ => upd_at (k := k) (j := 2) (by omega) (fun i hi => upU_ne hi) (by rw [upU_eq]; rfl) (fun t h1 h2 => by
      rw [upU_eq]
      have : t = 0 ∨ t = 1 ∨ t = 3 := by omega
      rcases this with rfl | rfl | rfl <;> rfl) t)
theorem TF.set3 {w : World} {B g cap n : Nat} {f : Nat → Usr} (h : TF w B (.slice (some ⟨g, 0, none⟩) n cap) n f) (k : Nat) (y : Int) : TF (w.setCell ⟨g, k * 4 + 3, none⟩ (.int .i64 y)) B (.slice (some ⟨g, 0, none⟩) n cap) n (upU f k ⟨(f k).code, (f k).data, (f k).gain, y⟩) :=
  h.set (k * 4 + 3) _ _ (fun t _ => upd_at (k := k) (j := 3) (by omega) (fun i hi => upU_ne hi) (by rw [upU_eq]; rfl) (fun t h1 h2 => by
      rw [upU_eq]
      have : t = 0 ∨ t = 1 ∨ t = 2 := by omega
      rcases this with rfl | rfl | rfl <;> rfl) t)
theorem TF.put {w : World} {B g cap n : Nat} {f : Nat → Usr} (h : TF w B (.slice (some ⟨g, 0, none⟩) n cap) n f) (k : Nat) (c d : ByteArray) (x y : Int) :
    TF ((((w.setCell ⟨g, k * 4, none⟩ (.string c)).setCell ⟨g, k * 4 + 1, none⟩ (.string d)).setCell ⟨g, k * 4 + 2, none⟩ (.int .i64 x)).setCell ⟨g, k * 4 + 3, none⟩ (.int .i64 y)) B (.slice (some ⟨g, 0, none⟩) n cap) n (upU f k ⟨c, d, x, y⟩) := by
  have := (((h.set0 k c).set1 k d).set2 k x).set3 k y
  simp only [upU_eq, upU_up] at this
  exact this
end Go.Proofs.Ytjnipbopimpggaa
