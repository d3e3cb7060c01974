/- Turns: one, and all of a length. -/
import Derived.Test.YtlcnciibjhcbiaaDoorT5
import Derived.Test.YtlcnciibjhcbiaaDoorVW3
import Derived.Lib.TrailingZeros
namespace Go.Proofs.YtlcnciibjhcbiaaDoor
open Go.RowKit

/-- The library's table lies in memory as its text lays it. -/
structure Brj (w : World) : Prop where
  size : 1 < w.heap.size
  cells : ∀ i, i < 64 → w.cell? ⟨1, i, none⟩ = some (.int .u8 ((Lib.deBruijn64tab.getD i 0 : Nat) : Int))

theorem Brj.below {w w' : World} (h : Brj w) (hb : Below w.heap.size w w') : Brj w' :=
  ⟨Nat.lt_of_lt_of_le h.size hb.size, fun i hi => (hb.cell (p := ⟨1, i, none⟩) h.size).trans (h.cells i hi)⟩

set_option maxHeartbeats 1000000 in
theorem tz_walk (m a : Int) (j k : Nat) (w : World) (h0 : (m == 0) = false) (ha : bits .and .u64 m (IntKind.u64.wrap (-m)) = a)
    (hj : IntKind.u64.wrap (a * 285870213051353865) / 288230376151711744 = (j : Int)) (hj1 : (j : Int) < 64) (hk : (k : Int) < 64) (hc : w.cell? ⟨1, j, none⟩ = some (.int .u8 (k : Int))) :
    Calls Tryd.prog 56 #[.int .u64 m] w fun e w' => e = .returned (.int .i64 (k : Int)) ∧ w' = w := by
  go_enter Tryd.func56, Tryd.ntmps56
  go_wp2
  go_ret
  exact ⟨rfl, rfl⟩

theorem tz2 {j : Nat} (hj : j < 8) (w : World) (hb : Brj w) : Calls Tryd.prog 45 #[.int .u64 ((2 ^ j : Nat) : Int)] w fun e w' => e = .returned (.int .i64 (j : Int)) ∧ w' = w := by
  have key : Calls Tryd.prog 56 #[.int .u64 ((2 ^ j : Nat) : Int)] w fun e w' => e = .returned (.int .i64 (j : Int)) ∧ w' = w := by
    have h : ∀ j : Fin 8, ∃ i : Fin 64, bits .and .u64 ((2 ^ j.val : Nat) : Int) (IntKind.u64.wrap (-((2 ^ j.val : Nat) : Int))) = ((2 ^ j.val : Nat) : Int) ∧ IntKind.u64.wrap (((2 ^ j.val : Nat) : Int) * 285870213051353865) / 288230376151711744 = (i.val : Int) ∧ Lib.deBruijn64tab.getD i.val 0 = j.val := by decide +kernel
    obtain ⟨i, h1, h2, h3⟩ := h ⟨j, hj⟩
    have hc := hb.cells i.val i.isLt
    rw [h3] at hc
    exact tz_walk _ _ i.val j w (by rw [beq_eq_false_iff_ne]; have := Nat.two_pow_pos j; omega) h1 h2 (by have := i.isLt; omega) (by omega) hc
  generalize ((2 ^ j : Nat) : Int) = m at key ⊢
  go_enter Tryd.func45, Tryd.ntmps45
  go_wp2_with (go_at_call 56; refine key.mono ?_; rintro e w' ⟨rfl, hw⟩; obtain rfl := hw.symm)
  go_ret
  exact ⟨rfl, rfl⟩

/-- The parts of a turn. -/
def tre (s : Int) : Option Nat := cop .quo (cn (fk (Wv.cosv s))) (cn 4742290407621132288)
def tim (s : Int) : Option Nat := cop .quo (cn (fk (Wv.sinv s))) (cn 4742290407621132288)

theorem tre_congr {s t : Int} (h : s % 256 = t % 256) : tre s = tre t := by unfold tre; rw [Wv.cosv_congr h]
theorem tim_congr {s t : Int} (h : s % 256 = t % 256) : tim s = tim t := by unfold tim Wv.sinv; rw [Wv.cosv_congr (show (s - 64) % 256 = (t - 64) % 256 by omega)]

set_option maxHeartbeats 1000000 in
theorem turnOf_any (s : Int) (w : World) : Calls Tryd.prog 59 #[.int .i64 s] w fun e w' => ∃ x y, e = .returned (.complex .f64 x y) ∧ cn x = tre s ∧ cn y = tim s ∧ Below w.heap.size w w' := by
  have i1 := Wv.iCos_any s
  have i2 := Wv.iSin_any s
  have hQ := rQuo
  have T1 : Hid (tre s = cop .quo (cn (fk (Wv.cosv s))) (cn 4742290407621132288)) := rfl
  have T2 : Hid (tim s = cop .quo (cn (fk (Wv.sinv s))) (cn 4742290407621132288)) := rfl
  have b1 := Wv.cosv_bounds s
  have b2 := Wv.sinv_bounds s
  generalize Wv.cosv s = c at *
  generalize Wv.sinv s = q at *
  go_enter Tryd.func59, Tryd.ntmps59
  go_wp2_with (first | (go_at_call 65; (with_reducible refine (i1 _).mono ?_); rintro e w1 ⟨rfl, hb1⟩; have B1 : Hid (Below w.heap.size w w1) := hb1; clear hb1) | (go_at_call 66; (with_reducible refine (i2 _).mono ?_); rintro e w2 ⟨rfl, hb2⟩; have B2 : Hid (Below w.heap.size w w2) := bstep (below_fwor B1.out _ _ _) hb2; clear hb2))
  go_ret
  exact ⟨_, _, rfl, by rw [cn_fres, T1.out], by rw [cn_fres, T2.out], below_fwor B2.out _ _ _⟩

/-- The step from turn to turn of a length. -/
def strd (n : Nat) (bk : Bool) : Int := if bk then 256 / (n : Int) else -(256 / (n : Int))

/-- The slice holds the turns of a length, in a block of its own. -/
def Trn (w : World) (v : Value) (n : Nat) (bk : Bool) (g : Nat) : Prop := v = .slice (some ⟨g, 0, none⟩) n n ∧ g < w.heap.size ∧ ∃ X Y : Nat → Nat, ∀ k, k < n → w.cell? ⟨g, k, none⟩ = some (.complex .f64 (X k) (Y k)) ∧ cn (X k) = tre (k * strd n bk) ∧ cn (Y k) = tim (k * strd n bk)

theorem Trn.below {w w' : World} {v : Value} {n : Nat} {bk : Bool} {g : Nat} (h : Trn w v n bk g) (hb : Below w.heap.size w w') : Trn w' v n bk g := by
  obtain ⟨h0, hl, X, Y, h1⟩ := h
  exact ⟨h0, Nat.lt_of_lt_of_le hl hb.size, X, Y, fun k hk => ⟨(hb.cell (p := ⟨g, k, none⟩) hl).trans (h1 k hk).1, (h1 k hk).2⟩⟩

theorem Tryd.info51c : (Tryd.prog.info? 51).map (fun i => (i.zero, i.size, i.bytes)) = some (some (.complex .f64 0 0), 1, 16) := by kernel_rfl

/-- A row of complex numbers that the call made. -/
def Oz (W : World) (B g n cap : Nat) (X Y : Nat → Nat) : Prop := W.ownsRow B 51 1 (.slice (some ⟨g, 0, none⟩) n cap) n (czs X Y n)

theorem czs_length (X Y : Nat → Nat) (k : Nat) : (czs X Y k).length = k := by simp [czs]
theorem czs_get {X Y : Nat → Nat} {n k : Nat} (h : k < n) : (czs X Y n)[k]? = some (.complex .f64 (X k) (Y k)) := by simp [czs, h]
theorem czs_put (X Y : Nat → Nat) (n j x y : Nat) : (czs X Y n).set j (.complex .f64 x y) = czs (fun i => if i = j then x else X i) (fun i => if i = j then y else Y i) n := by
  apply List.ext_getElem
  · simp [czs]
  · intro i h1 h2
    simp only [czs, List.getElem_set, List.getElem_map, List.getElem_range]
    by_cases h : j = i
    · subst h; simp
    · simp [h, Ne.symm h]

theorem Oz.cell {W : World} {B g n cap : Nat} {X Y : Nat → Nat} (h : Oz W B g n cap X Y) {j : Nat} (hj : j < n) : W.cell? ⟨g, j, none⟩ = some (.complex .f64 (X j) (Y j)) := by
  rw [World.ownsRow.cellAt h j (by omega), czs_get hj]
theorem Oz.put {W : World} {B g n cap : Nat} {X Y : Nat → Nat} (h : Oz W B g n cap X Y) (j x y : Nat) : Oz (W.setCell ⟨g, j, none⟩ (.complex .f64 x y)) B g n cap (fun i => if i = j then x else X i) (fun i => if i = j then y else Y i) := by
  have := (World.ownsRow.stored h j (.complex .f64 x y)).1
  rw [czs_put] at this
  exact this
theorem Oz.fz {W : World} {B g n cap : Nat} {X Y : Nat → Nat} (h : Oz W B g n cap X Y) (hc : n ≤ cap) : Fz W (.slice (some ⟨g, 0, none⟩) n cap) n X Y :=
  ⟨_, cap, rfl, hc, fun _ => ⟨g, 0, rfl, (World.ownsRow.lt h _ rfl).2, fun k hk => by rw [Nat.zero_add]; exact h.cell hk⟩⟩

theorem made_czs (n : Nat) : (madeCells (Value.complex .f64 0 0).cells (n * 1)).toList = czs (fun _ => 0) (fun _ => 0) n := by
  apply List.ext_getElem?
  intro i
  by_cases h : i < n
  · rw [czs_get h]
    simp [madeCells, Value.cells, h, Nat.mod_one]
  · rw [List.getElem?_eq_none (by rw [Array.length_toList, size_madeCells]; omega), List.getElem?_eq_none (by rw [czs_length]; omega)]

theorem rStoreZ (a : Addr) (x y : Nat) (m : Mode) (w : World) : (store a (.complex .f64 x y) m).run Tryd.prog w = stored Tryd.prog w a (.complex .f64 x y) m := run_store Tryd.prog w a _ m rfl

theorem strd_bounds {n : Nat} (h0 : 1 ≤ n) (bk : Bool) : -256 ≤ strd n bk ∧ strd n bk ≤ 256 := by
  have h1 : (0 : Int) ≤ 256 / (n : Int) := Int.ediv_nonneg (by decide) (by omega)
  have h2 : (256 : Int) / (n : Int) ≤ 256 := Int.ediv_le_self _ (by decide)
  unfold strd
  split <;> omega

theorem tdiv_neg256 {n : Nat} (h : n = 1 ∨ n = 2 ∨ n = 4 ∨ n = 8 ∨ n = 16 ∨ n = 32 ∨ n = 64 ∨ n = 128) : (-256 : Int).tdiv (n : Int) = -(256 / (n : Int)) := by
  rcases h with rfl | rfl | rfl | rfl | rfl | rfl | rfl | rfl <;> decide

set_option maxRecDepth 20000 in
set_option maxHeartbeats 2000000 in
theorem turnsOf_any {n : Nat} (hn : n = 1 ∨ n = 2 ∨ n = 4 ∨ n = 8 ∨ n = 16 ∨ n = 32 ∨ n = 64 ∨ n = 128) (bk : Bool) (w : World) : Calls Tryd.prog 48 #[.int .i64 n, .bool bk] w fun e w' => ∃ v, e = .returned v ∧ Trn w' v n bk w.heap.size ∧ Below w.heap.size w w' := by
  have hn1 : 1 ≤ n ∧ n ≤ 128 := by omega
  obtain ⟨i0, hi, hz0, hz1, hz2⟩ := info_parts Tryd.info51c
  obtain ⟨w1, hm, hrow, hgr⟩ := run_makeSlice_full (P := Tryd.prog) w w.heap.size 47 51 i0 (.complex .f64 0 0) 1 Tryd.underlying47 hi hz0 hz1 .i64 .i64 n (by omega) (by rw [hz2]; omega) (by unfold maxLen; omega) (Nat.le_refl _)
  have hbl : Below w.heap.size w w1 := (Below.refl _ _).grown hgr (Nat.le_refl _) (fun _ h => by cases h)
  rw [made_czs] at hrow
  have HR : Hid (Oz w1 w.heap.size w.heap.size n n (fun _ => 0) (fun _ => 0)) := hrow
  have HB : Hid (Below w.heap.size w w1) := hbl
  clear hrow hbl hgr hi hz0 hz1 hz2
  have hd := tdiv_neg256 hn
  have hsb := strd_bounds (n := n) (by omega) bk
  have hq0 : (0 : Int) ≤ 256 / (n : Int) := Int.ediv_nonneg (by decide) (by omega)
  have hq1 : (256 : Int) / (n : Int) ≤ 256 := Int.ediv_le_self _ (by decide)
  have hST := rStoreZ
  obtain ⟨st, hst⟩ : ∃ st, st = strd n bk := ⟨_, rfl⟩
  have HST : Hid (st = strd n bk) := hst
  rw [← hst] at hsb
  have hloop : ∀ (x : Int), x = st → True := fun _ _ => trivial
  clear hn hloop
  cases bk
  · have hse : -(256 / (n : Int)) = st := by rw [hst]; rfl
    rw [hse] at hd
    clear hse hst
    go_enter Tryd.func48, Tryd.ntmps48
    go_wp2
    go_loopw [7, 16] (fun _ i wr => ∃ k : Nat, i = .int .i64 k ∧ k ≤ n ∧ Hid (∃ X Y, Oz wr w.heap.size w.heap.size n n X Y ∧ (∀ j, j < k → cn (X j) = tre (j * st) ∧ cn (Y j) = tim (j * st)) ∧ Below w.heap.size w wr)) (fun _ i _ => n - (intOf i).toNat)
    case atStart => exact ⟨0, rfl, by omega, fun _ => 0, fun _ => 0, HR.out, fun j hj => by omega, HB.out⟩
    case round =>
      obtain ⟨k, rfl, hk, hrel⟩ := hrel
      obtain ⟨X, Y, hown, hxy, hbl⟩ := hrel.out
      by_cases h1 : k < n
      · have i1 := turnOf_any ((k : Int) * st)
        have m1 : -32768 ≤ (k : Int) * st ∧ (k : Int) * st ≤ 32768 := by
          have h1 : ((k : Int) * st).natAbs ≤ 128 * 256 := by rw [Int.natAbs_mul]; exact Nat.mul_le_mul (by omega) (by omega)
          omega
        have HO : Hid (Oz wr w.heap.size w.heap.size n n X Y) := hown
        have HX : Hid (∀ j, j < k → cn (X j) = tre (j * st) ∧ cn (Y j) = tim (j * st)) := hxy
        have HBL : Hid (Below w.heap.size w wr) := hbl
        clear hrel hown hxy hbl
        go_wp2_with (go_at_call 59; refine (i1 _).mono ?_; rintro e w2 ⟨x, y, rfl, ex, ey, hb2⟩; have EX : Hid (cn x = tre (k * st) ∧ cn y = tim (k * st)) := ⟨ex, ey⟩; have o2 : Oz w2 w.heap.size w.heap.size n n X Y := own_below HO.out hb2; have d0 := o2.cell h1; have z0 := World.ownsRow.frozenAt o2 k; have OP : Hid _ := o2.put k x y; have B2 : Hid (Below w.heap.size w w2) := bstep HBL.out hb2; clear o2 hb2 ex ey)
        go_roundw
        case rel =>
          refine ⟨k + 1, by go_num, by omega, _, _, OP.out, fun j hj => ?_, B2.out.setCell (Nat.le_refl _) _⟩
          by_cases hjk : j = k
          · subst hjk
            rw [if_pos rfl, if_pos rfl]
            exact EX.out
          · rw [if_neg hjk, if_neg hjk]
            exact HX.out j (by omega)
        case measure => simp [intOf]; omega
      · obtain rfl : n = k := by omega
        have HO : Hid (Oz wr w.heap.size w.heap.size n n X Y) := hown
        have HX : Hid (∀ j, j < n → cn (X j) = tre (j * st) ∧ cn (Y j) = tim (j * st)) := hxy
        have HBL : Hid (Below w.heap.size w wr) := hbl
        clear hrel hown hxy hbl
        go_wp2
        go_ret
        exact ⟨_, rfl, ⟨rfl, (World.ownsRow.lt HO.out _ rfl).2, X, Y, fun k hk => ⟨HO.out.cell hk, by rw [← HST.out]; exact HX.out k hk⟩⟩, HBL.out⟩
  · have hse : 256 / (n : Int) = st := by rw [hst]; rfl
    rw [hse] at hd
    clear hse hst
    go_enter Tryd.func48, Tryd.ntmps48
    go_wp2
    go_loopw [7, 16] (fun _ i wr => ∃ k : Nat, i = .int .i64 k ∧ k ≤ n ∧ Hid (∃ X Y, Oz wr w.heap.size w.heap.size n n X Y ∧ (∀ j, j < k → cn (X j) = tre (j * st) ∧ cn (Y j) = tim (j * st)) ∧ Below w.heap.size w wr)) (fun _ i _ => n - (intOf i).toNat)
    case atStart => exact ⟨0, rfl, by omega, fun _ => 0, fun _ => 0, HR.out, fun j hj => by omega, HB.out⟩
    case round =>
      obtain ⟨k, rfl, hk, hrel⟩ := hrel
      obtain ⟨X, Y, hown, hxy, hbl⟩ := hrel.out
      by_cases h1 : k < n
      · have i1 := turnOf_any ((k : Int) * st)
        have m1 : -32768 ≤ (k : Int) * st ∧ (k : Int) * st ≤ 32768 := by
          have h1 : ((k : Int) * st).natAbs ≤ 128 * 256 := by rw [Int.natAbs_mul]; exact Nat.mul_le_mul (by omega) (by omega)
          omega
        have HO : Hid (Oz wr w.heap.size w.heap.size n n X Y) := hown
        have HX : Hid (∀ j, j < k → cn (X j) = tre (j * st) ∧ cn (Y j) = tim (j * st)) := hxy
        have HBL : Hid (Below w.heap.size w wr) := hbl
        clear hrel hown hxy hbl
        go_wp2_with (go_at_call 59; refine (i1 _).mono ?_; rintro e w2 ⟨x, y, rfl, ex, ey, hb2⟩; have EX : Hid (cn x = tre (k * st) ∧ cn y = tim (k * st)) := ⟨ex, ey⟩; have o2 : Oz w2 w.heap.size w.heap.size n n X Y := own_below HO.out hb2; have d0 := o2.cell h1; have z0 := World.ownsRow.frozenAt o2 k; have OP : Hid _ := o2.put k x y; have B2 : Hid (Below w.heap.size w w2) := bstep HBL.out hb2; clear o2 hb2 ex ey)
        go_roundw
        case rel =>
          refine ⟨k + 1, by go_num, by omega, _, _, OP.out, fun j hj => ?_, B2.out.setCell (Nat.le_refl _) _⟩
          by_cases hjk : j = k
          · subst hjk
            rw [if_pos rfl, if_pos rfl]
            exact EX.out
          · rw [if_neg hjk, if_neg hjk]
            exact HX.out j (by omega)
        case measure => simp [intOf]; omega
      · obtain rfl : n = k := by omega
        have HO : Hid (Oz wr w.heap.size w.heap.size n n X Y) := hown
        have HX : Hid (∀ j, j < n → cn (X j) = tre (j * st) ∧ cn (Y j) = tim (j * st)) := hxy
        have HBL : Hid (Below w.heap.size w wr) := hbl
        clear hrel hown hxy hbl
        go_wp2
        go_ret
        exact ⟨_, rfl, ⟨rfl, (World.ownsRow.lt HO.out _ rfl).2, X, Y, fun k hk => ⟨HO.out.cell hk, by rw [← HST.out]; exact HX.out k hk⟩⟩, HBL.out⟩
end Go.Proofs.YtlcnciibjhcbiaaDoor
