/- Lists of complex numbers and of pairs, made of each other. -/
import Derived.Test.YtlcnciibjhcbiaaDoorOE
namespace Go.Proofs.YtlcnciibjhcbiaaDoor
open Go.RowKit

/-- A row of complex numbers in a block of its own. -/
def Zr (w : World) (g n : Nat) (X Y : Nat → Nat) : Prop := g < w.heap.size ∧ ∀ k, k < n → w.cell? ⟨g, k, none⟩ = some (.complex .f64 (X k) (Y k))

abbrev zv (g n : Nat) : Value := .slice (some ⟨g, 0, none⟩) n n

theorem Zr.below {w w' : World} {g n : Nat} {X Y : Nat → Nat} (h : Zr w g n X Y) (hb : Below w.heap.size w w') : Zr w' g n X Y :=
  ⟨Nat.lt_of_lt_of_le h.1 hb.size, fun k hk => (hb.cell (p := ⟨g, k, none⟩) h.1).trans (h.2 k hk)⟩
theorem Zr.kp {G : Nat} {w w' : World} {g n : Nat} {X Y : Nat → Nat} (h : Zr w g n X Y) (hg : g ≠ G) (hb : Kp G w w') : Zr w' g n X Y :=
  ⟨Nat.lt_of_lt_of_le h.1 hb.size, fun k hk => (hb.cell (p := ⟨g, k, none⟩) h.1 hg).trans (h.2 k hk)⟩

set_option maxRecDepth 100000 in
set_option maxHeartbeats 1000000 in
theorem toCs_any {w : World} {v : Value} {n : Nat} {xs ys : Nat → Nat} (hv : Fp w v n xs ys) (hn : n ≤ 1048576) :
    Calls Tryd.prog 28 #[v] w fun e w' => e = .returned (zv w.heap.size n) ∧ Zr w' w.heap.size n xs ys ∧ Below w.heap.size w w' := by
  obtain ⟨i0, hi, hz0, hz1, hz2⟩ := info_parts Tryd.info51c
  obtain ⟨w1, hm, hrow, hgr⟩ := run_makeSlice_full (P := Tryd.prog) w w.heap.size 47 51 i0 (.complex .f64 0 0) 1 Tryd.underlying47 hi hz0 hz1 .i64 .i64 n (by omega) (by rw [hz2]; omega) (by unfold maxLen; omega) (Nat.le_refl _)
  have hbl : Below w.heap.size w w1 := (Below.refl _ _).grown hgr (Nat.le_refl _) (fun _ h => by cases h)
  rw [made_czs] at hrow
  have HR : Hid (Oz w1 w.heap.size w.heap.size n n (fun _ => 0) (fun _ => 0)) := hrow
  have HB : Hid (Below w.heap.size w w1) := hbl
  clear hrow hbl hgr hi hz0 hz1 hz2
  obtain ⟨ao, cap, rfl, hcap, hc⟩ := hv
  have HC : Hid (0 < n → ∃ b off, ao = some ⟨b, off, none⟩ ∧ b < w.heap.size ∧ ∀ k, k < n → w.cell? ⟨b, off + k * 2, none⟩ = some (.float .f64 (xs k)) ∧ w.cell? ⟨b, off + k * 2 + 1, none⟩ = some (.float .f64 (ys k))) := hc
  clear hc
  have hST := rStoreZ
  have hSF := rStore
  go_enter Tryd.func28, Tryd.ntmps28
  go_wp2
  go_loopw [11] (fun i wr => ∃ k : Nat, i = .int .i64 k ∧ k ≤ n ∧ Hid (∃ X Y, Oz wr w.heap.size w.heap.size n n X Y ∧ (∀ j, j < k → X j = xs j ∧ Y j = ys j) ∧ Below w.heap.size w wr)) (fun i _ => n - (intOf i).toNat)
  case atStart => exact ⟨0, rfl, by omega, fun _ => 0, fun _ => 0, HR.out, fun j hj => by omega, HB.out⟩
  case round =>
    obtain ⟨k, rfl, hk, hrel⟩ := hrel
    obtain ⟨X, Y, hown, hxy, hbl⟩ := hrel.out
    by_cases h1 : k < n
    · obtain ⟨b, off, rfl, hlt, hcell⟩ := HC.out (by omega)
      have c : wr.cell? ⟨b, off + k * 2, none⟩ = some (.float .f64 (xs k)) := (hbl.cell (p := ⟨b, off + k * 2, none⟩) hlt).trans (hcell k h1).1
      have c' : wr.cell? ⟨b, off + k * 2 + 1, none⟩ = some (.float .f64 (ys k)) := (hbl.cell (p := ⟨b, off + k * 2 + 1, none⟩) hlt).trans (hcell k h1).2
      have hT := fun W => toC_any (xs k) (ys k) W
      have HO : Hid (Oz wr w.heap.size w.heap.size n n X Y) := hown
      have HX : Hid (∀ j, j < k → X j = xs j ∧ Y j = ys j) := hxy
      have HBL : Hid (Below w.heap.size w wr) := hbl
      clear hrel hown hxy hbl hcell
      go_wp2_with (go_at_call 43; refine (hT _).mono ?_; rintro e w2 ⟨rfl, hb0⟩; have hb2 := bstep (below_one wr _) hb0; clear hb0; have o2 : Oz w2 w.heap.size w.heap.size n n X Y := own_below HO.out hb2; have d0 := o2.cell h1; have z0 := World.ownsRow.frozenAt o2 k; have OP : Hid _ := o2.put k (xs k) (ys k); have B2 : Hid (Below w.heap.size w w2) := bstep HBL.out hb2; clear o2 hb2)
      go_roundw
      case rel =>
        refine ⟨k + 1, by go_num, by omega, _, _, OP.out, fun j hj => ?_, B2.out.setCell (Nat.le_refl _) _⟩
        by_cases hjk : j = k
        · subst hjk
          rw [if_pos rfl, if_pos rfl]
          exact ⟨rfl, rfl⟩
        · rw [if_neg hjk, if_neg hjk]
          exact HX.out j (by omega)
      case measure => simp [intOf]; omega
    · obtain rfl : n = k := by omega
      have HO : Hid (Oz wr w.heap.size w.heap.size n n X Y) := hown
      have HX : Hid (∀ j, j < n → X j = xs j ∧ Y j = ys j) := hxy
      have HBL : Hid (Below w.heap.size w wr) := hbl
      clear hrel hown hxy hbl
      go_wp2
      go_ret
      exact ⟨rfl, ⟨(World.ownsRow.lt HO.out _ rfl).2, fun k hk => by rw [HO.out.cell hk, (HX.out k hk).1, (HX.out k hk).2]⟩, HBL.out⟩

set_option maxRecDepth 100000 in
set_option maxHeartbeats 1000000 in
theorem toPs_any {w : World} {g n : Nat} {xs ys : Nat → Nat} (hv : Zr w g n xs ys) (hn : n ≤ 1048576) :
    Calls Tryd.prog 34 #[zv g n] w fun e w' => Below w.heap.size w w' ∧ ∃ v' L, e = .returned v' ∧ Fp w' v' n xs ys ∧ w'.ownsRow w.heap.size 40 2 v' n L := by
  obtain ⟨i0, hi, hz0, hz1, hz2⟩ := info_parts Tryd.info40
  obtain ⟨w1, hm, hrow, hgr⟩ := run_makeSlice_full (P := Tryd.prog) w w.heap.size 24 40 i0 (.agg #[.float .f64 0, .float .f64 0]) 2 Tryd.underlying24 hi hz0 hz1 .i64 .i64 n (by omega) (by rw [hz2]; omega) (by unfold maxLen; omega) (Nat.le_refl _)
  have hbl : Below w.heap.size w w1 := (Below.refl _ _).grown hgr (Nat.le_refl _) (fun _ h => by cases h)
  generalize hL : (madeCells (Value.agg #[.float .f64 0, .float .f64 0]).cells (n * 2)).toList = L at hrow
  have hLn : L.length = n * 2 := by rw [← hL, Array.length_toList, size_madeCells]
  rw [list_fun L, hLn] at hrow
  have HR : Hid (∃ f, Ow w1 w.heap.size w.heap.size n n f) := ⟨_, hrow⟩
  have HB : Hid (Below w.heap.size w w1) := hbl
  clear hrow hbl hL hgr hi hz0 hz1 hz2 hLn
  obtain ⟨hlt, hc⟩ := hv
  have HC : Hid (∀ k, k < n → w.cell? ⟨g, k, none⟩ = some (.complex .f64 (xs k) (ys k))) := hc
  clear hc
  have hST := rStore
  go_enter Tryd.func34, Tryd.ntmps34
  go_wp2
  go_loopw [11] (fun i wr => ∃ k : Nat, i = .int .i64 k ∧ k ≤ n ∧ Hid ((∃ f, Ow wr w.heap.size w.heap.size n n f ∧ ∀ i, i < k → f (i * 2) = .float .f64 (xs i) ∧ f (i * 2 + 1) = .float .f64 (ys i)) ∧ Below w.heap.size w wr)) (fun i _ => n - (intOf i).toNat)
  case atStart =>
    obtain ⟨f, hf⟩ := HR.out
    exact ⟨0, rfl, by omega, ⟨f, hf, fun i hi => by omega⟩, HB.out⟩
  case round =>
    obtain ⟨k, rfl, hk, hrel⟩ := hrel
    obtain ⟨⟨f, hf, hfx⟩, hbl⟩ := hrel.out
    by_cases h1 : k < n
    · have c : wr.cell? ⟨g, k, none⟩ = some (.complex .f64 (xs k) (ys k)) := (hbl.cell (p := ⟨g, k, none⟩) hlt).trans (HC.out k h1)
      have hT := fun W => toP_any (xs k) (ys k) W
      have HF : Hid (Ow wr w.heap.size w.heap.size n n f) := hf
      have HX : Hid (∀ i, i < k → f (i * 2) = .float .f64 (xs i) ∧ f (i * 2 + 1) = .float .f64 (ys i)) := hfx
      have HBL : Hid (Below w.heap.size w wr) := hbl
      clear hf hfx hbl hrel
      go_wp2_with (go_at_call 49; refine (hT _).mono ?_; rintro e w2 ⟨rfl, hb2⟩; have o2 := Ow.below HF.out hb2; have d0 := o2.cell (j := k * 2) (by omega); have d1 := o2.cell (j := k * 2 + 1) (by omega); have z0 := World.ownsRow.frozenAt o2 (k * 2); have z1 := World.ownsRow.frozenAt o2 (k * 2 + 1); have OP : Hid _ := (o2.put (k * 2) (.float .f64 (xs k))).put (k * 2 + 1) (.float .f64 (ys k)); have HB2 : Hid (Below w.heap.size w w2) := bstep HBL.out hb2; clear o2 hb2)
      go_roundw
      case rel =>
        refine ⟨k + 1, by go_num, by omega, ⟨_, OP.out, fun i hi => ?_⟩, (HB2.out.setCell (Nat.le_refl _) _).setCell (Nat.le_refl _) _⟩
        by_cases hik : i = k
        · subst hik; simp
        · obtain ⟨x1, x2⟩ := HX.out i (by omega)
          constructor
          · rw [if_neg (by omega), if_neg (by omega), x1]
          · rw [if_neg (by omega), if_neg (by omega), x2]
      case measure => simp [intOf]; omega
    · obtain rfl : k = n := by omega
      have HF : Hid (Ow wr w.heap.size w.heap.size k k f) := hf
      clear hf hrel
      go_wp2
      go_ret
      refine ⟨hbl, _, _, rfl, ⟨_, _, rfl, Nat.le_refl _, fun h0 => ⟨_, 0, rfl, ?_, fun j hj => ?_⟩⟩, HF.out⟩
      · exact (World.ownsRow.lt HF.out _ rfl).2
      · obtain ⟨x1, x2⟩ := hfx j hj
        rw [Nat.zero_add, Ow.cell HF.out (by omega), Ow.cell HF.out (by omega), x1, x2]
        exact ⟨rfl, rfl⟩

set_option maxRecDepth 100000 in
set_option maxHeartbeats 1000000 in
theorem divided_any {w : World} {v : Value} {n : Nat} {xs ys : Nat → Nat} (hv : Fp w v n xs ys) (hn : n ≤ 1048576) :
    Calls Tryd.prog 33 #[v] w fun e w' => Below w.heap.size w w' ∧ ∃ v' L X Y, e = .returned v' ∧ Fp w' v' n X Y ∧ (∀ i, i < n → cn (X i) = cop .quo (cn (xs i)) (cn (fk n)) ∧ cn (Y i) = cop .quo (cn (ys i)) (cn (fk n))) ∧ w'.ownsRow w.heap.size 40 2 v' n L := by
  obtain ⟨i0, hi, hz0, hz1, hz2⟩ := info_parts Tryd.info40
  obtain ⟨w1, hm, hrow, hgr⟩ := run_makeSlice_full (P := Tryd.prog) w w.heap.size 24 40 i0 (.agg #[.float .f64 0, .float .f64 0]) 2 Tryd.underlying24 hi hz0 hz1 .i64 .i64 n (by omega) (by rw [hz2]; omega) (by unfold maxLen; omega) (Nat.le_refl _)
  have hbl : Below w.heap.size w w1 := (Below.refl _ _).grown hgr (Nat.le_refl _) (fun _ h => by cases h)
  generalize hL : (madeCells (Value.agg #[.float .f64 0, .float .f64 0]).cells (n * 2)).toList = L at hrow
  have hLn : L.length = n * 2 := by rw [← hL, Array.length_toList, size_madeCells]
  rw [list_fun L, hLn] at hrow
  have HR : Hid (∃ f, Ow w1 w.heap.size w.heap.size n n f) := ⟨_, hrow⟩
  have HB : Hid (Below w.heap.size w w1) := hbl
  clear hrow hbl hL hgr hi hz0 hz1 hz2 hLn
  obtain ⟨ao, cap, rfl, hcap, hc⟩ := hv
  have HC : Hid (0 < n → ∃ b off, ao = some ⟨b, off, none⟩ ∧ b < w.heap.size ∧ ∀ k, k < n → w.cell? ⟨b, off + k * 2, none⟩ = some (.float .f64 (xs k)) ∧ w.cell? ⟨b, off + k * 2 + 1, none⟩ = some (.float .f64 (ys k))) := hc
  clear hc
  have hST := rStore
  have hQ := rQuo
  have hfc := fwor_cell
  have hff := fwor_frozen
  go_enter Tryd.func33, Tryd.ntmps33
  go_wp2
  go_loopw [15] (fun i wr => ∃ k : Nat, i = .int .i64 k ∧ k ≤ n ∧ Hid ((∃ (X Y : Nat → Nat) (f : Nat → Value), Ow wr w.heap.size w.heap.size n n f ∧ ∀ i, i < k → f (i * 2) = .float .f64 (X i) ∧ f (i * 2 + 1) = .float .f64 (Y i) ∧ cn (X i) = cop .quo (cn (xs i)) (cn (fk n)) ∧ cn (Y i) = cop .quo (cn (ys i)) (cn (fk n))) ∧ Below w.heap.size w wr)) (fun i _ => n - (intOf i).toNat)
  case atStart =>
    obtain ⟨f, hf⟩ := HR.out
    exact ⟨0, rfl, by omega, ⟨fun _ => 0, fun _ => 0, f, hf, fun i hi => by omega⟩, HB.out⟩
  case round =>
    obtain ⟨k, rfl, hk, hrel⟩ := hrel
    obtain ⟨⟨X, Y, f, hf, hfx⟩, hbl⟩ := hrel.out
    by_cases h1 : k < n
    · obtain ⟨b, off, rfl, hlt, hcell⟩ := HC.out (by omega)
      have c : wr.cell? ⟨b, off + k * 2, none⟩ = some (.float .f64 (xs k)) := (hbl.cell (p := ⟨b, off + k * 2, none⟩) hlt).trans (hcell k h1).1
      have c' : wr.cell? ⟨b, off + k * 2 + 1, none⟩ = some (.float .f64 (ys k)) := (hbl.cell (p := ⟨b, off + k * 2 + 1, none⟩) hlt).trans (hcell k h1).2
      have HF : Hid (Ow wr w.heap.size w.heap.size n n f) := hf
      have HX : Hid (∀ i, i < k → f (i * 2) = .float .f64 (X i) ∧ f (i * 2 + 1) = .float .f64 (Y i) ∧ cn (X i) = cop .quo (cn (xs i)) (cn (fk n)) ∧ cn (Y i) = cop .quo (cn (ys i)) (cn (fk n))) := hfx
      have HBL : Hid (Below w.heap.size w wr) := hbl
      clear hf hfx hbl hrel hcell
      have b1 : Below wr.heap.size wr (fwor .quo (fwor .quo (wr.alloc (.cells #[.float .f64 (xs k), .float .f64 (ys k)] 40)) (xs k) (fk n)) (ys k) (fk n)) := below_fwor (below_fwor (below_one _ _) _ _ _) _ _ _
      have o2 := Ow.below HF.out b1
      have HB2 : Hid (Below w.heap.size w (fwor .quo (fwor .quo (wr.alloc (.cells #[.float .f64 (xs k), .float .f64 (ys k)] 40)) (xs k) (fk n)) (ys k) (fk n))) := bstep HBL.out b1
      have d0 := o2.cell (j := k * 2) (by omega)
      have d1 := o2.cell (j := k * 2 + 1) (by omega)
      have z0 := World.ownsRow.frozenAt o2 (k * 2)
      have z1 := World.ownsRow.frozenAt o2 (k * 2 + 1)
      have OP : Hid _ := (o2.put (k * 2) (.float .f64 (fres .quo (wr.alloc (.cells #[.float .f64 (xs k), .float .f64 (ys k)] 40)) (xs k) (fk n)))).put (k * 2 + 1) (.float .f64 (fres .quo (fwor .quo (wr.alloc (.cells #[.float .f64 (xs k), .float .f64 (ys k)] 40)) (xs k) (fk n)) (ys k) (fk n)))
      clear o2 b1
      rw [fwor_cell, fwor_cell] at d0 d1
      rw [fwor_frozen, fwor_frozen] at z0 z1
      go_wp2
      go_roundw
      case rel =>
        refine ⟨k + 1, by go_num, by omega, ⟨fun i => if i = k then fres .quo (wr.alloc (.cells #[.float .f64 (xs k), .float .f64 (ys k)] 40)) (xs k) (fk n) else X i, fun i => if i = k then fres .quo (fwor .quo (wr.alloc (.cells #[.float .f64 (xs k), .float .f64 (ys k)] 40)) (xs k) (fk n)) (ys k) (fk n) else Y i, _, OP.out, fun i hi => ?_⟩, (HB2.out.setCell (Nat.le_refl _) _).setCell (Nat.le_refl _) _⟩
        by_cases hik : i = k
        · subst hik; simp [cn_fres]
        · obtain ⟨x1, x2, x3, x4⟩ := HX.out i (by omega)
          simp only [if_neg hik]
          refine ⟨?_, ?_, x3, x4⟩
          · rw [if_neg (by omega), if_neg (by omega), x1]
          · rw [if_neg (by omega), if_neg (by omega), x2]
      case measure => simp [intOf]; omega
    · obtain rfl : k = n := by omega
      have HF : Hid (Ow wr w.heap.size w.heap.size k k f) := hf
      clear hf hrel
      go_wp2
      go_ret
      refine ⟨hbl, _, _, X, Y, rfl, ⟨_, _, rfl, Nat.le_refl _, fun h0 => ⟨_, 0, rfl, ?_, fun j hj => ?_⟩⟩, fun i hi => (hfx i hi).2.2, HF.out⟩
      · exact (World.ownsRow.lt HF.out _ rfl).2
      · obtain ⟨x1, x2, _⟩ := hfx j hj
        rw [Nat.zero_add, Ow.cell HF.out (by omega), Ow.cell HF.out (by omega), x1, x2]
        exact ⟨rfl, rfl⟩
end Go.Proofs.YtlcnciibjhcbiaaDoor
