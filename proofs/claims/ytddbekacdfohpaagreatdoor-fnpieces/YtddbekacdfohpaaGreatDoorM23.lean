/- WQ1 WQ2 WR1. -/
import Derived.Test.YtddbekacdfohpaaGreatDoorM02
import Derived.BigRegion
namespace Go.Proofs.YtddbekacdfohpaaGreatDoor.W
open Go.RowKit

set_option maxHeartbeats 1000000 in
theorem plus_any (a b c : Nat) (w : World) : Calls Tryz.prog 48 #[.float .f64 a, .float .f64 b, .float .f64 c] w fun e w' => ∃ x, e = .returned (.float .f64 x) ∧ cn x = cop .add (cop .mul (cn a) (cn b)) (cn c) ∧ Below w.heap.size w w' := by
  have hA := rAdd
  have hM := rMul
  go_enter Tryz.func48, Tryz.ntmps48
  go_wp2
  go_ret
  refine ⟨_, rfl, ?_, ?_⟩
  · simp only [cn_fres]
  repeat first | exact Below.refl _ _ | apply below_fwor

set_option maxHeartbeats 1000000 in
theorem iPow_any (a b : Nat) (w : World) : Calls Tryz.prog 25 #[Pv a b] w fun e w' => ∃ x, e = .returned (.float .f64 x) ∧ cn x = cpw (cn a) (cn b) ∧ Below w.heap.size w w' := by
  have hM := rMul
  have hfc := fwor_cell
  have hff := fwor_frozen
  go_enter Tryz.func25, Tryz.ntmps25
  go_wp2_with (go_at_call 48; refine (plus_any _ _ _ _).mono ?_; rintro e x1 ⟨x, rfl, ex, hb⟩)
  go_ret
  refine ⟨_, rfl, ?_, ?_⟩
  · rw [ex]; simp only [cn_fres, cpw]
  · refine bstep ?_ hb
    repeat first | exact Below.refl _ _ | apply below_fwor | refine Below.alloc ?_ (by simp; try omega) _

/-- The slice holds the n floats xs. -/
def Fl (w : World) (v : Value) (n : Nat) (xs : Nat → Nat) : Prop := ∃ ao cap, v = .slice ao n cap ∧ n ≤ cap ∧ (0 < n → ∃ b off, ao = some ⟨b, off, none⟩ ∧ b < w.heap.size ∧ ∀ k, k < n → w.cell? ⟨b, off + k, none⟩ = some (.float .f64 (xs k)))

theorem Fl.below {w w' : World} {v : Value} {n : Nat} {xs : Nat → Nat} (h : Fl w v n xs) (hb : Below w.heap.size w w') : Fl w' v n xs := by
  obtain ⟨ao, cap, rfl, hcap, hc⟩ := h
  refine ⟨ao, cap, rfl, hcap, fun h0 => ?_⟩
  obtain ⟨b, off, rfl, hlt, hcell⟩ := hc h0
  exact ⟨b, off, rfl, Nat.lt_of_lt_of_le hlt hb.size, fun k hk => (hb.cell (p := ⟨b, off + k, none⟩) hlt).trans (hcell k hk)⟩

/-- The first k floats, as cells. -/
def fls (xs : Nat → Nat) (k : Nat) : List Value := (List.range k).map fun i => .float .f64 (xs i)

theorem fls_length (xs : Nat → Nat) (k : Nat) : (fls xs k).length = k := by simp [fls]

theorem fls_get {xs : Nat → Nat} {n k : Nat} (h : k < n) : (fls xs n)[k]? = some (.float .f64 (xs k)) := by simp [fls, h]

theorem fls_app (f : Nat → Nat) (k : Nat) (x : Nat) : fls f k ++ [.float .f64 x] = fls (fun i => if i = k then x else f i) (k + 1) := by
  unfold fls
  rw [List.range_succ, List.map_append]
  congr 1
  · apply List.map_congr_left
    intro i hi
    show _ = Value.float .f64 (if i = k then x else f i)
    rw [if_neg (by have := List.mem_range.1 hi; omega)]
  · simp

theorem fls_put (f : Nat → Nat) (n j : Nat) (y : Nat) : (fls f n).set j (.float .f64 y) = fls (fun i => if i = j then y else f i) n := by
  apply List.ext_getElem
  · simp [fls]
  · intro i h1 h2
    simp only [fls, List.getElem_set, List.getElem_map, List.getElem_range]
    by_cases h : j = i
    · subst h; simp
    · simp [h, Ne.symm h]

theorem made_fls (n : Nat) : (madeCells (Value.float .f64 0).cells (n * 1)).toList = fls (fun _ => 0) n := by
  apply List.ext_getElem?
  intro i
  by_cases h : i < n
  · rw [fls_get h]
    simp [madeCells, Value.cells, h, Nat.mod_one]
  · rw [List.getElem?_eq_none (by rw [Array.length_toList, size_madeCells]; omega), List.getElem?_eq_none (by rw [fls_length]; omega)]

theorem Tryz.info37 : (Tryz.prog.info? 37).map (fun i => (i.zero, i.size, i.bytes)) = some (some (.float .f64 0), 1, 8) := by kernel_rfl

theorem fl_of_own {w : World} {B n : Nat} {v : Value} {xs : Nat → Nat} (h : w.ownsRow B 37 1 v n (fls xs n)) : Fl w v n xs := by
  rcases h.2 with ⟨rfl, rfl⟩ | ⟨g, cap, cur, rfl, hb, hg, hc, _⟩
  · exact ⟨none, 0, rfl, Nat.le_refl _, fun h => absurd h (by omega)⟩
  · refine ⟨_, _, rfl, hc, fun h0 => ⟨g, 0, rfl, (Array.getElem?_eq_some_iff.1 hg).1, fun k hk => ?_⟩⟩
    rw [Nat.zero_add, World.ownsRow.cellAt h k (by omega), fls_get hk]

/-- Marks. -/
def mkf (i : Nat) : Nat := fk (1 + (i : Int))

end Go.Proofs.YtddbekacdfohpaaGreatDoor.W

namespace Go.Proofs.YtddbekacdfohpaaGreatDoor.W
open Go.RowKit

/-- What is told: a list of floats in memory of the call's own, each as C says (all NaNs being one). -/
def Pf (w w' : World) (e : Ending) (N : Nat) (C : Nat → Option Nat) : Prop := ∃ u zs, e = .returned u ∧ w'.ownsRow w.heap.size 37 1 u N (fls zs N) ∧ (∀ k, k < N → cn (zs k) = C k) ∧ Below w.heap.size w w'

set_option maxRecDepth 20000 in
set_option maxHeartbeats 2000000 in
theorem iPowers_good {w : World} {v : Value} {n : Nat} {xs ys : Nat → Nat} (hv : Fp w v n xs ys) (hn : n ≤ 128) : Calls Tryz.prog 9 #[v] w fun e w' => Pf w w' e n (fun k => cpw (cn (xs k)) (cn (ys k))) := by
  obtain ⟨i0, hi, hz0, hz1, hz2⟩ := info_parts Tryz.info37
  obtain ⟨ao, cap, rfl, hcap, hc⟩ := hv
  have HC : Hid (0 < n → ∃ b off, ao = some ⟨b, off, none⟩ ∧ b < w.heap.size ∧ ∀ k, k < n → w.cell? ⟨b, off + k * 2, none⟩ = some (.float .f64 (xs k)) ∧ w.cell? ⟨b, off + k * 2 + 1, none⟩ = some (.float .f64 (ys k))) := hc
  clear hc
  obtain ⟨w1, hm, hrow, hgr⟩ := run_makeSlice_full (P := Tryz.prog) w w.heap.size 32 37 i0 (.float .f64 0) 1 Tryz.underlying32 hi hz0 hz1 .i64 .i64 n (by omega) (by rw [hz2]; omega) (by unfold maxLen; omega) (Nat.le_refl _)
  have hbl : Below w.heap.size w w1 := (Below.refl _ _).grown hgr (Nat.le_refl _) (fun _ h => by cases h)
  rw [made_fls] at hrow
  have HR : Hid (w1.ownsRow w.heap.size 37 1 (.slice (some ⟨w.heap.size, 0, none⟩) n n) n (fls (fun _ => 0) n)) := hrow
  have HB : Hid (Below w.heap.size w w1) := hbl
  clear hrow hbl hgr hi hz0 hz1 hz2
  have hST := rStore
  go_enter Tryz.func9, Tryz.ntmps9
  go_wp2
  go_loopw [4, 5, 15] (fun _ _ i wr => ∃ k : Nat, i = .int .i64 k ∧ k ≤ n ∧ Hid (∃ zs, wr.ownsRow w.heap.size 37 1 (.slice (some ⟨w.heap.size, 0, none⟩) n n) n (fls zs n) ∧ (∀ j, j < k → cn (zs j) = cpw (cn (xs j)) (cn (ys j))) ∧ Below w.heap.size w wr)) (fun _ _ i _ => n - (intOf i).toNat)
  case atStart => exact ⟨0, rfl, by omega, fun _ => 0, HR.out, fun j hj => by omega, HB.out⟩
  case round =>
    obtain ⟨k, rfl, hk, hrel⟩ := hrel
    obtain ⟨zs, hown, hzs, hbl⟩ := hrel.out
    by_cases h1 : k < n
    · obtain ⟨b, off, rfl, hlt, hcell⟩ := HC.out (by omega)
      have c : wr.cell? ⟨b, off + k * 2, none⟩ = some (.float .f64 (xs k)) := (hbl.cell (p := ⟨b, off + k * 2, none⟩) hlt).trans (hcell k h1).1
      have c' : wr.cell? ⟨b, off + k * 2 + 1, none⟩ = some (.float .f64 (ys k)) := (hbl.cell (p := ⟨b, off + k * 2 + 1, none⟩) hlt).trans (hcell k h1).2
      have i1 := fun W => iPow_any (xs k) (ys k) W
      have HO : Hid (wr.ownsRow w.heap.size 37 1 (.slice (some ⟨w.heap.size, 0, none⟩) n n) n (fls zs n)) := hown
      have HZ : Hid (∀ j, j < k → cn (zs j) = cpw (cn (xs j)) (cn (ys j))) := hzs
      have HB : Hid (Below w.heap.size w wr) := hbl
      have hbx := below_one wr (.cells #[.float .f64 (xs k), .float .f64 (ys k)] 39)
      clear hcell hrel hown hzs hbl hlt
      go_wp2_with (first | (go_at_call 25; refine (i1 _).mono ?_; rintro e w3 ⟨x, rfl, ex, hb3⟩; have EX : Hid (cn x = cpw (cn (xs k)) (cn (ys k))) := ex; have hbt := bstep hbx hb3; have O4 := own_below HO.out hbt; have B4 : Hid (Below w.heap.size w w3) := bstep HB.out hbt; have hfz := O4.frozenAt k; have hst := (O4.stored k (.float .f64 x)).1; have hce := O4.cellAt k (by omega); rw [fls_get h1] at hce; rw [fls_put] at hst; have HS : Hid _ := hst; clear hst O4 hbt hb3 ex))
      go_roundw
      case rel =>
        refine ⟨k + 1, by go_num, by omega, _, HS.out, fun j hj => ?_, B4.out.setCell (Nat.le_refl _) _⟩
        by_cases hjk : j = k
        · subst hjk
          rw [if_pos rfl]
          exact EX.out
        · rw [if_neg hjk]
          exact HZ.out j (by omega)
      case measure => simp [intOf]; omega
    · obtain rfl : n = k := by omega
      have HO : Hid (wr.ownsRow w.heap.size 37 1 (.slice (some ⟨w.heap.size, 0, none⟩) n n) n (fls zs n)) := hown
      have HZ : Hid (∀ j, j < n → cn (zs j) = cpw (cn (xs j)) (cn (ys j))) := hzs
      have HB : Hid (Below w.heap.size w wr) := hbl
      clear hrel hown hzs hbl
      go_wp2
      go_ret
      exact ⟨_, zs, rfl, HO.out, HZ.out, HB.out⟩

set_option maxHeartbeats 1000000 in
theorem iPowers_bad {w : World} {v : Value} {n : Nat} {xs ys : Nat → Nat} (hv : Fp w v n xs ys) (hn : ¬ n ≤ 128) (hm : n ≤ 1048576) : Calls Tryz.prog 9 #[v] w fun e w' => ∀ C, Pf w w' e 0 C := by
  refine Calls.mono (R := fun e w' => Pf w w' e 0 (fun _ => none)) ?_ (fun e w' ⟨u, zs, h1, h2, _, h4⟩ C => ⟨u, zs, h1, h2, fun k hk => by omega, h4⟩)
  obtain ⟨ao, cap, rfl, hcap, hc⟩ := hv
  clear hc
  go_enter Tryz.func9, Tryz.ntmps9
  go_wp2
  go_ret
  exact ⟨_, fun _ => 0, rfl, own_empty w 37 1, fun k hk => by omega, below_one _ _⟩

theorem ownF_only' {w w' w3 : World} {B3 s s2 n m g : Nat} {e e2 : TypeId} {v x : Value} {xs L : List Value} (h : w.ownsRow w3.heap.size e s v n xs) (ho : Only g w w') (hor : x.ownBlock = some g ∨ w' = w) (hx : w3.ownsRow B3 e2 s2 x m L) : w'.ownsRow w3.heap.size e s v n xs := by
  rcases hor with hg | rfl
  · exact own_only h ho (World.ownsRow.lt hx g hg).2
  · exact h

end Go.Proofs.YtddbekacdfohpaaGreatDoor.W

namespace Go.Proofs.YtddbekacdfohpaaGreatDoor.W
open Go.RowKit

/-- The slice holds n lists of pairs. -/
def Fpp (w : World) (v : Value) (n : Nat) (ms : Nat → Nat) (X Y : Nat → Nat → Nat) : Prop := ∃ ao cap, v = .slice ao n cap ∧ n ≤ cap ∧ (0 < n → ∃ b off, ∃ R : Nat → Value, ao = some ⟨b, off, none⟩ ∧ b < w.heap.size ∧ ∀ k, k < n → w.cell? ⟨b, off + k, none⟩ = some (R k) ∧ Fp w (R k) (ms k) (X k) (Y k))

theorem Fpp.below {w w' : World} {v : Value} {n : Nat} {ms : Nat → Nat} {X Y : Nat → Nat → Nat} (h : Fpp w v n ms X Y) (hb : Below w.heap.size w w') : Fpp w' v n ms X Y := by
  obtain ⟨ao, cap, rfl, hcap, hc⟩ := h
  refine ⟨ao, cap, rfl, hcap, fun h0 => ?_⟩
  obtain ⟨b, off, R, rfl, hlt, hcell⟩ := hc h0
  exact ⟨b, off, R, rfl, Nat.lt_of_lt_of_le hlt hb.size, fun k hk => ⟨(hb.cell (p := ⟨b, off + k, none⟩) hlt).trans (hcell k hk).1, (hcell k hk).2.below hb⟩⟩

/-- A row of slices that the call made, each list of pairs in memory of its own, one behind the other. -/
def OPP (w : World) (B H : Nat) (v : Value) (n : Nat) (ms : Nat → Nat) (X Y : Nat → Nat → Nat) : Prop := ∃ (g cap : Nat) (R : Nat → Value) (Bs : Nat → Nat), v = .slice (some ⟨g, 0, none⟩) n cap ∧ n ≤ cap ∧ B ≤ g ∧ g < Bs 0 ∧ (∀ k, k < n → Bs k ≤ Bs (k + 1)) ∧ Bs n ≤ H ∧ g < w.heap.size ∧ ∀ k, k < n → w.cell? ⟨g, k, none⟩ = some (R k) ∧ w.ownsRow (Bs k) 39 2 (R k) (ms k) (cl2 (X k) (Y k) (ms k)) ∧ ∀ b, (R k).ownBlock = some b → b < Bs (k + 1)

theorem OPP.fpp {w : World} {B H : Nat} {v : Value} {n : Nat} {ms : Nat → Nat} {X Y : Nat → Nat → Nat} (h : OPP w B H v n ms X Y) : Fpp w v n ms X Y := by
  obtain ⟨g, cap, R, Bs, rfl, hcap, _, _, _, _, hlt, hr⟩ := h
  exact ⟨_, cap, rfl, hcap, fun _ => ⟨g, 0, R, rfl, hlt, fun k hk => ⟨by rw [Nat.zero_add]; exact (hr k hk).1, fp_of_own (hr k hk).2.1⟩⟩⟩

theorem OPP.below {w w' : World} {B H : Nat} {v : Value} {n : Nat} {ms : Nat → Nat} {X Y : Nat → Nat → Nat} (h : OPP w B H v n ms X Y) (hb : Below w.heap.size w w') : OPP w' B H v n ms X Y := by
  obtain ⟨g, cap, R, Bs, rfl, hcap, h1, h2, h3, h4, hlt, hr⟩ := h
  exact ⟨g, cap, R, Bs, rfl, hcap, h1, h2, h3, h4, Nat.lt_of_lt_of_le hlt hb.size, fun k hk => ⟨(hb.cell (p := ⟨g, k, none⟩) hlt).trans (hr k hk).1, own_below (hr k hk).2.1 hb, (hr k hk).2.2⟩⟩

/-- What a list that the call owns holds is what its cells are. -/
theorem own_cl2 {w : World} {B n : Nat} {v : Value} {L : List Value} {xs ys : Nat → Nat} (h : w.ownsRow B 39 2 v n L) (hf : Fp w v n xs ys) : w.ownsRow B 39 2 v n (cl2 xs ys n) := by
  have e : L = cl2 xs ys n := by
    rcases h.2 with ⟨rfl, rfl⟩ | ⟨g, cap, cur, rfl, _⟩
    · have := h.1
      rw [Nat.zero_mul] at this
      rw [List.length_eq_zero_iff.1 this]
      exact (List.length_eq_zero_iff.1 (cl2_length xs ys 0)).symm
    · apply List.ext_getElem?
      intro j
      by_cases hj : j < n * 2
      · obtain ⟨ao, cap', he, _, hc⟩ := hf
        obtain ⟨rfl, -, rfl⟩ := Value.slice.inj he
        obtain ⟨b, off, hb, _, hcell⟩ := hc (by omega)
        obtain ⟨rfl, rfl, -⟩ : g = b ∧ 0 = off ∧ True := by simpa using hb
        have h1 := World.ownsRow.cellAt h j hj
        have h2 := hcell (j / 2) (by omega)
        have h3 := cl2_get xs ys (show j / 2 < n by omega)
        simp only [Nat.zero_add] at h2
        by_cases hp : j % 2 = 0
        · rw [show j / 2 * 2 = j by omega] at h2 h3
          rw [← h1, h2.1, h3.1]
        · rw [show j / 2 * 2 + 1 = j by omega] at h2 h3
          rw [← h1, h2.2, h3.2]
      · rw [List.getElem?_eq_none (by rw [h.1]; omega), List.getElem?_eq_none (by rw [cl2_length]; omega)]
  rw [← e]
  exact h

theorem Tryz.info24 : (Tryz.prog.info? 24).map (fun i => (i.zero, i.size, i.bytes)) = some (some (.slice none 0 0), 1, 24) := by kernel_rfl

/-- Values in a row of one cell each. -/
def Ov (W : World) (B g n cap : Nat) (f : Nat → Value) : Prop := W.ownsRow B 24 1 (.slice (some ⟨g, 0, none⟩) n cap) n ((List.range n).map f)

theorem Ov.cell {W : World} {B g n cap : Nat} {f : Nat → Value} (h : Ov W B g n cap f) {j : Nat} (hj : j < n) : W.cell? ⟨g, j, none⟩ = some (f j) := by
  rw [World.ownsRow.cellAt h j (by omega)]
  simp [hj]

theorem Ov.put {W : World} {B g n cap : Nat} {f : Nat → Value} (h : Ov W B g n cap f) (j : Nat) (u : Value) : Ov (W.setCell ⟨g, j, none⟩ u) B g n cap (fun i => if i = j then u else f i) := by
  have := (World.ownsRow.stored h j u).1
  rw [set_fun] at this
  exact this

theorem rStoreS (a : Addr) (ao : Option Addr) (n c : Nat) (m : Mode) (w : World) : (store a (.slice ao n c) m).run Tryz.prog w = stored Tryz.prog w a (.slice ao n c) m := run_store Tryz.prog w a _ m rfl

/-- Only blocks of a range have turned. -/
structure Rng (B H : Nat) (w w' : World) : Prop where
  os : w'.os = w.os
  tape : w'.tape = w.tape
  output : w'.output = w.output
  size : w.heap.size ≤ w'.heap.size
  block : ∀ k, k < B ∨ H ≤ k → w'.heap[k]? = w.heap[k]?

theorem Rng.refl (B H : Nat) (w : World) : Rng B H w w := ⟨rfl, rfl, rfl, Nat.le_refl _, fun _ _ => rfl⟩
theorem Rng.only {B H g : Nat} {w w1 w2 : World} (h : Rng B H w w1) (ho : Only g w1 w2) (hg : B ≤ g ∧ g < H) : Rng B H w w2 :=
  ⟨ho.os.trans h.os, ho.tape.trans h.tape, ho.output.trans h.output, Nat.le_trans h.size ho.size, fun k hk => (ho.block k (by omega)).trans (h.block k hk)⟩
theorem Rng.below {B H C : Nat} {w w1 w2 : World} (h : Rng B H w1 w2) (hb : Below C w w1) (hC : C ≤ B) : Below C w w2 :=
  hb.trans ⟨h.os, h.tape, h.output, h.size, fun k hk => h.block k (by omega)⟩
theorem Rng.own {B H C s n : Nat} {w w' : World} {e : TypeId} {v : Value} {xs : List Value} (h : Rng B H w w') (ho : w.ownsRow C e s v n xs) (hC : H ≤ C) : w'.ownsRow C e s v n xs := by
  refine ⟨ho.1, ?_⟩
  rcases ho.2 with h' | ⟨g', cap', cur, h', hb', hg', rest⟩
  · exact .inl h'
  · exact .inr ⟨g', cap', cur, h', hb', (h.block g' (by omega)).trans hg', rest⟩

end Go.Proofs.YtddbekacdfohpaaGreatDoor.W
