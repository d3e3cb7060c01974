/- Structures that are made; a list run through one. -/
import Derived.Test.YtnhkiknmbjaafaaRA
import Derived.Stop.Asserts
import Derived.Deep.RegionWith
namespace Go.Proofs.Ytnhkiknmbjaafaa
open Go.RowKit

theorem made_zero (k : Nat) : (madeCells (Value.int .i64 0).cells (k * 1)).toList = ils (fun _ => 0) k := by
  apply List.ext_getElem?
  intro i
  by_cases h : i < k
  · rw [ils_get h]
    simp [madeCells, Value.cells, h, Nat.mod_one]
  · rw [List.getElem?_eq_none (by rw [Array.length_toList, size_madeCells]; omega), List.getElem?_eq_none (by rw [ils_length]; omega)]

/-- A list of noughts made. -/
def mkd (W : World) (k : Nat) : World := W.alloc (.cells (madeCells (Value.int .i64 0).cells (k * 1)) 3)

theorem mkd_run (W : World) {k : Nat} (hk : k ≤ 1048576) : (Instr.makeSlice 24 (.int .i64 (k : Int)) (.int .i64 (k : Int))).run Try.prog W = .ok (.slice (some ⟨W.heap.size, 0, none⟩) k k) (mkd W k) := by
  obtain ⟨i0, hi, hz0, hz1, hz2⟩ := info_parts Try.info3
  have h := run_make (P := Try.prog) W 24 3 i0 (.int .i64 0) Try.underlying24 hi hz0 .i64 .i64 k k (by omega) (Int.le_refl _) (by rw [hz2]; omega) (by omega)
  rw [Int.toNat_natCast, hz1] at h
  exact h

theorem mkd_own (W : World) {B k : Nat} (hk : k ≤ 1048576) (hB : B ≤ W.heap.size) : (mkd W k).ownsRow B 3 1 (.slice (some ⟨W.heap.size, 0, none⟩) k k) k (ils (fun _ => 0) k) := by
  have h := World.ownsRow_lit (base := B) (e := 3) (size := 1) W (madeCells (Value.int .i64 0).cells (k * 1)) k hB (by unfold maxLen; omega) (size_madeCells _ _)
  rw [made_zero] at h
  exact h

theorem mkd_below (W : World) (k : Nat) : Below W.heap.size W (mkd W k) := below_one _ _

theorem mkd_size (W : World) (k : Nat) : (mkd W k).heap.size = W.heap.size + 1 := by simp [mkd]

theorem own_lt {w : World} {B s n g c : Nat} {e : TypeId} {xs : List Value} (h : w.ownsRow B e s (.slice (some ⟨g, 0, none⟩) n c) n xs) : B ≤ g ∧ g < w.heap.size := by
  have := World.ownsRow.lt h g rfl
  omega

set_option maxHeartbeats 2000000 in
theorem newComb_any {w : World} {m : Nat} (h0 : 0 < m) (hm : m ≤ 512) : Calls Try.prog 31 #[.int .i64 m] w fun e w' => ∃ C P, e = .returned (.pointer (some ⟨C, 0, none⟩)) ∧ w.heap.size ≤ C ∧ w.heap.size ≤ P ∧ Cb w' w.heap.size C P m (fun _ => 0) 0 ∧ Below w.heap.size w w' := by
  have hmk := fun W => mkd_run W (k := m) (by omega)
  go_enter Try.func31, Try.ntmps31
  go_wp2
  have O1 : Hid _ := mkd_own w (B := w.heap.size) (k := m) (by omega) (Nat.le_refl _)
  have B1 : Below w.heap.size w (mkd w m) := mkd_below w m
  have S1 := mkd_size w m
  clear hmk
  generalize mkd w m = W at O1 B1 S1 ⊢
  go_ret
  have hb : Below W.heap.size W (W.alloc (.cells #[.slice (some ⟨w.heap.size, 0, none⟩) m m, .int .i64 0] 67)) := below_one _ _
  exact ⟨_, _, rfl, B1.size, Nat.le_refl _, ⟨Rg.new _ _ _ _, own_below O1.out hb, by omega, h0⟩, bstep B1 hb⟩

/-- A gathering: a comb, and the last sum. -/
structure Gt (W : World) (B G C P m : Nat) (f : Nat → Int) (o : Nat) (s : Int) : Prop where
  rg : Rg W G (.pointer (some ⟨C, 0, none⟩)) (.int .i64 s)
  cb : Cb W B C P m f o
  nc : G ≠ C
  np : G ≠ P

abbrev GtD (G C P : Nat) (g : Nat) : Prop := g = G ∨ CbD C P g

theorem Gt.block {W W' : World} {B G C P m o : Nat} {f : Nat → Int} {s : Int} (h : Gt W B G C P m f o s) (e : ∀ g, GtD G C P g → W'.heap[g]? = W.heap[g]?) : Gt W' B G C P m f o s :=
  ⟨h.rg.block (e G (.inl rfl)), h.cb.block (fun g hg => e g (.inr hg)), h.nc, h.np⟩

theorem Rg.kd {D : Nat → Prop} {W W' : World} {g : Nat} {x y : Value} (h : Rg W g x y) (hk : Kd D W W') (hd : ¬ D g) : Rg W' g x y := h.block (hk.block g h.lt hd)

set_option maxHeartbeats 2000000 in
theorem gStep {w : World} {B G C P m o : Nat} {f : Nat → Int} {x s : Int} (h : Gt w B G C P m f o s) (hm : m ≤ 512) (hx : -1099511627776 ≤ x ∧ x ≤ 1099511627776) (hf : -1099511627776 ≤ f o ∧ f o ≤ 1099511627776) (hs : -1125899906842624 ≤ s ∧ s ≤ 1125899906842624) :
    Calls Try.prog 50 #[.pointer (some ⟨G, 0, none⟩), .int .i64 x] w fun e w' => e = .returned (.int .i64 (s + (x - f o))) ∧ Gt w' B G C P m (fun i => if i = o then x else f i) ((o + 1) % m) (s + (x - f o)) ∧ Kd (GtD G C P) w w' := by
  have H : Hid (Gt w B G C P m f o s) := h
  obtain ⟨⟨c0, c1, y0, y1⟩, _, hnc, hnp⟩ := h
  have hwr : IntKind.i64.wrap (s + (x - f o)) = s + (x - f o) := by rw [IntKind.wrap_i64]; omega
  go_enter Try.func50, Try.ntmps50
  go_wp2
  go_region_with (go_at_call 51; (with_reducible refine (cStep H.out.cb.drew hm hx hf).mono ?_); rintro e w1 ⟨rfl, hc, hk⟩; have HR : Hid (Rg w1 G (.pointer (some ⟨C, 0, none⟩)) (.int .i64 s)) := (H.out.rg.kd (Kd.refl (CbD C P) _).drew (by rintro (e | e) <;> omega)).kd hk (by rintro (e | e) <;> omega); have HC : Hid _ := hc; have HK : Hid _ := hk; clear hc hk; obtain ⟨k0, k1, x0, x1⟩ := HR.out)
  all_goals
    have HG : Hid (Gt (w1.setCell ⟨G, 1, none⟩ (.int .i64 (s + (x - f o)))) B G C P m (fun i => if i = o then x else f i) ((o + 1) % m) (s + (x - f o))) := ⟨HR.out.put1 _, HC.out.block (fun g hg => Below.heap_setCell _ _ _ _ (by rintro rfl; rcases hg with e | e <;> omega)), hnc, hnp⟩
    have HE : Hid (Kd (GtD G C P) w (w1.setCell ⟨G, 1, none⟩ (.int .i64 (s + (x - f o))))) := (((Kd.refl _ _).drew).trans (HK.out.mono (fun g hg => .inr hg))).put (.inl (.inl rfl)) 1 _
    clear HR HC HK k0 k1 x0 x1
    generalize w1.setCell ⟨G, 1, none⟩ (.int .i64 (s + (x - f o))) = W at HG HE ⊢
    obtain ⟨⟨k0, k1, x0, x1⟩, _, _, _⟩ := HG.out
    go_wp2
    go_ret
    exact ⟨rfl, HG.out, HE.out⟩

set_option maxHeartbeats 2000000 in
theorem newGat_any {w : World} {m : Nat} (h0 : 0 < m) (hm : m ≤ 512) : Calls Try.prog 18 #[.int .i64 m] w fun e w' => ∃ G C P, e = .returned (.pointer (some ⟨G, 0, none⟩)) ∧ w.heap.size ≤ G ∧ w.heap.size ≤ C ∧ w.heap.size ≤ P ∧ Gt w' w.heap.size G C P m (fun _ => 0) 0 0 ∧ Below w.heap.size w w' := by
  have i1 := newComb_any (w := w) h0 hm
  go_enter Try.func18, Try.ntmps18
  go_wp2_with (go_at_call 31; (with_reducible refine i1.mono ?_); rintro e w1 ⟨C, P, rfl, h1, h2, h3, h4⟩; have H3 : Hid _ := h3; clear h3)
  go_ret
  have hb : Below w1.heap.size w1 (w1.alloc (.cells #[.pointer (some ⟨C, 0, none⟩), .int .i64 0] 64)) := below_one _ _
  have l1 := H3.out.rg.lt
  have l2 := (own_lt H3.out.own).2
  exact ⟨_, _, _, rfl, h4.size, h1, h2, ⟨Rg.new _ _ _ _, H3.out.block (fun g hg => hb.block g (by rcases hg with rfl | rfl <;> omega)), by omega, by omega⟩, bstep h4 hb⟩
end Go.Proofs.Ytnhkiknmbjaafaa
