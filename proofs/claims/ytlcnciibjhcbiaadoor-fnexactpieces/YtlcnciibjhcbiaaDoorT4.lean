/- Lists that a call owns: copied, marked, held. -/
import Derived.Test.YtlcnciibjhcbiaaDoorT2
namespace Go.Proofs.YtlcnciibjhcbiaaDoor
open Go.RowKit

set_option maxHeartbeats 1000000 in
/-- A copy of a list, in memory of its own. -/
theorem copy_own {w : World} {v : Value} {n : Nat} {xs ys : Nat → Nat} (hv : Fp w v n xs ys) (hn : n ≤ 1048576) :
    Calls Tryd.prog 8 #[v] w fun e w' => Below w.heap.size w w' ∧ ∃ v' L, e = .returned v' ∧ Fp w' v' n xs ys ∧ w'.ownsRow w.heap.size 40 2 v' n L := by
  obtain ⟨i0, hi, hz0, hz1, hz2⟩ := info_parts Tryd.info40
  obtain ⟨ao, cap, rfl, hcap, hc⟩ := hv
  have HC : Hid _ := hc
  clear hc
  obtain ⟨w1, hm, hrow, hgr⟩ := run_makeSlice_full (P := Tryd.prog) w w.heap.size 24 40 i0 (.agg #[.float .f64 0, .float .f64 0]) 2 Tryd.underlying24 hi hz0 hz1 .i64 .i64 n (by omega) (by rw [hz2]; omega) (by unfold maxLen; omega) (Nat.le_refl _)
  have hbl : Below w.heap.size w w1 := (Below.refl _ _).grown hgr (Nat.le_refl _) (fun _ h => by cases h)
  generalize hL : (madeCells (Value.agg #[.float .f64 0, .float .f64 0]).cells (n * 2)).toList = L at hrow
  have hLn : L.length = n * 2 := by rw [← hL, Array.length_toList, size_madeCells]
  rw [list_fun L, hLn] at hrow
  have HR : Hid (∃ f, Ow w1 w.heap.size w.heap.size n n f) := ⟨_, hrow⟩
  have HB : Hid (Below w.heap.size w w1) := hbl
  clear hrow hbl hL hgr hi hz0 hz1 hz2 hLn
  have hST := rStore
  go_enter Tryd.func8, Tryd.ntmps8
  go_wp2
  go_loopw [4] (fun i wr => ∃ k : Nat, i = .int .i64 k ∧ k ≤ n ∧ Hid ((∃ f, Ow wr w.heap.size w.heap.size n n f ∧ ∀ i, i < k → f (i * 2) = .float .f64 (xs i) ∧ f (i * 2 + 1) = .float .f64 (ys i)) ∧ Below w.heap.size w wr)) (fun i _ => n - (intOf i).toNat)
  case atStart =>
    obtain ⟨f, hf⟩ := HR.out
    exact ⟨0, rfl, by omega, ⟨f, hf, fun i hi => by omega⟩, HB.out⟩
  case round =>
    obtain ⟨k, rfl, hk, hrel⟩ := hrel
    obtain ⟨⟨f, hf, hfx⟩, hbl⟩ := hrel.out
    by_cases h1 : k < n
    · obtain ⟨b, off, rfl, hlt, hcell⟩ := HC.out (by omega)
      have c : wr.cell? ⟨b, off + k * 2, none⟩ = some (.float .f64 (xs k)) := (hbl.cell (p := ⟨b, off + k * 2, none⟩) hlt).trans (hcell k h1).1
      have c' : wr.cell? ⟨b, off + k * 2 + 1, none⟩ = some (.float .f64 (ys k)) := (hbl.cell (p := ⟨b, off + k * 2 + 1, none⟩) hlt).trans (hcell k h1).2
      have hT := fun W => toPair_any (xs k) (ys k) W
      have HF : Hid (Ow wr w.heap.size w.heap.size n n f) := hf
      have HX : Hid _ := hfx
      have HBL : Hid _ := hbl
      clear hf hfx hbl hrel hcell
      go_wp2_with (go_at_call 26; refine (hT _).mono ?_; rintro e w2 ⟨rfl, hb2⟩; have o2 := Ow.below HF.out hb2; have d0 := o2.cell (j := k * 2) (by omega); have d1 := o2.cell (j := k * 2 + 1) (by omega); have z0 := World.ownsRow.frozenAt o2 (k * 2); have z1 := World.ownsRow.frozenAt o2 (k * 2 + 1); have OP : Hid _ := (o2.put (k * 2) (.float .f64 (xs k))).put (k * 2 + 1) (.float .f64 (ys k)); have HB2 : Hid _ := bstep HBL.out hb2; clear o2 hb2)
      go_roundw
      case rel =>
        refine ⟨k + 1, by go_num, by omega, ⟨_, OP.out, fun i hi => ?_⟩, (HB2.out.setCell (Nat.le_refl _) _).setCell (Nat.le_refl _) _⟩
        by_cases hik : i = k
        · subst hik; simp
        · obtain ⟨x1, x2⟩ := HX.out i (by omega)
          constructor
          · rw [if_neg (by omega), if_neg (by omega), x1]
          · rw [if_neg (by omega), if_neg (by omega), x2]
      case measure => simp [intOf]; omega
    · obtain rfl : k = n := by omega
      have HF : Hid (Ow wr w.heap.size w.heap.size k k f) := hf
      clear hf hrel
      go_wp2
      go_ret
      refine ⟨hbl, _, _, rfl, ⟨_, _, rfl, Nat.le_refl _, fun h0 => ⟨_, 0, rfl, ?_, fun j hj => ?_⟩⟩, HF.out⟩
      · exact (World.ownsRow.lt HF.out _ rfl).2
      · obtain ⟨x1, x2⟩ := hfx j hj
        rw [Nat.zero_add, Ow.cell HF.out (by omega), Ow.cell HF.out (by omega), x1, x2]
        exact ⟨rfl, rfl⟩

/-- Nothing but block g has turned. -/
structure Only (g : Nat) (w w' : World) : Prop where
  os : w'.os = w.os
  tape : w'.tape = w.tape
  output : w'.output = w.output
  size : w.heap.size ≤ w'.heap.size
  block : ∀ k, k ≠ g → w'.heap[k]? = w.heap[k]?

theorem Only.refl (g : Nat) (w : World) : Only g w w := ⟨rfl, rfl, rfl, Nat.le_refl _, fun _ _ => rfl⟩

theorem Only.put {g : Nat} {w w' : World} (h : Only g w w') (j : Nat) (u : Value) : Only g w (w'.setCell ⟨g, j, none⟩ u) :=
  ⟨h.os, h.tape, h.output, by simpa [World.setCell] using h.size, fun k hk => (Below.heap_setCell _ _ _ _ hk).trans (h.block k hk)⟩

theorem Below.only {B g : Nat} {w W W' : World} (h : Below B w W) (ho : Only g W W') (hg : B ≤ g) : Below B w W' :=
  h.trans ⟨ho.os, ho.tape, ho.output, ho.size, fun k hk => ho.block k (by omega)⟩

theorem own_only {w w' : World} {B s n g : Nat} {e : TypeId} {v : Value} {xs : List Value} (h : w.ownsRow B e s v n xs) (ho : Only g w w') (hg : g < B) : w'.ownsRow B e s v n xs := by
  refine ⟨h.1, ?_⟩
  rcases h.2 with h' | ⟨g', cap', cur, h', hb', hg', rest⟩
  · exact .inl h'
  · exact .inr ⟨g', cap', cur, h', hb', (ho.block g' (by omega)).trans hg', rest⟩

/-- The float of a whole number. -/
abbrev fk (n : Int) : Nat := floatOfInt .f64 n

theorem fk_ne (n : Int) : (FloatKind.f64.format.order (fk n) (fk n) != some .eq) = false := by
  have h : (Ieee.double.read (fk n)).isNaN = false := write_not_nan (.number (decide (n < 0)) n.natAbs 0) rfl
  have := order_same h
  simp [this]

/-- What marks stand in a row. -/
def Mk (f : Nat → Value) (n : Nat) : Prop := ∀ i, i < n → f (i * 2) = .float .f64 (fk (1 + 2 * (i : Int))) ∧ f (i * 2 + 1) = .float .f64 (fk (1 + 2 * (i : Int) + 1))

set_option maxHeartbeats 2000000 in
theorem mark_any {w : World} {B g n cap : Nat} {f : Nat → Value} (ho : Ow w B g n cap f) (hn : n ≤ 1048576) :
    Calls Tryd.prog 11 #[.slice (some ⟨g, 0, none⟩) n cap, .int .i64 1] w fun e w' => e = .returned (.int .i64 (1 + 2 * (n : Int))) ∧ (∃ f', Ow w' B g n cap f' ∧ Mk f' n) ∧ Only g w w' := by
  have HO : Hid _ := ho
  clear ho
  have hST := rStore
  go_enter Tryd.func11, Tryd.ntmps11
  go_wp2
  go_loopw [1, 5] (fun kk i wr => ∃ q : Nat, i = .int .i64 q ∧ kk = .int .i64 (1 + 2 * (q : Int)) ∧ q ≤ n ∧ Hid ((∃ f', Ow wr B g n cap f' ∧ Mk f' q) ∧ Only g w wr)) (fun _ i _ => n - (intOf i).toNat)
  case atStart => exact ⟨0, rfl, rfl, by omega, ⟨f, HO.out, fun i hi => by omega⟩, Only.refl _ _⟩
  case round =>
    obtain ⟨q, rfl, rfl, hq, hrel⟩ := hrel
    obtain ⟨⟨f', hf, hmk⟩, hon⟩ := hrel.out
    by_cases h1 : q < n
    · have d0 := hf.cell (j := q * 2) (by omega)
      have d1 := hf.cell (j := q * 2 + 1) (by omega)
      have z0 := World.ownsRow.frozenAt hf (q * 2)
      have z1 := World.ownsRow.frozenAt hf (q * 2 + 1)
      have OP : Hid _ := (hf.put (q * 2) (.float .f64 (fk (1 + 2 * (q : Int))))).put (q * 2 + 1) (.float .f64 (fk (1 + 2 * (q : Int) + 1)))
      have ON : Hid _ := (hon.put (q * 2) (.float .f64 (fk (1 + 2 * (q : Int))))).put (q * 2 + 1) (.float .f64 (fk (1 + 2 * (q : Int) + 1)))
      have HM : Hid _ := hmk
      clear hf hmk hon hrel
      go_wp2
      go_roundw
      case rel =>
        refine ⟨q + 1, by go_num, by first | go_num | (congr 1; omega), by omega, ⟨_, OP.out, fun i hi => ?_⟩, ON.out⟩
        by_cases hik : i = q
        · subst hik; simp
        · obtain ⟨x1, x2⟩ := HM.out i (by omega)
          constructor
          · rw [if_neg (by omega), if_neg (by omega), x1]
          · rw [if_neg (by omega), if_neg (by omega), x2]
      case measure => simp [intOf]; omega
    · obtain rfl : q = n := by omega
      have HM : Hid _ := And.intro hf hmk
      have ON : Hid _ := hon
      clear hf hmk hon hrel
      go_wp2
      go_ret
      exact ⟨rfl, ⟨f', HM.out.1, HM.out.2⟩, ON.out⟩

set_option maxHeartbeats 2000000 in
theorem held_any {w : World} {B g n cap : Nat} {f : Nat → Value} (ho : Ow w B g n cap f) (hm : Mk f n) (hn : n ≤ 1048576) :
    Calls Tryd.prog 12 #[.slice (some ⟨g, 0, none⟩) n cap, .int .i64 1] w fun e w' => e = .returned (.int .i64 (1 + 2 * (n : Int))) ∧ w' = w := by
  have HO : Hid _ := ho
  have HM : Hid _ := hm
  clear ho hm
  go_enter Tryd.func12, Tryd.ntmps12
  go_wp2
  go_loopw [1, 5] (fun kk i wr => ∃ q : Nat, i = .int .i64 q ∧ kk = .int .i64 (1 + 2 * (q : Int)) ∧ q ≤ n ∧ wr = w) (fun _ i _ => n - (intOf i).toNat)
  case atStart => exact ⟨0, rfl, rfl, by omega, rfl⟩
  case round =>
    obtain ⟨q, rfl, rfl, hq, rfl⟩ := hrel
    by_cases h1 : q < n
    · have d0 := Ow.cell HO.out (j := q * 2) (by omega)
      have d1 := Ow.cell HO.out (j := q * 2 + 1) (by omega)
      obtain ⟨x1, x2⟩ := HM.out q h1
      rw [x1] at d0
      rw [x2] at d1
      have e1 := fk_ne (1 + 2 * (q : Int))
      have e2 := fk_ne (1 + 2 * (q : Int) + 1)
      clear x1 x2
      go_wp2
      go_roundw
      case rel => exact ⟨q + 1, by go_num, by first | go_num | (congr 1; omega), by omega, by trivial⟩
      case measure => simp [intOf]; omega
    · obtain rfl : q = n := by omega
      go_wp2
      go_ret
      exact ⟨rfl, rfl⟩
end Go.Proofs.YtlcnciibjhcbiaaDoor
