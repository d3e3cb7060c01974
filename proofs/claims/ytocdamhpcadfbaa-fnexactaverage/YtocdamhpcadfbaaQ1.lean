/- Lists of floats that a call owns; Powers. -/
import Derived.Test.YtocdamhpcadfbaaT5
namespace Go.Proofs.Ytocdamhpcadfbaa
open Go.RowKit

set_option maxHeartbeats 1000000 in
theorem sPow_any (a b : Nat) (w : World) : Calls Try.prog 20 #[Pv a b] w fun e w' => ∃ x, e = .returned (.float .f64 x) ∧ cn x = cpw (cn a) (cn b) ∧ Below w.heap.size w w' := by
  have hA := rAdd
  have hM := rMul
  have hfc := fwor_cell
  have hff := fwor_frozen
  go_enter Try.func20, Try.ntmps20
  go_wp2
  go_ret
  refine ⟨_, rfl, ?_, ?_⟩
  · simp only [cn_fres, cpw]
  repeat first | exact Below.refl _ _ | apply below_fwor | refine Below.alloc ?_ (by simp; try omega) _

set_option maxHeartbeats 1000000 in
theorem plus_any (a b c : Nat) (w : World) : Calls Try.prog 29 #[.float .f64 a, .float .f64 b, .float .f64 c] w fun e w' => ∃ x, e = .returned (.float .f64 x) ∧ cn x = cop .add (cop .mul (cn a) (cn b)) (cn c) ∧ Below w.heap.size w w' := by
  have hA := rAdd
  have hM := rMul
  go_enter Try.func29, Try.ntmps29
  go_wp2
  go_ret
  refine ⟨_, rfl, ?_, ?_⟩
  · simp only [cn_fres]
  repeat first | exact Below.refl _ _ | apply below_fwor

set_option maxHeartbeats 1000000 in
theorem iPow_any (a b : Nat) (w : World) : Calls Try.prog 22 #[Pv a b] w fun e w' => ∃ x, e = .returned (.float .f64 x) ∧ cn x = cpw (cn a) (cn b) ∧ Below w.heap.size w w' := by
  have hM := rMul
  have hfc := fwor_cell
  have hff := fwor_frozen
  go_enter Try.func22, Try.ntmps22
  go_wp2_with (go_at_call 29; refine (plus_any _ _ _ _).mono ?_; rintro e x1 ⟨x, rfl, ex, hb⟩)
  go_ret
  refine ⟨_, rfl, ?_, ?_⟩
  · rw [ex]; simp only [cn_fres, cpw]
  · refine bstep ?_ hb
    repeat first | exact Below.refl _ _ | apply below_fwor | refine Below.alloc ?_ (by simp; try omega) _

/-- The slice holds the n floats xs. -/
def Fl (w : World) (v : Value) (n : Nat) (xs : Nat → Nat) : Prop := ∃ ao cap, v = .slice ao n cap ∧ n ≤ cap ∧ (0 < n → ∃ b off, ao = some ⟨b, off, none⟩ ∧ b < w.heap.size ∧ ∀ k, k < n → w.cell? ⟨b, off + k, none⟩ = some (.float .f64 (xs k)))

theorem Fl.below {w w' : World} {v : Value} {n : Nat} {xs : Nat → Nat} (h : Fl w v n xs) (hb : Below w.heap.size w w') : Fl w' v n xs := by
  obtain ⟨ao, cap, rfl, hcap, hc⟩ := h
  refine ⟨ao, cap, rfl, hcap, fun h0 => ?_⟩
  obtain ⟨b, off, rfl, hlt, hcell⟩ := hc h0
  exact ⟨b, off, rfl, Nat.lt_of_lt_of_le hlt hb.size, fun k hk => (hb.cell (p := ⟨b, off + k, none⟩) hlt).trans (hcell k hk)⟩

/-- The first k floats, as cells. -/
def fls (xs : Nat → Nat) (k : Nat) : List Value := (List.range k).map fun i => .float .f64 (xs i)

theorem fls_length (xs : Nat → Nat) (k : Nat) : (fls xs k).length = k := by simp [fls]

theorem fls_get {xs : Nat → Nat} {n k : Nat} (h : k < n) : (fls xs n)[k]? = some (.float .f64 (xs k)) := by simp [fls, h]

theorem fls_app (f : Nat → Nat) (k : Nat) (x : Nat) : fls f k ++ [.float .f64 x] = fls (fun i => if i = k then x else f i) (k + 1) := by
  unfold fls
  rw [List.range_succ, List.map_append]
  congr 1
  · apply List.map_congr_left
    intro i hi
    show _ = Value.float .f64 (if i = k then x else f i)
    rw [if_neg (by have := List.mem_range.1 hi; omega)]
  · simp

theorem fls_put (f : Nat → Nat) (n j : Nat) (y : Nat) : (fls f n).set j (.float .f64 y) = fls (fun i => if i = j then y else f i) n := by
  apply List.ext_getElem
  · simp [fls]
  · intro i h1 h2
    simp only [fls, List.getElem_set, List.getElem_map, List.getElem_range]
    by_cases h : j = i
    · subst h; simp
    · simp [h, Ne.symm h]

theorem made_fls (n : Nat) : (madeCells (Value.float .f64 0).cells (n * 1)).toList = fls (fun _ => 0) n := by
  apply List.ext_getElem?
  intro i
  by_cases h : i < n
  · rw [fls_get h]
    simp [madeCells, Value.cells, h, Nat.mod_one]
  · rw [List.getElem?_eq_none (by rw [Array.length_toList, size_madeCells]; omega), List.getElem?_eq_none (by rw [fls_length]; omega)]

theorem Try.info42 : (Try.prog.info? 42).map (fun i => (i.zero, i.size, i.bytes)) = some (some (.float .f64 0), 1, 8) := by kernel_rfl

theorem fl_of_own {w : World} {B n : Nat} {v : Value} {xs : Nat → Nat} (h : w.ownsRow B 42 1 v n (fls xs n)) : Fl w v n xs := by
  rcases h.2 with ⟨rfl, rfl⟩ | ⟨g, cap, cur, rfl, hb, hg, hc, _⟩
  · exact ⟨none, 0, rfl, Nat.le_refl _, fun h => absurd h (by omega)⟩
  · refine ⟨_, _, rfl, hc, fun h0 => ⟨g, 0, rfl, (Array.getElem?_eq_some_iff.1 hg).1, fun k hk => ?_⟩⟩
    rw [Nat.zero_add, World.ownsRow.cellAt h k (by omega), fls_get hk]

set_option maxHeartbeats 1000000 in
/-- Two lists whose floats are the same (all NaNs being one): eqFloat64S says so. -/
theorem eqF_yes {w : World} {v u : Value} {n : Nat} {xs ys : Nat → Nat} (hv : Fl w v n xs) (hu : Fl w u n ys) (hn : n ≤ 1048576) (he : ∀ k, k < n → cn (xs k) = cn (ys k)) :
    Calls Try.prog 9 #[v, u] w fun e w' => e = .returned (.bool true) ∧ Below w.heap.size w w' := by
  obtain ⟨ao, cap, rfl, hcap, hc⟩ := hv
  obtain ⟨bo, cap2, rfl, hcap2, hc2⟩ := hu
  have HC : Hid (0 < n → ∃ b off, ao = some ⟨b, off, none⟩ ∧ b < w.heap.size ∧ ∀ k, k < n → w.cell? ⟨b, off + k, none⟩ = some (.float .f64 (xs k))) := hc
  have HC2 : Hid (0 < n → ∃ b off, bo = some ⟨b, off, none⟩ ∧ b < w.heap.size ∧ ∀ k, k < n → w.cell? ⟨b, off + k, none⟩ = some (.float .f64 (ys k))) := hc2
  have HE : Hid (∀ k, k < n → cn (xs k) = cn (ys k)) := he
  clear hc hc2 he
  go_enter Try.func9, Try.ntmps9
  go_wp2
  go_loopw [5] (fun i wr => ∃ k : Nat, i = .int .i64 k ∧ k ≤ n ∧ Hid (Below w.heap.size w wr)) (fun i _ => n - (intOf i).toNat)
  case atStart => exact ⟨0, rfl, by omega, Below.refl _ _⟩
  case round =>
    obtain ⟨k, rfl, hk, hbl⟩ := hrel
    by_cases h1 : k < n
    · obtain ⟨b, off, rfl, hlt, hcell⟩ := HC.out (by omega)
      obtain ⟨b2, off2, rfl, hlt2, hcell2⟩ := HC2.out (by omega)
      have c : wr.cell? ⟨b, off + k, none⟩ = some (.float .f64 (xs k)) := (hbl.out.cell (p := ⟨b, off + k, none⟩) hlt).trans (hcell k h1)
      have c2 : wr.cell? ⟨b2, off2 + k, none⟩ = some (.float .f64 (ys k)) := (hbl.out.cell (p := ⟨b2, off2 + k, none⟩) hlt2).trans (hcell2 k h1)
      have hs := fun w => same_yes (xs k) (ys k) w (HE.out k h1)
      clear hcell hcell2 hlt hlt2
      go_wp2_with (go_quiet ((go_at_call 23; refine (hs _).mono ?_; rintro e w' ⟨rfl, rfl⟩; exact ⟨rfl, _, rfl⟩)))
      go_roundw
      case rel => exact ⟨k + 1, by go_num, by omega, below_drewN hbl.out _⟩
      case measure => simp [intOf]; omega
    · obtain rfl : k = n := by omega
      go_wp2
      go_ret
      exact ⟨rfl, hbl.out⟩

/-- Marks. -/
def mkf (i : Nat) : Nat := fk (1 + (i : Int))

set_option maxHeartbeats 2000000 in
theorem markF_any {w : World} {B g n cap : Nat} {f : Nat → Nat} (ho : w.ownsRow B 42 1 (.slice (some ⟨g, 0, none⟩) n cap) n (fls f n)) (hn : n ≤ 1048576) :
    Calls Try.prog 12 #[.slice (some ⟨g, 0, none⟩) n cap, .int .i64 1] w fun e w' => e = .returned (.int .i64 (1 + (n : Int))) ∧ w'.ownsRow B 42 1 (.slice (some ⟨g, 0, none⟩) n cap) n (fls mkf n) ∧ Only g w w' := by
  have HO : Hid (w.ownsRow B 42 1 (.slice (some ⟨g, 0, none⟩) n cap) n (fls f n)) := ho
  clear ho
  have hST := rStore
  go_enter Try.func12, Try.ntmps12
  go_wp2
  go_loopw [1, 5] (fun kk i wr => ∃ q : Nat, i = .int .i64 q ∧ kk = .int .i64 (1 + (q : Int)) ∧ q ≤ n ∧ Hid ((∃ f', wr.ownsRow B 42 1 (.slice (some ⟨g, 0, none⟩) n cap) n (fls f' n) ∧ ∀ j, j < q → f' j = mkf j) ∧ Only g w wr)) (fun _ i _ => n - (intOf i).toNat)
  case atStart => exact ⟨0, rfl, rfl, by omega, ⟨f, HO.out, fun i hi => by omega⟩, Only.refl _ _⟩
  case round =>
    obtain ⟨q, rfl, rfl, hq, hrel⟩ := hrel
    obtain ⟨⟨f', hf, hmk⟩, hon⟩ := hrel.out
    by_cases h1 : q < n
    · have d0 := World.ownsRow.cellAt hf q (by omega)
      rw [fls_get h1] at d0
      have z0 := World.ownsRow.frozenAt hf q
      have st := (World.ownsRow.stored hf q (.float .f64 (fk (1 + (q : Int))))).1
      rw [fls_put] at st
      have OP : Hid _ := st
      have ON : Hid _ := hon.put q (.float .f64 (fk (1 + (q : Int))))
      have HM : Hid (∀ j, j < q → f' j = mkf j) := hmk
      clear hf hmk hon hrel st
      go_wp2
      go_roundw
      case rel =>
        refine ⟨q + 1, by go_num, by first | go_num | (congr 1; omega), by omega, ⟨_, OP.out, fun i hi => ?_⟩, ON.out⟩
        by_cases hik : i = q
        · subst hik; simp [mkf]
        · simp only [if_neg hik]
          exact HM.out i (by omega)
      case measure => simp [intOf]; omega
    · obtain rfl : q = n := by omega
      have e : fls f' q = fls mkf q := by unfold fls; exact List.map_congr_left (fun i hi => by rw [hmk i (List.mem_range.1 hi)])
      rw [e] at hf
      have HM : Hid (wr.ownsRow B 42 1 (.slice (some ⟨g, 0, none⟩) q cap) q (fls mkf q)) := hf
      have ON : Hid (Only g w wr) := hon
      clear hf hmk hon hrel e
      go_wp2
      go_ret
      exact ⟨rfl, HM.out, ON.out⟩

set_option maxHeartbeats 2000000 in
theorem heldF_any {w : World} {B g n cap : Nat} (ho : w.ownsRow B 42 1 (.slice (some ⟨g, 0, none⟩) n cap) n (fls mkf n)) (hn : n ≤ 1048576) :
    Calls Try.prog 13 #[.slice (some ⟨g, 0, none⟩) n cap, .int .i64 1] w fun e w' => e = .returned (.int .i64 (1 + (n : Int))) ∧ w' = w := by
  have HO : Hid (w.ownsRow B 42 1 (.slice (some ⟨g, 0, none⟩) n cap) n (fls mkf n)) := ho
  clear ho
  go_enter Try.func13, Try.ntmps13
  go_wp2
  go_loopw [1, 5] (fun kk i wr => ∃ q : Nat, i = .int .i64 q ∧ kk = .int .i64 (1 + (q : Int)) ∧ q ≤ n ∧ wr = w) (fun _ i _ => n - (intOf i).toNat)
  case atStart => exact ⟨0, rfl, rfl, by omega, rfl⟩
  case round =>
    obtain ⟨q, rfl, rfl, hq, rfl⟩ := hrel
    by_cases h1 : q < n
    · have d0 := World.ownsRow.cellAt HO.out q (by omega)
      rw [fls_get h1] at d0
      unfold mkf at d0
      have e1 := fk_ne (1 + (q : Int))
      go_wp2
      go_roundw
      case rel => exact ⟨q + 1, by go_num, by first | go_num | (congr 1; omega), by omega, by trivial⟩
      case measure => simp [intOf]; omega
    · obtain rfl : q = n := by omega
      go_wp2
      go_ret
      exact ⟨rfl, rfl⟩

set_option maxHeartbeats 1000000 in
theorem markF_nil (w : World) : Calls Try.prog 12 #[.slice none 0 0, .int .i64 1] w fun e w' => e = .returned (.int .i64 1) ∧ w' = w := by
  go_enter Try.func12, Try.ntmps12
  go_wp2
  go_loopw [1, 5] (fun kk i wr => i = .int .i64 0 ∧ kk = .int .i64 1 ∧ wr = w) (fun _ _ _ => 0)
  case atStart => exact ⟨rfl, rfl, rfl⟩
  case round =>
    obtain ⟨rfl, rfl, rfl⟩ := hrel
    go_wp2
    go_ret
    exact ⟨rfl, rfl⟩

set_option maxHeartbeats 1000000 in
theorem heldF_nil (w : World) : Calls Try.prog 13 #[.slice none 0 0, .int .i64 1] w fun e w' => e = .returned (.int .i64 1) ∧ w' = w := by
  go_enter Try.func13, Try.ntmps13
  go_wp2
  go_loopw [1, 5] (fun kk i wr => i = .int .i64 0 ∧ kk = .int .i64 1 ∧ wr = w) (fun _ _ _ => 0)
  case atStart => exact ⟨rfl, rfl, rfl⟩
  case round =>
    obtain ⟨rfl, rfl, rfl⟩ := hrel
    go_wp2
    go_ret
    exact ⟨rfl, rfl⟩

theorem markedF {w : World} {B n : Nat} {v : Value} {f : Nat → Nat} (h : w.ownsRow B 42 1 v n (fls f n)) (hB : B ≤ w.heap.size) (hn : n ≤ 1048576) :
    Calls Try.prog 12 #[v, .int .i64 1] w fun e w' => e = .returned (.int .i64 (1 + (n : Int))) ∧ w'.ownsRow B 42 1 v n (fls mkf n) ∧ ∃ g, B ≤ g ∧ (v.ownBlock = some g ∨ w' = w) ∧ Only g w w' := by
  rcases h.2 with ⟨rfl, rfl⟩ | ⟨g, cap, cur, rfl, hb, hg, _⟩
  · refine (markF_nil w).mono ?_
    rintro e w' ⟨rfl, rfl⟩
    exact ⟨rfl, ⟨rfl, .inl ⟨rfl, rfl⟩⟩, w'.heap.size, hB, .inr rfl, Only.refl _ _⟩
  · refine (markF_any h hn).mono ?_
    rintro e w' ⟨rfl, h1, hon⟩
    exact ⟨rfl, h1, g, hb, .inl rfl, hon⟩

theorem heldF {w : World} {B n : Nat} {v : Value} (h : w.ownsRow B 42 1 v n (fls mkf n)) (hn : n ≤ 1048576) : Calls Try.prog 13 #[v, .int .i64 1] w fun e w' => e = .returned (.int .i64 (1 + (n : Int))) ∧ w' = w := by
  rcases h.2 with ⟨rfl, rfl⟩ | ⟨g, cap, cur, rfl, hb, hg, _⟩
  · exact heldF_nil w
  · exact heldF_any h hn
end Go.Proofs.Ytocdamhpcadfbaa
