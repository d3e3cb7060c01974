/- OD OE OF OG. -/
import Derived.Test.YtddbekacdfohpaaGreatDoorM06
namespace Go.Proofs.YtddbekacdfohpaaGreatDoor
open Go.RowKit

theorem pow_cases {n j : Nat} (hj : j < 8) (hn : n = 2 ^ j) : n = 1 ∨ n = 2 ∨ n = 4 ∨ n = 8 ∨ n = 16 ∨ n = 32 ∨ n = 64 ∨ n = 128 := by
  have : j = 0 ∨ j = 1 ∨ j = 2 ∨ j = 3 ∨ j = 4 ∨ j = 5 ∨ j = 6 ∨ j = 7 := by omega
  rcases this with rfl | rfl | rfl | rfl | rfl | rfl | rfl | rfl <;> omega

/-- Do at a wheel, whatever it was. -/
theorem do_any {n j : Nat} (hj : j < 8) (hn : n = 2 ^ j) (bk : Bool) (w : World) (G : Nat) (pn pb pw : Addr) (hW : Whl w G bk) (h1 : w.cell? pn = some (.int .i64 n)) (h2 : w.cell? pb = some (.bool bk)) (h3 : w.cell? pw = some (.pointer (some ⟨G, j * 4, none⟩)))
    (l1 : pn.block < w.heap.size) (l2 : pb.block < w.heap.size) (l3 : pw.block < w.heap.size) (q1 : ¬ pn.block = G) (q2 : ¬ pb.block = G) (q3 : ¬ pw.block = G) :
    Calls Tryz.prog 37 #[.pointer (some ⟨G, j * 4, none⟩), .func (.func 38) #[] #[.pointer (some pn), .pointer (some pb), .pointer (some pw)]] w fun e w' => e = .returned (.tuple #[]) ∧
      ∃ v g, w'.cell? ⟨G, j * 4 + 3, none⟩ = some v ∧ Trn w' v n bk g ∧ g ≠ G ∧ Whl w' G bk ∧ Kp G w w' := by
  obtain ⟨⟨f0, f1, f3⟩, h⟩ := hW.2 j hj
  rcases h with ⟨c0, c1, x, c3⟩ | ⟨c0, v, g, c3, ht, hg⟩
  · refine (do_first (pow_cases hj hn) bk w pn pb pw G (j * 4) x h1 h2 h3 c0 c1 c3 f0 f1 f3 l1 l2 l3 hW.1 q1 q2 q3).mono ?_
    rintro e w' ⟨rfl, HD⟩
    obtain ⟨v, k1, k2, k3, k4⟩ := HD.facts hj hn hW c0 c1 c3
    exact ⟨rfl, v, _, k1, k2, by have := hW.1; omega, k3, k4⟩
  · refine (do_done _ _ w c0).mono ?_
    rintro e w' ⟨rfl, rfl⟩
    exact ⟨rfl, v, g, c3, hn ▸ ht, hg, hW, Kp.refl _ _⟩

set_option maxRecDepth 100000 in
set_option maxHeartbeats 1600000 in
theorem for_any {n j : Nat} (hj : j < 8) (hn : n = 2 ^ j) (bk : Bool) (w : World) (G : Nat) (pb : Addr) (hW : Whl w G bk) (hBr : Brj w) (hpb : w.cell? pb = some (.bool bk)) (lpb : pb.block < w.heap.size) (npb : ¬ pb.block = G) :
    Calls Tryz.prog 35 #[.int .i64 n, .pointer (some ⟨G, 0, none⟩), .pointer (some pb)] w fun e w' => ∃ v g, e = .returned v ∧ Trn w' v n bk g ∧ g ≠ G ∧ Whl w' G bk ∧ Kp G w w' := by
  have hmf : ∀ (fn : Fn) (first cap : Array Value) (w : World), (Instr.makeFunc fn first cap).run Tryz.prog w = .ok (.func fn first cap) w := fun _ _ _ _ => rfl
  have hG := hW.1
  have b1 : Below w.heap.size w (w.alloc (.cells #[.int .i64 n] 3)) := (Below.refl _ _).alloc (Nat.le_refl _) _
  have b2 : Below w.heap.size w ((w.alloc (.cells #[.int .i64 n] 3)).alloc (.cells #[.pointer (some ⟨G, j * 4, none⟩)] 82)) := b1.alloc b1.size _
  have htz := tz2 hj _ (hBr.below b1)
  rw [← hn] at htz
  have hdo := do_any hj hn bk ((w.alloc (.cells #[.int .i64 n] 3)).alloc (.cells #[.pointer (some ⟨G, j * 4, none⟩)] 82)) G ⟨w.heap.size, 0, none⟩ pb ⟨w.heap.size + 1, 0, none⟩ (hW.below b2) (by simp) ((b2.cell lpb).trans hpb) (by simp) (by simp; omega) (by simp; omega) (by simp) (by simp; omega) npb (by simp; omega)
  have bW : ((w.alloc (.cells #[.int .i64 n] 3)).alloc (.cells #[.pointer (some ⟨G, j * 4, none⟩)] 82)).cell? ⟨w.heap.size + 1, 0, none⟩ = some (.pointer (some ⟨G, j * 4, none⟩)) := by simp
  have sW : ((w.alloc (.cells #[.int .i64 n] 3)).alloc (.cells #[.pointer (some ⟨G, j * 4, none⟩)] 82)).heap.size = w.heap.size + 2 := by simp
  have hn1 : 1 ≤ n ∧ n ≤ 128 := by
    subst hn
    exact ⟨Nat.two_pow_pos j, Nat.pow_le_pow_right (by decide) (by omega : j ≤ 7)⟩
  have HB2 : Hid (Below w.heap.size w ((w.alloc (.cells #[.int .i64 n] 3)).alloc (.cells #[.pointer (some ⟨G, j * 4, none⟩)] 82))) := b2
  have BW : Hid (((w.alloc (.cells #[.int .i64 n] 3)).alloc (.cells #[.pointer (some ⟨G, j * 4, none⟩)] 82)).cell? ⟨w.heap.size + 1, 0, none⟩ = some (.pointer (some ⟨G, j * 4, none⟩))) := bW
  have SW : Hid (((w.alloc (.cells #[.int .i64 n] 3)).alloc (.cells #[.pointer (some ⟨G, j * 4, none⟩)] 82)).heap.size = w.heap.size + 2) := sW
  clear hn bW sW b1 b2
  go_enter Tryz.func35, Tryz.ntmps35
  go_wp2_with (first | (go_at_call 36; refine htz.mono ?_; rintro e w' ⟨rfl, hw⟩; obtain rfl := hw.symm) | (go_at_call 37; refine hdo.mono ?_; rintro e w1 ⟨rfl, v, g, c3, ht, hg, hw1, k1⟩; have cb := (k1.cell (p := ⟨w.heap.size + 1, 0, none⟩) (by rw [SW.out]; exact Nat.lt_succ_self _) (by simp; omega)).trans BW.out; have HT : Hid (Trn w1 v n bk g) := ht; have HW1 : Hid (Whl w1 G bk) := hw1; have HK : Hid (Kp G w w1) := (⟨HB2.out.os, HB2.out.tape, HB2.out.output, HB2.out.size, fun i hi _ => HB2.out.block i hi⟩ : Kp G w _).trans k1; obtain rfl := ht.1; clear ht hw1 k1))
  go_ret
  exact ⟨_, g, rfl, HT.out, hg, HW1.out, HK.out⟩
end Go.Proofs.YtddbekacdfohpaaGreatDoor

namespace Go.Proofs.YtddbekacdfohpaaGreatDoor
open Go.RowKit

set_option maxRecDepth 100000 in
set_option maxHeartbeats 1600000 in
theorem new_any (bk : Bool) (w : World) :
    Calls Tryz.prog 17 #[.bool bk] w fun e w' => e = .returned (.func (.func 35) #[] #[.pointer (some ⟨w.heap.size + 1, 0, none⟩), .pointer (some ⟨w.heap.size, 0, none⟩)]) ∧ Whl w' (w.heap.size + 1) bk ∧ w'.cell? ⟨w.heap.size, 0, none⟩ = some (.bool bk) ∧ w'.heap.size = w.heap.size + 2 ∧ Below w.heap.size w w' := by
  have hmf : ∀ (fn : Fn) (first cap : Array Value) (w : World), (Instr.makeFunc fn first cap).run Tryz.prog w = .ok (.func fn first cap) w := fun _ _ _ _ => rfl
  go_enter Tryz.func17, Tryz.ntmps17
  go_wp2
  go_ret
  refine ⟨rfl, ⟨by simp, fun j hj => ?_⟩, by simp, by simp, ((Below.refl _ _).alloc (Nat.le_refl _) _).alloc (by simp) _⟩
  have : j = 0 ∨ j = 1 ∨ j = 2 ∨ j = 3 ∨ j = 4 ∨ j = 5 ∨ j = 6 ∨ j = 7 := by omega
  rcases this with rfl | rfl | rfl | rfl | rfl | rfl | rfl | rfl <;> exact ⟨⟨by simp, by simp, by simp⟩, .inl ⟨by simp, by simp, .slice none 0 0, by simp⟩⟩
end Go.Proofs.YtddbekacdfohpaaGreatDoor

namespace Go.Proofs.YtddbekacdfohpaaGreatDoor
open Go.RowKit

/-- A row of complex numbers in a block of its own. -/
def Zr (w : World) (g n : Nat) (X Y : Nat → Nat) : Prop := g < w.heap.size ∧ ∀ k, k < n → w.cell? ⟨g, k, none⟩ = some (.complex .f64 (X k) (Y k))

abbrev zv (g n : Nat) : Value := .slice (some ⟨g, 0, none⟩) n n

theorem Zr.below {w w' : World} {g n : Nat} {X Y : Nat → Nat} (h : Zr w g n X Y) (hb : Below w.heap.size w w') : Zr w' g n X Y :=
  ⟨Nat.lt_of_lt_of_le h.1 hb.size, fun k hk => (hb.cell (p := ⟨g, k, none⟩) h.1).trans (h.2 k hk)⟩
theorem Zr.kp {G : Nat} {w w' : World} {g n : Nat} {X Y : Nat → Nat} (h : Zr w g n X Y) (hg : g ≠ G) (hb : Kp G w w') : Zr w' g n X Y :=
  ⟨Nat.lt_of_lt_of_le h.1 hb.size, fun k hk => (hb.cell (p := ⟨g, k, none⟩) h.1 hg).trans (h.2 k hk)⟩

set_option maxRecDepth 100000 in
set_option maxHeartbeats 1000000 in
theorem toCs_any {w : World} {v : Value} {n : Nat} {xs ys : Nat → Nat} (hv : Fp w v n xs ys) (hn : n ≤ 1048576) :
    Calls Tryz.prog 20 #[v] w fun e w' => e = .returned (zv w.heap.size n) ∧ Zr w' w.heap.size n xs ys ∧ Below w.heap.size w w' := by
  obtain ⟨i0, hi, hz0, hz1, hz2⟩ := info_parts Tryz.info87c
  obtain ⟨w1, hm, hrow, hgr⟩ := run_makeSlice_full (P := Tryz.prog) w w.heap.size 50 87 i0 (.complex .f64 0 0) 1 Tryz.underlying50 hi hz0 hz1 .i64 .i64 n (by omega) (by rw [hz2]; omega) (by unfold maxLen; omega) (Nat.le_refl _)
  have hbl : Below w.heap.size w w1 := (Below.refl _ _).grown hgr (Nat.le_refl _) (fun _ h => by cases h)
  rw [made_czs] at hrow
  have HR : Hid (Oz w1 w.heap.size w.heap.size n n (fun _ => 0) (fun _ => 0)) := hrow
  have HB : Hid (Below w.heap.size w w1) := hbl
  clear hrow hbl hgr hi hz0 hz1 hz2
  obtain ⟨ao, cap, rfl, hcap, hc⟩ := hv
  have HC : Hid (0 < n → ∃ b off, ao = some ⟨b, off, none⟩ ∧ b < w.heap.size ∧ ∀ k, k < n → w.cell? ⟨b, off + k * 2, none⟩ = some (.float .f64 (xs k)) ∧ w.cell? ⟨b, off + k * 2 + 1, none⟩ = some (.float .f64 (ys k))) := hc
  clear hc
  have hST := rStoreZ
  have hSF := rStore
  go_enter Tryz.func20, Tryz.ntmps20
  go_wp2
  go_loopw [11] (fun i wr => ∃ k : Nat, i = .int .i64 k ∧ k ≤ n ∧ Hid (∃ X Y, Oz wr w.heap.size w.heap.size n n X Y ∧ (∀ j, j < k → X j = xs j ∧ Y j = ys j) ∧ Below w.heap.size w wr)) (fun i _ => n - (intOf i).toNat)
  case atStart => exact ⟨0, rfl, by omega, fun _ => 0, fun _ => 0, HR.out, fun j hj => by omega, HB.out⟩
  case round =>
    obtain ⟨k, rfl, hk, hrel⟩ := hrel
    obtain ⟨X, Y, hown, hxy, hbl⟩ := hrel.out
    by_cases h1 : k < n
    · obtain ⟨b, off, rfl, hlt, hcell⟩ := HC.out (by omega)
      have c : wr.cell? ⟨b, off + k * 2, none⟩ = some (.float .f64 (xs k)) := (hbl.cell (p := ⟨b, off + k * 2, none⟩) hlt).trans (hcell k h1).1
      have c' : wr.cell? ⟨b, off + k * 2 + 1, none⟩ = some (.float .f64 (ys k)) := (hbl.cell (p := ⟨b, off + k * 2 + 1, none⟩) hlt).trans (hcell k h1).2
      have hT := fun W => toC_any (xs k) (ys k) W
      have HO : Hid (Oz wr w.heap.size w.heap.size n n X Y) := hown
      have HX : Hid (∀ j, j < k → X j = xs j ∧ Y j = ys j) := hxy
      have HBL : Hid (Below w.heap.size w wr) := hbl
      clear hrel hown hxy hbl hcell
      go_wp2_with (go_at_call 43; refine (hT _).mono ?_; rintro e w2 ⟨rfl, hb0⟩; have hb2 := bstep (below_one wr _) hb0; clear hb0; have o2 : Oz w2 w.heap.size w.heap.size n n X Y := own_below HO.out hb2; have d0 := o2.cell h1; have z0 := World.ownsRow.frozenAt o2 k; have OP : Hid _ := o2.put k (xs k) (ys k); have B2 : Hid (Below w.heap.size w w2) := bstep HBL.out hb2; clear o2 hb2)
      go_roundw
      case rel =>
        refine ⟨k + 1, by go_num, by omega, _, _, OP.out, fun j hj => ?_, B2.out.setCell (Nat.le_refl _) _⟩
        by_cases hjk : j = k
        · subst hjk
          rw [if_pos rfl, if_pos rfl]
          exact ⟨rfl, rfl⟩
        · rw [if_neg hjk, if_neg hjk]
          exact HX.out j (by omega)
      case measure => simp [intOf]; omega
    · obtain rfl : n = k := by omega
      have HO : Hid (Oz wr w.heap.size w.heap.size n n X Y) := hown
      have HX : Hid (∀ j, j < n → X j = xs j ∧ Y j = ys j) := hxy
      have HBL : Hid (Below w.heap.size w wr) := hbl
      clear hrel hown hxy hbl
      go_wp2
      go_ret
      exact ⟨rfl, ⟨(World.ownsRow.lt HO.out _ rfl).2, fun k hk => by rw [HO.out.cell hk, (HX.out k hk).1, (HX.out k hk).2]⟩, HBL.out⟩

set_option maxRecDepth 100000 in
set_option maxHeartbeats 1000000 in
theorem toPs_any {w : World} {g n : Nat} {xs ys : Nat → Nat} (hv : Zr w g n xs ys) (hn : n ≤ 1048576) :
    Calls Tryz.prog 18 #[zv g n] w fun e w' => Below w.heap.size w w' ∧ ∃ v' L, e = .returned v' ∧ Fp w' v' n xs ys ∧ w'.ownsRow w.heap.size 39 2 v' n L := by
  obtain ⟨i0, hi, hz0, hz1, hz2⟩ := info_parts Tryz.info39
  obtain ⟨w1, hm, hrow, hgr⟩ := run_makeSlice_full (P := Tryz.prog) w w.heap.size 24 39 i0 (.agg #[.float .f64 0, .float .f64 0]) 2 Tryz.underlying24 hi hz0 hz1 .i64 .i64 n (by omega) (by rw [hz2]; omega) (by unfold maxLen; omega) (Nat.le_refl _)
  have hbl : Below w.heap.size w w1 := (Below.refl _ _).grown hgr (Nat.le_refl _) (fun _ h => by cases h)
  generalize hL : (madeCells (Value.agg #[.float .f64 0, .float .f64 0]).cells (n * 2)).toList = L at hrow
  have hLn : L.length = n * 2 := by rw [← hL, Array.length_toList, size_madeCells]
  rw [list_fun L, hLn] at hrow
  have HR : Hid (∃ f, Ow w1 w.heap.size w.heap.size n n f) := ⟨_, hrow⟩
  have HB : Hid (Below w.heap.size w w1) := hbl
  clear hrow hbl hL hgr hi hz0 hz1 hz2 hLn
  obtain ⟨hlt, hc⟩ := hv
  have HC : Hid (∀ k, k < n → w.cell? ⟨g, k, none⟩ = some (.complex .f64 (xs k) (ys k))) := hc
  clear hc
  have hST := rStore
  go_enter Tryz.func18, Tryz.ntmps18
  go_wp2
  go_loopw [11] (fun i wr => ∃ k : Nat, i = .int .i64 k ∧ k ≤ n ∧ Hid ((∃ f, Ow wr w.heap.size w.heap.size n n f ∧ ∀ i, i < k → f (i * 2) = .float .f64 (xs i) ∧ f (i * 2 + 1) = .float .f64 (ys i)) ∧ Below w.heap.size w wr)) (fun i _ => n - (intOf i).toNat)
  case atStart =>
    obtain ⟨f, hf⟩ := HR.out
    exact ⟨0, rfl, by omega, ⟨f, hf, fun i hi => by omega⟩, HB.out⟩
  case round =>
    obtain ⟨k, rfl, hk, hrel⟩ := hrel
    obtain ⟨⟨f, hf, hfx⟩, hbl⟩ := hrel.out
    by_cases h1 : k < n
    · have c : wr.cell? ⟨g, k, none⟩ = some (.complex .f64 (xs k) (ys k)) := (hbl.cell (p := ⟨g, k, none⟩) hlt).trans (HC.out k h1)
      have hT := fun W => toP_any (xs k) (ys k) W
      have HF : Hid (Ow wr w.heap.size w.heap.size n n f) := hf
      have HX : Hid (∀ i, i < k → f (i * 2) = .float .f64 (xs i) ∧ f (i * 2 + 1) = .float .f64 (ys i)) := hfx
      have HBL : Hid (Below w.heap.size w wr) := hbl
      clear hf hfx hbl hrel
      go_wp2_with (go_at_call 40; refine (hT _).mono ?_; rintro e w2 ⟨rfl, hb2⟩; have o2 := Ow.below HF.out hb2; have d0 := o2.cell (j := k * 2) (by omega); have d1 := o2.cell (j := k * 2 + 1) (by omega); have z0 := World.ownsRow.frozenAt o2 (k * 2); have z1 := World.ownsRow.frozenAt o2 (k * 2 + 1); have OP : Hid _ := (o2.put (k * 2) (.float .f64 (xs k))).put (k * 2 + 1) (.float .f64 (ys k)); have HB2 : Hid (Below w.heap.size w w2) := bstep HBL.out hb2; clear o2 hb2)
      go_roundw
      case rel =>
        refine ⟨k + 1, by go_num, by omega, ⟨_, OP.out, fun i hi => ?_⟩, (HB2.out.setCell (Nat.le_refl _) _).setCell (Nat.le_refl _) _⟩
        by_cases hik : i = k
        · subst hik; simp
        · obtain ⟨x1, x2⟩ := HX.out i (by omega)
          constructor
          · rw [if_neg (by omega), if_neg (by omega), x1]
          · rw [if_neg (by omega), if_neg (by omega), x2]
      case measure => simp [intOf]; omega
    · obtain rfl : k = n := by omega
      have HF : Hid (Ow wr w.heap.size w.heap.size k k f) := hf
      clear hf hrel
      go_wp2
      go_ret
      refine ⟨hbl, _, _, rfl, ⟨_, _, rfl, Nat.le_refl _, fun h0 => ⟨_, 0, rfl, ?_, fun j hj => ?_⟩⟩, HF.out⟩
      · exact (World.ownsRow.lt HF.out _ rfl).2
      · obtain ⟨x1, x2⟩ := hfx j hj
        rw [Nat.zero_add, Ow.cell HF.out (by omega), Ow.cell HF.out (by omega), x1, x2]
        exact ⟨rfl, rfl⟩

set_option maxRecDepth 100000 in
set_option maxHeartbeats 1000000 in
theorem divided_any {w : World} {v : Value} {n : Nat} {xs ys : Nat → Nat} (hv : Fp w v n xs ys) (hn : n ≤ 1048576) :
    Calls Tryz.prog 24 #[v] w fun e w' => Below w.heap.size w w' ∧ ∃ v' L X Y, e = .returned v' ∧ Fp w' v' n X Y ∧ (∀ i, i < n → cn (X i) = cop .quo (cn (xs i)) (cn (fk n)) ∧ cn (Y i) = cop .quo (cn (ys i)) (cn (fk n))) ∧ w'.ownsRow w.heap.size 39 2 v' n L := by
  obtain ⟨i0, hi, hz0, hz1, hz2⟩ := info_parts Tryz.info39
  obtain ⟨w1, hm, hrow, hgr⟩ := run_makeSlice_full (P := Tryz.prog) w w.heap.size 24 39 i0 (.agg #[.float .f64 0, .float .f64 0]) 2 Tryz.underlying24 hi hz0 hz1 .i64 .i64 n (by omega) (by rw [hz2]; omega) (by unfold maxLen; omega) (Nat.le_refl _)
  have hbl : Below w.heap.size w w1 := (Below.refl _ _).grown hgr (Nat.le_refl _) (fun _ h => by cases h)
  generalize hL : (madeCells (Value.agg #[.float .f64 0, .float .f64 0]).cells (n * 2)).toList = L at hrow
  have hLn : L.length = n * 2 := by rw [← hL, Array.length_toList, size_madeCells]
  rw [list_fun L, hLn] at hrow
  have HR : Hid (∃ f, Ow w1 w.heap.size w.heap.size n n f) := ⟨_, hrow⟩
  have HB : Hid (Below w.heap.size w w1) := hbl
  clear hrow hbl hL hgr hi hz0 hz1 hz2 hLn
  obtain ⟨ao, cap, rfl, hcap, hc⟩ := hv
  have HC : Hid (0 < n → ∃ b off, ao = some ⟨b, off, none⟩ ∧ b < w.heap.size ∧ ∀ k, k < n → w.cell? ⟨b, off + k * 2, none⟩ = some (.float .f64 (xs k)) ∧ w.cell? ⟨b, off + k * 2 + 1, none⟩ = some (.float .f64 (ys k))) := hc
  clear hc
  have hST := rStore
  have hQ := rQuo
  have hfc := fwor_cell
  have hff := fwor_frozen
  go_enter Tryz.func24, Tryz.ntmps24
  go_wp2
  go_loopw [15] (fun i wr => ∃ k : Nat, i = .int .i64 k ∧ k ≤ n ∧ Hid ((∃ (X Y : Nat → Nat) (f : Nat → Value), Ow wr w.heap.size w.heap.size n n f ∧ ∀ i, i < k → f (i * 2) = .float .f64 (X i) ∧ f (i * 2 + 1) = .float .f64 (Y i) ∧ cn (X i) = cop .quo (cn (xs i)) (cn (fk n)) ∧ cn (Y i) = cop .quo (cn (ys i)) (cn (fk n))) ∧ Below w.heap.size w wr)) (fun i _ => n - (intOf i).toNat)
  case atStart =>
    obtain ⟨f, hf⟩ := HR.out
    exact ⟨0, rfl, by omega, ⟨fun _ => 0, fun _ => 0, f, hf, fun i hi => by omega⟩, HB.out⟩
  case round =>
    obtain ⟨k, rfl, hk, hrel⟩ := hrel
    obtain ⟨⟨X, Y, f, hf, hfx⟩, hbl⟩ := hrel.out
    by_cases h1 : k < n
    · obtain ⟨b, off, rfl, hlt, hcell⟩ := HC.out (by omega)
      have c : wr.cell? ⟨b, off + k * 2, none⟩ = some (.float .f64 (xs k)) := (hbl.cell (p := ⟨b, off + k * 2, none⟩) hlt).trans (hcell k h1).1
      have c' : wr.cell? ⟨b, off + k * 2 + 1, none⟩ = some (.float .f64 (ys k)) := (hbl.cell (p := ⟨b, off + k * 2 + 1, none⟩) hlt).trans (hcell k h1).2
      have HF : Hid (Ow wr w.heap.size w.heap.size n n f) := hf
      have HX : Hid (∀ i, i < k → f (i * 2) = .float .f64 (X i) ∧ f (i * 2 + 1) = .float .f64 (Y i) ∧ cn (X i) = cop .quo (cn (xs i)) (cn (fk n)) ∧ cn (Y i) = cop .quo (cn (ys i)) (cn (fk n))) := hfx
      have HBL : Hid (Below w.heap.size w wr) := hbl
      clear hf hfx hbl hrel hcell
      have b1 : Below wr.heap.size wr (fwor .quo (fwor .quo (wr.alloc (.cells #[.float .f64 (xs k), .float .f64 (ys k)] 39)) (xs k) (fk n)) (ys k) (fk n)) := below_fwor (below_fwor (below_one _ _) _ _ _) _ _ _
      have o2 := Ow.below HF.out b1
      have HB2 : Hid (Below w.heap.size w (fwor .quo (fwor .quo (wr.alloc (.cells #[.float .f64 (xs k), .float .f64 (ys k)] 39)) (xs k) (fk n)) (ys k) (fk n))) := bstep HBL.out b1
      have d0 := o2.cell (j := k * 2) (by omega)
      have d1 := o2.cell (j := k * 2 + 1) (by omega)
      have z0 := World.ownsRow.frozenAt o2 (k * 2)
      have z1 := World.ownsRow.frozenAt o2 (k * 2 + 1)
      have OP : Hid _ := (o2.put (k * 2) (.float .f64 (fres .quo (wr.alloc (.cells #[.float .f64 (xs k), .float .f64 (ys k)] 39)) (xs k) (fk n)))).put (k * 2 + 1) (.float .f64 (fres .quo (fwor .quo (wr.alloc (.cells #[.float .f64 (xs k), .float .f64 (ys k)] 39)) (xs k) (fk n)) (ys k) (fk n)))
      clear o2 b1
      rw [fwor_cell, fwor_cell] at d0 d1
      rw [fwor_frozen, fwor_frozen] at z0 z1
      go_wp2
      go_roundw
      case rel =>
        refine ⟨k + 1, by go_num, by omega, ⟨fun i => if i = k then fres .quo (wr.alloc (.cells #[.float .f64 (xs k), .float .f64 (ys k)] 39)) (xs k) (fk n) else X i, fun i => if i = k then fres .quo (fwor .quo (wr.alloc (.cells #[.float .f64 (xs k), .float .f64 (ys k)] 39)) (xs k) (fk n)) (ys k) (fk n) else Y i, _, OP.out, fun i hi => ?_⟩, (HB2.out.setCell (Nat.le_refl _) _).setCell (Nat.le_refl _) _⟩
        by_cases hik : i = k
        · subst hik; simp [cn_fres]
        · obtain ⟨x1, x2, x3, x4⟩ := HX.out i (by omega)
          simp only [if_neg hik]
          refine ⟨?_, ?_, x3, x4⟩
          · rw [if_neg (by omega), if_neg (by omega), x1]
          · rw [if_neg (by omega), if_neg (by omega), x2]
      case measure => simp [intOf]; omega
    · obtain rfl : k = n := by omega
      have HF : Hid (Ow wr w.heap.size w.heap.size k k f) := hf
      clear hf hrel
      go_wp2
      go_ret
      refine ⟨hbl, _, _, X, Y, rfl, ⟨_, _, rfl, Nat.le_refl _, fun h0 => ⟨_, 0, rfl, ?_, fun j hj => ?_⟩⟩, fun i hi => (hfx i hi).2.2, HF.out⟩
      · exact (World.ownsRow.lt HF.out _ rfl).2
      · obtain ⟨x1, x2, _⟩ := hfx j hj
        rw [Nat.zero_add, Ow.cell HF.out (by omega), Ow.cell HF.out (by omega), x1, x2]
        exact ⟨rfl, rfl⟩
end Go.Proofs.YtddbekacdfohpaaGreatDoor

namespace Go.Proofs.YtddbekacdfohpaaGreatDoor
open Go.RowKit

/-- A whole length. -/
abbrev Wle (n : Int) : Prop := n = 1 ∨ n = 2 ∨ n = 4 ∨ n = 8 ∨ n = 16 ∨ n = 32 ∨ n = 64 ∨ n = 128 ∨ n = 256

set_option maxHeartbeats 2000000 in
theorem sWle_any (n : Int) (w : World) : Calls Tryz.prog 44 #[.int .i64 n] w fun e w' => e = .returned (.bool (decide (Wle n))) ∧ w' = w := by
  obtain ⟨d, hd⟩ : ∃ d, d = decide (Wle n) := ⟨_, rfl⟩
  rw [← hd]
  have HD : Hid _ := hd
  clear hd
  go_enter Tryz.func44, Tryz.ntmps44
  go_wp2
  go_loopw [3] (fun v wr => ∃ k : Int, v = .int .i64 k ∧ wr = w ∧ Hid ((Wle k ∨ k = 512) ∧ ∀ j, Wle j → j < k → n ≠ j)) (fun v _ => 512 - (intOf v).toNat)
  case atStart => exact ⟨1, rfl, rfl, .inl (.inl rfl), fun j hj hl => by rcases hj with h | h | h | h | h | h | h | h | h <;> omega⟩
  case round =>
    obtain ⟨k, rfl, hw, hrel⟩ := hrel
    obtain rfl := hw.symm
    obtain ⟨hk, hall⟩ := hrel.out
    clear hrel
    by_cases h5 : k = 512
    · subst h5
      have E : Hid (false = d) := by
        rw [HD.out]
        refine (decide_eq_false (fun h => hall n h ?_ rfl)).symm
        rcases h with h | h | h | h | h | h | h | h | h <;> omega
      clear hk hall
      go_wp2
      go_ret
      exact ⟨congrArg (fun z => Ending.returned (.bool z)) E.out, rfl⟩
    · have hk' : Wle k := by rcases hk with h | h; exact h; exact absurd h h5
      have hkb : 1 ≤ k ∧ k ≤ 256 := by rcases hk' with h | h | h | h | h | h | h | h | h <;> omega
      by_cases he : n = k
      · have E : Hid (true = d) := by rw [HD.out, he]; exact (decide_eq_true hk').symm
        clear hk hall hk'
        subst he
        go_wp2
        go_ret
        exact ⟨congrArg (fun z => Ending.returned (.bool z)) E.out, rfl⟩
      · have HA : Hid ((Wle (2 * k) ∨ 2 * k = 512) ∧ ∀ j, Wle j → j < 2 * k → n ≠ j) := by
          refine ⟨?_, fun j hj hl => ?_⟩
          · rcases hk' with h | h | h | h | h | h | h | h | h <;> subst h <;> decide
          · by_cases hjk : j < k
            · exact hall j hj hjk
            · have : j = k := by rcases hk' with h | h | h | h | h | h | h | h | h <;> rcases hj with h' | h' | h' | h' | h' | h' | h' | h' | h' <;> omega
              rw [this]
              exact he
        clear hk hall hk'
        go_wp2
        go_roundw
        case rel => exact ⟨2 * k, rfl, by trivial, HA.out⟩
        case measure => simp [intOf]; omega

theorem Wle.bounds {n : Int} (h : Wle n) : 1 ≤ n ∧ n ≤ 256 := by rcases h with h | h | h | h | h | h | h | h | h <;> omega

theorem and_fin : ∀ k : Fin 256, (bits BinOp.and .i64 ((k.val : Int) + 1) ((k.val : Int) + 1 - 1) == 0) = decide (Wle ((k.val : Int) + 1)) := by decide +kernel

theorem and_whl {n : Int} (h1 : 1 ≤ n) (h2 : n ≤ 256) : (bits BinOp.and .i64 n (n - 1) == 0) = decide (Wle n) := by
  have h := and_fin ⟨(n - 1).toNat, by omega⟩
  have e : (((n - 1).toNat : Nat) : Int) + 1 = n := by omega
  simp only [e] at h
  exact h

set_option maxHeartbeats 1000000 in
theorem iWle_any (n : Int) (w : World) : Calls Tryz.prog 34 #[.int .i64 n] w fun e w' => e = .returned (.bool (decide (Wle n))) ∧ w' = w := by
  by_cases h1 : 1 ≤ n
  · by_cases h2 : n ≤ 256
    · have e := and_whl h1 h2
      generalize decide (Wle n) = d at e ⊢
      go_enter Tryz.func34, Tryz.ntmps34
      go_wp2
      go_ret
      exact ⟨rfl, rfl⟩
    · have e : false = decide (Wle n) := (decide_eq_false (fun h => by have := h.bounds; omega)).symm
      generalize decide (Wle n) = d at e ⊢
      have E : Hid _ := e
      clear e
      go_enter Tryz.func34, Tryz.ntmps34
      go_wp2
      go_ret
      exact ⟨congrArg (fun z => Ending.returned (.bool z)) E.out, rfl⟩
  · have e : false = decide (Wle n) := (decide_eq_false (fun h => by have := h.bounds; omega)).symm
    generalize decide (Wle n) = d at e ⊢
    have E : Hid _ := e
    clear e
    go_enter Tryz.func34, Tryz.ntmps34
    go_wp2
    go_ret
    exact ⟨congrArg (fun z => Ending.returned (.bool z)) E.out, rfl⟩

/-- A length that is halved. -/
abbrev H8 (n : Int) : Prop := n = 1 ∨ n = 2 ∨ n = 4 ∨ n = 8 ∨ n = 16 ∨ n = 32 ∨ n = 64 ∨ n = 128

theorem h8_iff (n : Int) : decide (H8 n) = (decide (n ≤ 128) && decide (Wle n)) := by
  rw [← Bool.decide_and]
  refine decide_eq_decide.2 ⟨fun h => ⟨?_, ?_⟩, fun h => ?_⟩
  · rcases h with h | h | h | h | h | h | h | h <;> omega
  · rcases h with h | h | h | h | h | h | h | h <;> subst h <;> decide
  · obtain ⟨h1, h⟩ := h
    rcases h with h | h | h | h | h | h | h | h | h <;> subst h <;> first | decide | omega

theorem sH8_any (n : Int) (w : World) : Calls Tryz.prog 21 #[.int .i64 n] w fun e w' => e = .returned (.bool (decide (H8 n))) ∧ w' = w := by
  have i1 := sWle_any n w
  rw [h8_iff]
  generalize decide (Wle n) = d at i1 ⊢
  by_cases h : n ≤ 128
  · go_enter Tryz.func21, Tryz.ntmps21
    go_wp2_with (go_at_call 44; refine i1.mono ?_; rintro e w' ⟨rfl, hw⟩; obtain rfl := hw.symm)
    go_ret
    exact ⟨by simp [h], rfl⟩
  · go_enter Tryz.func21, Tryz.ntmps21
    go_wp2_with (go_at_call 44; refine i1.mono ?_; rintro e w' ⟨rfl, hw⟩; obtain rfl := hw.symm)
    go_ret
    exact ⟨by rw [decide_eq_false (by omega : ¬ n ≤ 128)]; rfl, rfl⟩

theorem iH8_any (n : Int) (w : World) : Calls Tryz.prog 16 #[.int .i64 n] w fun e w' => e = .returned (.bool (decide (H8 n))) ∧ w' = w := by
  have i1 := iWle_any n w
  rw [h8_iff]
  cases hd : decide (Wle n)
  · rw [hd] at i1
    clear hd
    rw [Bool.and_false]
    go_enter Tryz.func16, Tryz.ntmps16
    go_wp2_with (go_at_call 34; refine i1.mono ?_; rintro e w' ⟨rfl, hw⟩; obtain rfl := hw.symm)
    go_ret
    exact ⟨rfl, rfl⟩
  · rw [hd] at i1
    clear hd
    rw [Bool.and_true]
    by_cases h : n ≤ 128
    · go_enter Tryz.func16, Tryz.ntmps16
      go_wp2_with (go_at_call 34; refine i1.mono ?_; rintro e w' ⟨rfl, hw⟩; obtain rfl := hw.symm)
      go_ret
      exact ⟨by simp [h], rfl⟩
    · go_enter Tryz.func16, Tryz.ntmps16
      go_wp2_with (go_at_call 34; refine i1.mono ?_; rintro e w' ⟨rfl, hw⟩; obtain rfl := hw.symm)
      go_ret
      exact ⟨by simp, rfl⟩

end Go.Proofs.YtddbekacdfohpaaGreatDoor
