/- The program's Fourier. -/
import Derived.Test.YtlcnciibjhcbiaaDoorOI
namespace Go.Proofs.YtlcnciibjhcbiaaDoor
open Go.RowKit

/-- A sum as it grows. -/
def fpart (xs ys : Nat → Nat) (n : Nat) (bk : Bool) (k : Nat) : Nat → Option Nat × Option Nat
  | 0 => (cn 0, cn 0)
  | i + 1 => (cop .add (fpart xs ys n bk k i).1 (cre (cn (xs i)) (cn (ys i)) (tre (((i * k : Nat) : Int) * strd n bk)) (tim (((i * k : Nat) : Int) * strd n bk))), cop .add (fpart xs ys n bk k i).2 (cim (cn (xs i)) (cn (ys i)) (tre (((i * k : Nat) : Int) * strd n bk)) (tim (((i * k : Nat) : Int) * strd n bk))))

/-- Divided, on the way back. -/
def fby (n : Nat) (bk : Bool) (p : Option Nat × Option Nat) : Option Nat × Option Nat := if bk then (cop .quo p.1 (cn (fk n)), cop .quo p.2 (cn (fk n))) else p

/-- The transform. -/
def four (xs ys : Nat → Nat) (n : Nat) (bk : Bool) (k : Nat) : Option Nat × Option Nat := fby n bk (fpart xs ys n bk k n)

/-- What a transform answers. -/
def Pf (w w' : World) (e : Ending) (N : Nat) (C : Nat → Option Nat × Option Nat) (ok : Bool) : Prop := ∃ u X Y L, e = .returned (.tuple #[u, .bool ok]) ∧ Fp w' u N X Y ∧ (∀ k, k < N → (cn (X k), cn (Y k)) = C k) ∧ w'.ownsRow w.heap.size 40 2 u N L ∧ Below w.heap.size w w'

theorem strd_n {n : Nat} (h : n = 1 ∨ n = 2 ∨ n = 4 ∨ n = 8 ∨ n = 16 ∨ n = 32 ∨ n = 64 ∨ n = 128) (bk : Bool) : ((n : Int) * strd n bk) % 256 = 0 := by
  rcases h with rfl | rfl | rfl | rfl | rfl | rfl | rfl | rfl <;> cases bk <;> decide

theorem turn_congr {n : Nat} (h : n = 1 ∨ n = 2 ∨ n = 4 ∨ n = 8 ∨ n = 16 ∨ n = 32 ∨ n = 64 ∨ n = 128) (bk : Bool) (m : Nat) : (((m % n : Nat) : Int) * strd n bk) % 256 = ((m : Int) * strd n bk) % 256 := by
  have h1 := strd_n h bk
  have h2 : (m : Int) = (n : Int) * ((m / n : Nat) : Int) + ((m % n : Nat) : Int) := by exact_mod_cast (Nat.div_add_mod m n).symm
  generalize strd n bk = t at *
  rw [h2, Int.add_mul, show (n : Int) * ((m / n : Nat) : Int) * t = ((n : Int) * t) * ((m / n : Nat) : Int) by rw [Int.mul_assoc, Int.mul_comm ((m / n : Nat) : Int) t, ← Int.mul_assoc]]
  have h3 : ((n : Int) * t * ((m / n : Nat) : Int)) % 256 = 0 := by rw [Int.mul_emod, h1, Int.zero_mul]; rfl
  rw [Int.add_emod, h3, Int.zero_add, Int.emod_emod_of_dvd _ (Int.dvd_refl _)]

set_option maxRecDepth 100000 in
set_option maxHeartbeats 4000000 in
theorem iFour_f {w : World} {v : Value} {n j : Nat} {xs ys : Nat → Nat} (hv : Fp w v n xs ys) (hj : j < 8) (hn : n = 2 ^ j) (hbr : Brj w) :
    Calls Tryd.prog 9 #[v, .bool false] w fun e w' => Pf w w' e n (four xs ys n false) true := by
  obtain ⟨s, hs⟩ : ∃ s, s = w.heap.size := ⟨_, rfl⟩
  have gv : Gvn w s n j false v xs ys := ⟨hs, hj, hn, hbr, hv⟩
  have hp := gv.pos
  have hn2 : n ≤ 128 := hp.2
  have h8 := pow_cases hj hn
  have i1 := iH8_any n
  rw [decide_eq_true (show H8 (n : Int) by omega)] at i1
  obtain ⟨ao, cap, rfl, hcap, _⟩ := hv
  have S : Sx w s n j false (.slice ao n cap) xs ys 0 0 0 0 0 none none (w.alloc (.cells #[.int .i64 n] 3)) := by
    refine ⟨gv, hs ▸ below_one _ _, by rw [hs]; simp, fun h => by omega, fun h => by omega, fun h => by omega, fun b h => (by cases h), fun b h => (by cases h), fun b b' h => (by cases h)⟩
  have fr := freg S
  unfold ops4 at fr
  clear S gv hbr
  obtain ⟨i0, hi, hz0, hz1, hz2⟩ := info_parts Tryd.info51c
  have INFO : Hid (Tryd.prog.info? 51 = some i0 ∧ i0.zero = some (.complex .f64 0 0) ∧ i0.size = 1 ∧ i0.bytes = 16) := ⟨hi, hz0, hz1, hz2⟩
  have hST := rStoreZ
  have hmf : ∀ (fn : Fn) (first cap : Array Value) (w : World), (Instr.makeFunc fn first cap).run Tryd.prog w = .ok (.func fn first cap) w := fun _ _ _ _ => rfl
  have HJ : Hid (n = 2 ^ j) := hn
  clear hi hz0 hz1 hz2 hn hj
  subst hs
  go_enter Tryd.func9, Tryd.ntmps9
  go_wp2_with (go_at_call 27; refine (i1 _).mono ?_; rintro e w' ⟨rfl, hw⟩; obtain rfl := hw.symm)
  refine Code.wp_mono ?_ fr
  rintro e a W1 ⟨rfl, b7, b8, gn, gt, cl, rfl, YY0⟩
  clear fr i1
  have YY : Hid (Sy w w.heap.size n j false (.slice ao n cap) xs ys gn gt b7 b8 W1) := YY0
  obtain ⟨hi, hz0, hz1, hz2⟩ := INFO.out
  obtain ⟨w1, hm, hrow, hgr⟩ := run_makeSlice_full (P := Tryd.prog) W1 W1.heap.size 47 51 i0 (.complex .f64 0 0) 1 Tryd.underlying47 hi hz0 hz1 .i64 .i64 n (by omega) (by rw [hz2]; omega) (by unfold maxLen; omega) (Nat.le_refl _)
  have hbl : Below W1.heap.size W1 w1 := (Below.refl _ _).grown hgr (Nat.le_refl _) (fun _ h => by cases h)
  rw [made_czs] at hrow
  have HR : Hid (Oz w1 W1.heap.size W1.heap.size n n (fun _ => 0) (fun _ => 0)) := hrow
  have HB : Hid (Below W1.heap.size W1 w1) := hbl
  have bx := YY0.bx
  have bx1 := keepc hbl bx
  have hsl : w.heap.size < W1.heap.size := World.block_lt_of_cell? W1 _ bx
  clear hrow hbl hgr hi hz0 hz1 hz2 YY0
  go_wp2
  go_loopw [26] (fun i wr => ∃ k : Nat, i = .int .i64 k ∧ k ≤ n ∧ Hid (∃ X Y, Oz wr W1.heap.size W1.heap.size n n X Y ∧ (∀ q, q < k → (cn (X q), cn (Y q)) = fpart xs ys n false q n) ∧ Below W1.heap.size W1 wr)) (fun i _ => n - (intOf i).toNat)
  case atStart => exact ⟨0, rfl, by omega, fun _ => 0, fun _ => 0, HR.out, fun j hj => by omega, HB.out⟩
  case round =>
    obtain ⟨k, rfl, hk, hrel⟩ := hrel
    obtain ⟨X, Y, hown, hxy, hbl⟩ := hrel.out
    have hsz := hbl.size
    have Y1 : Hid (Sy w w.heap.size n j false (.slice ao n cap) xs ys gn gt b7 b8 wr) := YY.out.below hbl
    have HO : Hid (Oz wr W1.heap.size W1.heap.size n n X Y) := hown
    have HX : Hid (∀ q, q < k → (cn (X q), cn (Y q)) = fpart xs ys n false q n) := hxy
    have HBL : Hid (Below W1.heap.size W1 wr) := hbl
    clear hrel hown hxy hbl
    by_cases h1 : k < n
    · have hb5 := below_one wr (.cells #[.int .i64 (k : Int)] 3)
      have e5 : (wr.alloc (.cells #[.int .i64 (k : Int)] 3)).cell? ⟨wr.heap.size, 0, none⟩ = some (.int .i64 k) := by simp
      have y5 := Y1.out.below hb5
      have i2 := overC_any (w := (wr.alloc (.cells #[.int .i64 (k : Int)] 3)).drew) hn2 (.pointer (some ⟨b7, 0, none⟩)) (.pointer (some ⟨b8, 0, none⟩)) (.pointer (some ⟨wr.heap.size, 0, none⟩)) (.pointer (some ⟨w.heap.size, 0, none⟩)) (fpart xs ys n false k) rfl (fun i hi x y hxy W hW => by
        have hW' : Below (wr.alloc (.cells #[.int .i64 (k : Int)] 3)).heap.size (wr.alloc (.cells #[.int .i64 (k : Int)] 3)) W := bstep (Below.refl _ _).drew hW
        have y6 := y5.below hW'
        obtain ⟨t0, t1, TX, TY, t2⟩ := y6.t
        obtain ⟨u1, u2, u3⟩ := t2 (i * k % n) (Nat.mod_lt _ (by omega))
        refine (fStep hi h1 hn2 y6.b7 y6.b8 (keepc hW' e5) y6.bx (y6.z.2 i hi) u1).mono ?_
        rintro e w' ⟨z, z2, he, hz, hz2, hb⟩
        refine ⟨z, z2, he, ?_, hb⟩
        obtain ⟨p1, p2⟩ := Prod.mk.inj hxy
        have hc := turn_congr h8 false (i * k)
        rw [hz, hz2, u2, u3, p1, p2, tre_congr hc, tim_congr hc]
        rfl)
      have HB5 : Hid (Below wr.heap.size wr (wr.alloc (.cells #[.int .i64 (k : Int)] 3)).drew) := hb5.drew
      have E5 : Hid ((wr.alloc (.cells #[.int .i64 (k : Int)] 3)).drew.cell? ⟨wr.heap.size, 0, none⟩ = some (.int .i64 k)) := e5
      have E6 : Hid ((wr.alloc (.cells #[.int .i64 (k : Int)] 3)).drew.cell? ⟨w.heap.size, 0, none⟩ = some (.int .i64 n)) := y5.bx
      have hlt : W1.heap.size < wr.heap.size := (World.ownsRow.lt HO.out _ rfl).2
      clear hb5 e5 y5
      go_wp2
      refine wp_region_any (by kernel_rfl) ?_
      change wpAny _ _ _ _ _ _ _ (World.drew _)
      refine wpI_any (I := fun X => X.cell? ⟨wr.heap.size, 0, none⟩ = some (.int .i64 k) ∧ X.cell? ⟨w.heap.size, 0, none⟩ = some (.int .i64 n)) _ _ _ _ ?_
      refine wpI_take (i := 0) (v := ?_) rfl (by kernel_rfl) (by kernel_rfl) (by kernel_rfl) (fun _ _ _ h => h) ⟨by rfl, ?_⟩ ?_
      rotate_left
      · intro X hI; go_simp; try go_bits
        try rw [if_pos (by omega)]
        try with_reducible rfl
      refine wpI_take (i := 1) (v := .int .i64 k) rfl (by kernel_rfl) (by kernel_rfl) (by kernel_rfl) (fun _ _ _ h => h) ⟨by rfl, ?_⟩ ?_
      · intro X hI; obtain ⟨q1, q2⟩ := hI; go_simp; try go_bits
        try rw [if_pos (by omega)]
      refine wpI_take (i := 2) (v := .int .i64 n) rfl (by kernel_rfl) (by kernel_rfl) (by kernel_rfl) (fun _ _ _ h => h) ⟨by rfl, ?_⟩ ?_
      · intro X hI; obtain ⟨q1, q2⟩ := hI; go_simp; try go_bits
        try rw [if_pos (by omega)]
      refine wpI_take (i := 3) (v := ?_) rfl (by kernel_rfl) (by kernel_rfl) (by kernel_rfl) (fun _ _ _ h => h) ⟨by rfl, ?_⟩ ?_
      rotate_left
      · intro X hI; go_simp; try go_bits
        try rw [if_pos (by omega)]
        try with_reducible rfl
      refine wpI_only (i := 4) rfl (by kernel_rfl) ⟨E5.out, E6.out⟩ (by rfl) ?_
      intro K hK
      go_simp
      go_wp2_with (go_at_call 30; (with_reducible refine i2.mono ?_); rintro e w3 ⟨z, z2, rfl, hz, hb3⟩; have EZ : Hid ((cn z, cn z2) = fpart xs ys n false k n) := hz; have hbt : Below wr.heap.size wr w3 := bstep HB5.out hb3; have r5 := keepc hb3 E5.out; have r6 := keepc hb3 E6.out; have o4 : Oz w3 W1.heap.size W1.heap.size n n X Y := own_below HO.out hbt; have B4 : Hid (Below W1.heap.size W1 w3) := bstep HBL.out hbt; have d0 := o4.cell h1; have z0 := World.ownsRow.frozenAt o4 k; have OP : Hid (Oz (w3.setCell ⟨W1.heap.size, k, none⟩ (.complex .f64 z z2)) W1.heap.size W1.heap.size n n (fun i => if i = k then z else X i) (fun i => if i = k then z2 else Y i)) := o4.put k z z2; clear hz hb3 hbt o4)
      refine wpI_only (i := 5) rfl (by kernel_rfl) ⟨r5, r6⟩ (by rfl) ?_
      intro K hK
      go_simp
      try go_bits
      refine hK _ _ ?_
      refine wpI_only (i := 6) rfl (by kernel_rfl) ⟨r5, r6⟩ (by rfl) ?_
      intro K hK
      go_simp
      refine hK _ _ ?_
      refine wpI_done ⟨(World.cell?_setCell_other _ _ _ _ (fun h => by have := congrArg Addr.block h; simp at this; omega)).trans r5, (World.cell?_setCell_other _ _ _ _ (fun h => by have := congrArg Addr.block h; simp at this; omega)).trans r6⟩ (by kernel_rfl) ?_ _
      go_wp2
      go_roundw
      case rel =>
        refine ⟨k + 1, by go_num, by omega, _, _, OP.out, fun q hq => ?_, B4.out.setCell (Nat.le_refl _) _⟩
        by_cases hjk : q = k
        · subst hjk
          rw [if_pos rfl, if_pos rfl]
          exact EZ.out
        · rw [if_neg hjk, if_neg hjk]
          exact HX.out q (by omega)
      case measure => simp [intOf]; omega
    · obtain rfl : n = k := by omega
      have hZ : Zr wr W1.heap.size n X Y := ⟨(World.ownsRow.lt HO.out _ rfl).2, fun k hk => HO.out.cell hk⟩
      have j1 := toPs_any hZ (by omega)
      go_wp2_with (first | (go_at_call 34; (with_reducible refine j1.mono ?_); rintro e w4 ⟨hb4, u, L, rfl, hf, ho⟩; have HF : Hid (Fp w4 u n X Y) := hf; have HW : Hid (w4.ownsRow wr.heap.size 40 2 u n L) := ho; have H4 : Hid (Below wr.heap.size wr w4) := hb4; obtain ⟨ua, uc, rfl, _⟩ := hf; clear ho hb4))
      go_ret2
      exact ⟨_, X, Y, L, rfl, HF.out, HX.out, own_base HW.out (by omega), Y1.out.bel.trans (H4.out.mono (by omega))⟩

set_option maxRecDepth 100000 in
set_option maxHeartbeats 4000000 in
theorem iFour_t {w : World} {v : Value} {n j : Nat} {xs ys : Nat → Nat} (hv : Fp w v n xs ys) (hj : j < 8) (hn : n = 2 ^ j) (hbr : Brj w) :
    Calls Tryd.prog 9 #[v, .bool true] w fun e w' => Pf w w' e n (four xs ys n true) true := by
  obtain ⟨s, hs⟩ : ∃ s, s = w.heap.size := ⟨_, rfl⟩
  have gv : Gvn w s n j true v xs ys := ⟨hs, hj, hn, hbr, hv⟩
  have hp := gv.pos
  have hn2 : n ≤ 128 := hp.2
  have h8 := pow_cases hj hn
  have i1 := iH8_any n
  rw [decide_eq_true (show H8 (n : Int) by omega)] at i1
  obtain ⟨ao, cap, rfl, hcap, _⟩ := hv
  have S : Sx w s n j true (.slice ao n cap) xs ys 0 0 0 0 0 none none (w.alloc (.cells #[.int .i64 n] 3)) := by
    refine ⟨gv, hs ▸ below_one _ _, by rw [hs]; simp, fun h => by omega, fun h => by omega, fun h => by omega, fun b h => (by cases h), fun b h => (by cases h), fun b b' h => (by cases h)⟩
  have fr := freg S
  unfold ops4 at fr
  clear S gv hbr
  obtain ⟨i0, hi, hz0, hz1, hz2⟩ := info_parts Tryd.info51c
  have INFO : Hid (Tryd.prog.info? 51 = some i0 ∧ i0.zero = some (.complex .f64 0 0) ∧ i0.size = 1 ∧ i0.bytes = 16) := ⟨hi, hz0, hz1, hz2⟩
  have hST := rStoreZ
  have hmf : ∀ (fn : Fn) (first cap : Array Value) (w : World), (Instr.makeFunc fn first cap).run Tryd.prog w = .ok (.func fn first cap) w := fun _ _ _ _ => rfl
  have HJ : Hid (n = 2 ^ j) := hn
  clear hi hz0 hz1 hz2 hn hj
  subst hs
  go_enter Tryd.func9, Tryd.ntmps9
  go_wp2_with (go_at_call 27; refine (i1 _).mono ?_; rintro e w' ⟨rfl, hw⟩; obtain rfl := hw.symm)
  refine Code.wp_mono ?_ fr
  rintro e a W1 ⟨rfl, b7, b8, gn, gt, cl, rfl, YY0⟩
  clear fr i1
  have YY : Hid (Sy w w.heap.size n j true (.slice ao n cap) xs ys gn gt b7 b8 W1) := YY0
  obtain ⟨hi, hz0, hz1, hz2⟩ := INFO.out
  obtain ⟨w1, hm, hrow, hgr⟩ := run_makeSlice_full (P := Tryd.prog) W1 W1.heap.size 47 51 i0 (.complex .f64 0 0) 1 Tryd.underlying47 hi hz0 hz1 .i64 .i64 n (by omega) (by rw [hz2]; omega) (by unfold maxLen; omega) (Nat.le_refl _)
  have hbl : Below W1.heap.size W1 w1 := (Below.refl _ _).grown hgr (Nat.le_refl _) (fun _ h => by cases h)
  rw [made_czs] at hrow
  have HR : Hid (Oz w1 W1.heap.size W1.heap.size n n (fun _ => 0) (fun _ => 0)) := hrow
  have HB : Hid (Below W1.heap.size W1 w1) := hbl
  have bx := YY0.bx
  have bx1 := keepc hbl bx
  have hsl : w.heap.size < W1.heap.size := World.block_lt_of_cell? W1 _ bx
  clear hrow hbl hgr hi hz0 hz1 hz2 YY0
  go_wp2
  go_loopw [26] (fun i wr => ∃ k : Nat, i = .int .i64 k ∧ k ≤ n ∧ Hid (∃ X Y, Oz wr W1.heap.size W1.heap.size n n X Y ∧ (∀ q, q < k → (cn (X q), cn (Y q)) = fpart xs ys n true q n) ∧ Below W1.heap.size W1 wr)) (fun i _ => n - (intOf i).toNat)
  case atStart => exact ⟨0, rfl, by omega, fun _ => 0, fun _ => 0, HR.out, fun j hj => by omega, HB.out⟩
  case round =>
    obtain ⟨k, rfl, hk, hrel⟩ := hrel
    obtain ⟨X, Y, hown, hxy, hbl⟩ := hrel.out
    have hsz := hbl.size
    have Y1 : Hid (Sy w w.heap.size n j true (.slice ao n cap) xs ys gn gt b7 b8 wr) := YY.out.below hbl
    have HO : Hid (Oz wr W1.heap.size W1.heap.size n n X Y) := hown
    have HX : Hid (∀ q, q < k → (cn (X q), cn (Y q)) = fpart xs ys n true q n) := hxy
    have HBL : Hid (Below W1.heap.size W1 wr) := hbl
    clear hrel hown hxy hbl
    by_cases h1 : k < n
    · have hb5 := below_one wr (.cells #[.int .i64 (k : Int)] 3)
      have e5 : (wr.alloc (.cells #[.int .i64 (k : Int)] 3)).cell? ⟨wr.heap.size, 0, none⟩ = some (.int .i64 k) := by simp
      have y5 := Y1.out.below hb5
      have i2 := overC_any (w := (wr.alloc (.cells #[.int .i64 (k : Int)] 3)).drew) hn2 (.pointer (some ⟨b7, 0, none⟩)) (.pointer (some ⟨b8, 0, none⟩)) (.pointer (some ⟨wr.heap.size, 0, none⟩)) (.pointer (some ⟨w.heap.size, 0, none⟩)) (fpart xs ys n true k) rfl (fun i hi x y hxy W hW => by
        have hW' : Below (wr.alloc (.cells #[.int .i64 (k : Int)] 3)).heap.size (wr.alloc (.cells #[.int .i64 (k : Int)] 3)) W := bstep (Below.refl _ _).drew hW
        have y6 := y5.below hW'
        obtain ⟨t0, t1, TX, TY, t2⟩ := y6.t
        obtain ⟨u1, u2, u3⟩ := t2 (i * k % n) (Nat.mod_lt _ (by omega))
        refine (fStep hi h1 hn2 y6.b7 y6.b8 (keepc hW' e5) y6.bx (y6.z.2 i hi) u1).mono ?_
        rintro e w' ⟨z, z2, he, hz, hz2, hb⟩
        refine ⟨z, z2, he, ?_, hb⟩
        obtain ⟨p1, p2⟩ := Prod.mk.inj hxy
        have hc := turn_congr h8 true (i * k)
        rw [hz, hz2, u2, u3, p1, p2, tre_congr hc, tim_congr hc]
        rfl)
      have HB5 : Hid (Below wr.heap.size wr (wr.alloc (.cells #[.int .i64 (k : Int)] 3)).drew) := hb5.drew
      have E5 : Hid ((wr.alloc (.cells #[.int .i64 (k : Int)] 3)).drew.cell? ⟨wr.heap.size, 0, none⟩ = some (.int .i64 k)) := e5
      have E6 : Hid ((wr.alloc (.cells #[.int .i64 (k : Int)] 3)).drew.cell? ⟨w.heap.size, 0, none⟩ = some (.int .i64 n)) := y5.bx
      have hlt : W1.heap.size < wr.heap.size := (World.ownsRow.lt HO.out _ rfl).2
      clear hb5 e5 y5
      go_wp2
      refine wp_region_any (by kernel_rfl) ?_
      change wpAny _ _ _ _ _ _ _ (World.drew _)
      refine wpI_any (I := fun X => X.cell? ⟨wr.heap.size, 0, none⟩ = some (.int .i64 k) ∧ X.cell? ⟨w.heap.size, 0, none⟩ = some (.int .i64 n)) _ _ _ _ ?_
      refine wpI_take (i := 0) (v := ?_) rfl (by kernel_rfl) (by kernel_rfl) (by kernel_rfl) (fun _ _ _ h => h) ⟨by rfl, ?_⟩ ?_
      rotate_left
      · intro X hI; go_simp; try go_bits
        try rw [if_pos (by omega)]
        try with_reducible rfl
      refine wpI_take (i := 1) (v := .int .i64 k) rfl (by kernel_rfl) (by kernel_rfl) (by kernel_rfl) (fun _ _ _ h => h) ⟨by rfl, ?_⟩ ?_
      · intro X hI; obtain ⟨q1, q2⟩ := hI; go_simp; try go_bits
        try rw [if_pos (by omega)]
      refine wpI_take (i := 2) (v := .int .i64 n) rfl (by kernel_rfl) (by kernel_rfl) (by kernel_rfl) (fun _ _ _ h => h) ⟨by rfl, ?_⟩ ?_
      · intro X hI; obtain ⟨q1, q2⟩ := hI; go_simp; try go_bits
        try rw [if_pos (by omega)]
      refine wpI_take (i := 3) (v := ?_) rfl (by kernel_rfl) (by kernel_rfl) (by kernel_rfl) (fun _ _ _ h => h) ⟨by rfl, ?_⟩ ?_
      rotate_left
      · intro X hI; go_simp; try go_bits
        try rw [if_pos (by omega)]
        try with_reducible rfl
      refine wpI_only (i := 4) rfl (by kernel_rfl) ⟨E5.out, E6.out⟩ (by rfl) ?_
      intro K hK
      go_simp
      go_wp2_with (go_at_call 30; (with_reducible refine i2.mono ?_); rintro e w3 ⟨z, z2, rfl, hz, hb3⟩; have EZ : Hid ((cn z, cn z2) = fpart xs ys n true k n) := hz; have hbt : Below wr.heap.size wr w3 := bstep HB5.out hb3; have r5 := keepc hb3 E5.out; have r6 := keepc hb3 E6.out; have o4 : Oz w3 W1.heap.size W1.heap.size n n X Y := own_below HO.out hbt; have B4 : Hid (Below W1.heap.size W1 w3) := bstep HBL.out hbt; have d0 := o4.cell h1; have z0 := World.ownsRow.frozenAt o4 k; have OP : Hid (Oz (w3.setCell ⟨W1.heap.size, k, none⟩ (.complex .f64 z z2)) W1.heap.size W1.heap.size n n (fun i => if i = k then z else X i) (fun i => if i = k then z2 else Y i)) := o4.put k z z2; clear hz hb3 hbt o4)
      refine wpI_only (i := 5) rfl (by kernel_rfl) ⟨r5, r6⟩ (by rfl) ?_
      intro K hK
      go_simp
      try go_bits
      refine hK _ _ ?_
      refine wpI_only (i := 6) rfl (by kernel_rfl) ⟨r5, r6⟩ (by rfl) ?_
      intro K hK
      go_simp
      refine hK _ _ ?_
      refine wpI_done ⟨(World.cell?_setCell_other _ _ _ _ (fun h => by have := congrArg Addr.block h; simp at this; omega)).trans r5, (World.cell?_setCell_other _ _ _ _ (fun h => by have := congrArg Addr.block h; simp at this; omega)).trans r6⟩ (by kernel_rfl) ?_ _
      go_wp2
      go_roundw
      case rel =>
        refine ⟨k + 1, by go_num, by omega, _, _, OP.out, fun q hq => ?_, B4.out.setCell (Nat.le_refl _) _⟩
        by_cases hjk : q = k
        · subst hjk
          rw [if_pos rfl, if_pos rfl]
          exact EZ.out
        · rw [if_neg hjk, if_neg hjk]
          exact HX.out q (by omega)
      case measure => simp [intOf]; omega
    · obtain rfl : n = k := by omega
      have hZ : Zr wr W1.heap.size n X Y := ⟨(World.ownsRow.lt HO.out _ rfl).2, fun k hk => HO.out.cell hk⟩
      have j1 := toPs_any hZ (by omega)
      go_wp2_with (first | (go_at_call 34; (with_reducible refine j1.mono ?_); rintro e w4 ⟨hb4, u, L, rfl, hf, ho⟩; have j2 := divided_any hf (by omega); have H4 : Hid (Below wr.heap.size wr w4) := hb4; obtain ⟨ua, uc, rfl, _⟩ := hf; clear ho hb4) | (go_at_call 33; (with_reducible refine j2.mono ?_); rintro e w5 ⟨hb5, u2, L2, X2, Y2, rfl, hf2, hd2, ho2⟩; have HF : Hid (Fp w5 u2 n X2 Y2) := hf2; have HD : Hid (∀ i, i < n → cn (X2 i) = cop .quo (cn (X i)) (cn (fk n)) ∧ cn (Y2 i) = cop .quo (cn (Y i)) (cn (fk n))) := hd2; have HW : Hid (w5.ownsRow w4.heap.size 40 2 u2 n L2) := ho2; have H5 : Hid (Below wr.heap.size wr w5) := bstep H4.out hb5; obtain ⟨ub, uc2, rfl, _⟩ := hf2; clear ho2 hb5 j2))
      go_ret2
      refine ⟨_, X2, Y2, L2, rfl, HF.out, fun q hq => ?_, own_base HW.out (by have := H4.out.size; omega), Y1.out.bel.trans (H5.out.mono (by omega))⟩
      obtain ⟨p1, p2⟩ := Prod.mk.inj (HX.out q hq)
      rw [(HD.out q hq).1, (HD.out q hq).2, p1, p2]
      rfl
end Go.Proofs.YtlcnciibjhcbiaaDoor
