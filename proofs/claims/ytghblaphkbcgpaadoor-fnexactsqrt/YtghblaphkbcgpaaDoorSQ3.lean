/- The program's root of a number. -/
import Derived.Test.YtghblaphkbcgpaaDoorSQ1
import Derived.Test.YtghblaphkbcgpaaDoorHA0
namespace Go.Proofs.YtghblaphkbcgpaaDoor
open Go.RowKit

theorem i64_and1 (n : Int) : bits .and .i64 n 1 = n % 2 := by
  have h : (BitVec.ofInt 64 1).toNat = 2 ^ 1 - 1 := by decide
  have key : (BitVec.ofInt 64 n &&& BitVec.ofInt 64 1).toNat = (n % ((2 ^ 64 : Nat) : Int)).toNat % 2 ^ 1 := by
    rw [BitVec.toNat_and, BitVec.toNat_ofInt, h, Nat.and_two_pow_sub_one_eq_mod]
  show IntKind.i64.wrap ((BitVec.ofInt 64 n &&& BitVec.ofInt 64 1).toNat : Nat) = n % 2
  rw [key, IntKind.wrap_i64]
  omega

theorem wroot_at (X m : Nat) (hX : X < 18446744073709551616) (h : Isq (X * 4503599627370496) m) (w : World) : Calls Tryd.prog 43 #[.int .u64 (X : Int)] w fun e w' => e = .returned (.tuple #[.int .u64 (m : Int), .int .u64 ((X * 4503599627370496 - m * m : Nat) : Int)]) ∧ w' = w := by
  refine (wroot_any X hX w).mono ?_
  rintro e w' ⟨m', rest, rfl, h1, h2, h3, hw⟩
  obtain rfl := isq_uniq (isq_of h1 h2) h
  rw [show X * 4503599627370496 - m' * m' = rest by omega]
  exact ⟨rfl, hw⟩

/-- Five cells of a new block, later. -/
theorem five_in {w w' : World} {a b c d f : Value} {t : TypeId} (hb : Below (w.alloc (.cells #[a, b, c, d, f] t)).heap.size (w.alloc (.cells #[a, b, c, d, f] t)) w') :
    w'.cell? ⟨w.heap.size, 0, none⟩ = some a ∧ w'.cell? ⟨w.heap.size, 1, none⟩ = some b ∧ w'.cell? ⟨w.heap.size, 2, none⟩ = some c ∧ w'.cell? ⟨w.heap.size, 3, none⟩ = some d ∧ w'.cell? ⟨w.heap.size, 4, none⟩ = some f ∧
    w'.frozen? ⟨w.heap.size, 0, none⟩ = false ∧ w'.frozen? ⟨w.heap.size, 1, none⟩ = false ∧ w'.frozen? ⟨w.heap.size, 2, none⟩ = false ∧ w'.frozen? ⟨w.heap.size, 3, none⟩ = false ∧ w'.frozen? ⟨w.heap.size, 4, none⟩ = false := by
  have hl : w.heap.size < (w.alloc (.cells #[a, b, c, d, f] t)).heap.size := by simp
  exact ⟨(hb.cell (p := ⟨w.heap.size, 0, none⟩) hl).trans (by simp), (hb.cell (p := ⟨w.heap.size, 1, none⟩) hl).trans (by simp), (hb.cell (p := ⟨w.heap.size, 2, none⟩) hl).trans (by simp), (hb.cell (p := ⟨w.heap.size, 3, none⟩) hl).trans (by simp), (hb.cell (p := ⟨w.heap.size, 4, none⟩) hl).trans (by simp),
    (hb.frozen (p := ⟨w.heap.size, 0, none⟩) hl).trans (by simp), (hb.frozen (p := ⟨w.heap.size, 1, none⟩) hl).trans (by simp), (hb.frozen (p := ⟨w.heap.size, 2, none⟩) hl).trans (by simp), (hb.frozen (p := ⟨w.heap.size, 3, none⟩) hl).trans (by simp), (hb.frozen (p := ⟨w.heap.size, 4, none⟩) hl).trans (by simp)⟩

theorem other5 (w : World) (a b : Addr) (v : Value) (h : a ≠ b) : (w.setCell a v).cell? b = w.cell? b := by
  first | exact World.cell?_setCell_other _ _ _ _ h | exact World.cell?_setCell_other _ _ _ h | exact World.cell?_setCell_other h | exact World.cell?_setCell_other _ _ h

/-- The answer's block and old memory, two calls later. -/
theorem res_in {w w1 w2 : World} {p o : Obj} {a b c d : Value} {t : TypeId} (hb1 : Below ((w.alloc p).alloc (.cells #[a, b, c, d] t)).heap.size ((w.alloc p).alloc (.cells #[a, b, c, d] t)) w1) (hb2 : Below (w1.alloc o).heap.size (w1.alloc o) w2) :
    w2.cell? ⟨w.heap.size + 1, 0, none⟩ = some a ∧ w2.cell? ⟨w.heap.size + 1, 1, none⟩ = some b ∧ w2.cell? ⟨w.heap.size + 1, 2, none⟩ = some c ∧ w2.cell? ⟨w.heap.size + 1, 3, none⟩ = some d ∧
    w2.frozen? ⟨w.heap.size + 1, 0, none⟩ = false ∧ w2.frozen? ⟨w.heap.size + 1, 1, none⟩ = false ∧ w2.frozen? ⟨w.heap.size + 1, 2, none⟩ = false ∧ w2.frozen? ⟨w.heap.size + 1, 3, none⟩ = false ∧ w.heap.size + 2 ≤ w1.heap.size ∧ Below w.heap.size w w2 := by
  have hs : ((w.alloc p).alloc (.cells #[a, b, c, d] t)).heap.size = w.heap.size + 2 := by simp
  have h1 := hb1.size
  rw [hs] at h1
  have hl : w.heap.size + 1 < ((w.alloc p).alloc (.cells #[a, b, c, d] t)).heap.size := by omega
  have hl2 : w.heap.size + 1 < w1.heap.size := by omega
  have hb3 : Below w1.heap.size w1 w2 := (below_one _).trans (hb2.mono (below_one _).size)
  have cc : ∀ j, w2.cell? ⟨w.heap.size + 1, j, none⟩ = ((w.alloc p).alloc (.cells #[a, b, c, d] t)).cell? ⟨w.heap.size + 1, j, none⟩ := fun j => (hb3.cell (p := ⟨w.heap.size + 1, j, none⟩) hl2).trans (hb1.cell (p := ⟨w.heap.size + 1, j, none⟩) hl)
  have g : ∀ j, w2.frozen? ⟨w.heap.size + 1, j, none⟩ = ((w.alloc p).alloc (.cells #[a, b, c, d] t)).frozen? ⟨w.heap.size + 1, j, none⟩ := fun j => (hb3.frozen (p := ⟨w.heap.size + 1, j, none⟩) hl2).trans (hb1.frozen (p := ⟨w.heap.size + 1, j, none⟩) hl)
  refine ⟨(cc 0).trans (by simp), (cc 1).trans (by simp), (cc 2).trans (by simp), (cc 3).trans (by simp), (g 0).trans (by simp), (g 1).trans (by simp), (g 2).trans (by simp), (g 3).trans (by simp), h1, ?_⟩
  have hbw : Below w.heap.size w ((w.alloc p).alloc (.cells #[a, b, c, d] t)) := ((Below.refl _ w).alloc (Nat.le_refl _) _).alloc (by simp) _
  exact (hbw.trans (hb1.mono hbw.size)).trans (hb3.mono (by omega))

/-- What the program's root comes to. -/
def Rt (E : Int) (M : Nat) (E1 : Int) (J : Nat) : Prop := ∃ s m : Nat, s ≤ 120 ∧ E1 * 2 = E - s ∧ Isq (M * 2 ^ s) m ∧ J = jam m (M * 2 ^ s - m * m) ∧ 2 ^ 54 ≤ m ∧ m < 2 ^ 58

set_option maxHeartbeats 4000000 in
theorem rootNum_fin (E : Int) (M : Nat) (hM0 : 0 < M) (hM : M < 9007199254740992) (hE0 : -1074 ≤ E) (hE1 : E ≤ 2000) :
    ∃ E1 J, Rt E M E1 J ∧ -2000 ≤ E1 ∧ E1 ≤ 2000 ∧ ∀ w, Calls Tryd.prog 16 #[.agg #[.int .i64 1, .bool false, .int .i64 E, .int .u64 (M : Int)]] w fun e w' => e = .returned (.agg #[.int .i64 1, .bool false, .int .i64 E1, .int .u64 (J : Int)]) ∧ Below w.heap.size w w' := by
  have hb64 : blen M ≤ 53 := blen_le (N := M) (L := 53) hM
  have hb0 := (blen_pos hM0).1
  obtain ⟨b, hb⟩ : ∃ b, b = 64 - blen M := ⟨_, rfl⟩
  obtain ⟨l1, l2⟩ := lift_room hM0 (show M < 18446744073709551616 by omega)
  rw [← hb] at l1 l2
  obtain ⟨o, ho⟩ : ∃ o : Nat, (E - (b : Int)) % 2 = (o : Int) := ⟨((E - (b : Int)) % 2).toNat, by omega⟩
  have ho1 : o ≤ 1 := by omega
  obtain ⟨c, hc⟩ : ∃ c, b = c + 1 := ⟨b - 1, by omega⟩
  have hX0 : M * 2 ^ b = 2 * (M * 2 ^ c) := by rw [hc, Nat.pow_succ]; grind
  obtain ⟨X0, hX0d⟩ : ∃ X0, X0 = M * 2 ^ b := ⟨_, rfl⟩
  rw [← hX0d] at l1 l2 hX0
  obtain ⟨X, hXd⟩ : ∃ X, X = X0 / 2 ^ o := ⟨_, rfl⟩
  have hX : X = M * 2 ^ (b - o) ∧ X0 = X * 2 ^ o := by
    rcases (show o = 0 ∨ o = 1 by omega) with h | h
    · subst h
      rw [Nat.pow_zero, Nat.div_one] at hXd
      rw [Nat.pow_zero, Nat.mul_one, hXd, hX0d]
      exact ⟨rfl, rfl⟩
    · subst h
      rw [Nat.pow_one] at hXd ⊢
      rw [hXd, hX0, show b - 1 = c by omega]
      omega
  have hXlo : 4611686018427387904 ≤ X ∧ X < 18446744073709551616 := by
    rcases (show o = 0 ∨ o = 1 by omega) with h | h <;> subst h <;> simp at hXd <;> omega
  obtain ⟨m, hm⟩ := isq_ex (X * 4503599627370496)
  have hms : X * 4503599627370496 = M * 2 ^ (b - o + 52) := by
    rw [hX.1, Nat.mul_assoc, Nat.pow_add]
  have hmlo : 2 ^ 54 ≤ m := by
    have h1 := hm.2
    have : (2 ^ 57) * (2 ^ 57) < (m + 1) * (m + 1) := Nat.lt_of_le_of_lt (by omega) h1
    have := sq_lt this
    omega
  have hmhi : m < 2 ^ 58 := by
    have h1 := hm.1
    exact sq_lt (Nat.lt_of_le_of_lt h1 (by omega))
  obtain ⟨R, hR⟩ : ∃ R, R = X * 4503599627370496 - m * m := ⟨_, rfl⟩
  have i3 := fun W => wroot_at X m hXlo.2 hm W
  rw [← hR] at i3
  have i4 := fun W => jam_any m R (by omega) W
  have i1 : ∀ W, Calls Tryd.prog 41 #[.agg #[.int .i64 1, .bool false, .int .i64 E, .int .u64 (M : Int), .int .u64 0]] W fun e w' => e = .returned (.agg #[.int .i64 1, .bool false, .int .i64 (E - (b : Int)), .int .u64 (X0 : Int), .int .u64 0]) ∧ Below W.heap.size W w' := fun W => by
    have := lifted_one 1 E false M 0 W hM0 (by omega) (by omega) (by omega) (by omega)
    rw [← hb, Nat.add_zero, show M * 18446744073709551616 * 2 ^ b = X0 * 18446744073709551616 by rw [hX0d]; grind, Nat.mul_div_cancel _ (by decide), Nat.mul_mod_left] at this
    refine this.mono ?_
    rintro e w' ⟨rfl, hw⟩
    refine ⟨rfl, ?_⟩
    rw [hw]
    unfold liftW
    exact ((((Below.refl _ W).alloc (Nat.le_refl _) _).alloc (by simp) _)).drew
  have i2 : ∀ W, Calls Tryd.prog 42 #[.agg #[.int .i64 1, .bool false, .int .i64 (E - (b : Int)), .int .u64 (X0 : Int), .int .u64 0], .int .i64 (o : Int)] W fun e w' => e = .returned (.agg #[.int .i64 1, .bool false, .int .i64 (E - (b : Int) + (o : Int)), .int .u64 (X : Int), .int .u64 0]) ∧ Below W.heap.size W w' := fun W => by
    have := sunk_low 1 (E - (b : Int)) false X0 0 o W l1 (by omega) (by omega) (by omega) (by omega)
    have e1 : X0 * 18446744073709551616 = X * 18446744073709551616 * 2 ^ o := by rw [hX.2]; grind
    have e2 : jam (X0 * 18446744073709551616 / 2 ^ o) (X0 * 18446744073709551616 % 2 ^ o) = X * 18446744073709551616 := by
      rw [e1, Nat.mul_div_cancel _ (Nat.pow_pos (by decide)), Nat.mul_mod_left]
      rfl
    rw [Nat.add_zero, e2, Nat.mul_div_cancel _ (by decide), Nat.mul_mod_left] at this
    exact this
  obtain ⟨E2, hE2⟩ : ∃ E2 : Int, E - (b : Int) + (o : Int) = 2 * E2 := ⟨(E - (b : Int) + (o : Int)) / 2, by omega⟩
  obtain ⟨J, hJ⟩ : ∃ J, J = jam m R := ⟨_, rfl⟩
  refine ⟨E2 - 26, J, ⟨b - o + 52, m, by omega, by omega, by rw [← hms]; exact hm, by rw [hJ, hR, hms], hmlo, hmhi⟩, by omega, by omega, fun w => ?_⟩
  rw [← hJ] at i4
  obtain ⟨E3, hE3⟩ : ∃ E3 : Int, E3 = E - (b : Int) := ⟨_, rfl⟩
  rw [← hE3] at i1 i2 ho hE2
  rw [hE2] at i2
  have ha : bits .and .i64 E3 1 = (o : Int) := by rw [i64_and1, ho]
  have hE2b : -2000 ≤ E2 ∧ E2 ≤ 2000 := by omega
  have ht : (2 * E2).tdiv 2 = E2 := Int.mul_tdiv_cancel_left _ (by decide)
  clear hms hm hmlo hmhi hX hXlo hXd hX0 hX0d l1 l2 hb hc hR hJ hb64 hb0 hM hM0 ho hE2 hE3 ho1
  go_enter Tryd.func16, Tryd.ntmps16
  go_wp2_with (first
    | (go_at_call 41; refine (i1 _).mono ?_; rintro e w1 ⟨rfl, hb1⟩; have B1 : Hid _ := hb1; clear hb1)
    | (go_at_call 42; refine (i2 _).mono ?_; rintro e w2 ⟨rfl, hb2⟩; obtain ⟨k0, k1, k2, k3, k4, kf0, kf1, kf2, kf3, kf4⟩ := five_in hb2; have B2 : Hid _ := hb2; clear hb2)
    | (go_at_call 43; (with_reducible refine (i3 _).mono ?_); rintro e w' ⟨rfl, hw⟩; obtain rfl := hw.symm)
    | (go_at_call 44; (with_reducible refine (i4 _).mono ?_); rintro e w' ⟨rfl, hw⟩; obtain rfl := hw.symm))
  obtain ⟨r0, r1, r2, r3, f0, f1, f2, f3, hl, hbl⟩ := res_in B1.out B2.out
  have hL1 : w.heap.size ≤ w1.heap.size := by omega
  have hne : w.heap.size + 1 ≠ w1.heap.size := by omega
  have g2 : (((((w2.setCell ⟨w1.heap.size, 0, none⟩ (.int .i64 1)).setCell ⟨w1.heap.size, 1, none⟩ (.bool false)).setCell ⟨w1.heap.size, 2, none⟩ (.int .i64 (2 * E2))).setCell ⟨w1.heap.size, 3, none⟩ (.int .u64 (X : Int))).setCell ⟨w1.heap.size, 4, none⟩ (.int .u64 0)).cell? ⟨w1.heap.size, 2, none⟩ = some (.int .i64 (2 * E2)) := by
    rw [other5 _ _ _ _ (by simp), other5 _ _ _ _ (by simp)]
    exact World.cell?_setCell_same' _ _ _ (by rw [other5 _ _ _ _ (by simp), other5 _ _ _ _ (by simp), k2]; rfl)
  have BB : Below w.heap.size w (((((w2.setCell ⟨w1.heap.size, 0, none⟩ (.int .i64 1)).setCell ⟨w1.heap.size, 1, none⟩ (.bool false)).setCell ⟨w1.heap.size, 2, none⟩ (.int .i64 (2 * E2))).setCell ⟨w1.heap.size, 3, none⟩ (.int .u64 (X : Int))).setCell ⟨w1.heap.size, 4, none⟩ (.int .u64 0)) := ((((hbl.setCell hL1 _).setCell hL1 _).setCell hL1 _).setCell hL1 _).setCell hL1 _
  have q : ∀ j, (((((w2.setCell ⟨w1.heap.size, 0, none⟩ (.int .i64 1)).setCell ⟨w1.heap.size, 1, none⟩ (.bool false)).setCell ⟨w1.heap.size, 2, none⟩ (.int .i64 (2 * E2))).setCell ⟨w1.heap.size, 3, none⟩ (.int .u64 (X : Int))).setCell ⟨w1.heap.size, 4, none⟩ (.int .u64 0)).cell? ⟨w.heap.size + 1, j, none⟩ = w2.cell? ⟨w.heap.size + 1, j, none⟩ := fun j => by
    rw [other5 _ _ _ _ (by first | (simp; done) | (simp; omega)), other5 _ _ _ _ (by first | (simp; done) | (simp; omega)), other5 _ _ _ _ (by first | (simp; done) | (simp; omega)), other5 _ _ _ _ (by first | (simp; done) | (simp; omega)), other5 _ _ _ _ (by first | (simp; done) | (simp; omega))]
  have qf : ∀ j, (((((w2.setCell ⟨w1.heap.size, 0, none⟩ (.int .i64 1)).setCell ⟨w1.heap.size, 1, none⟩ (.bool false)).setCell ⟨w1.heap.size, 2, none⟩ (.int .i64 (2 * E2))).setCell ⟨w1.heap.size, 3, none⟩ (.int .u64 (X : Int))).setCell ⟨w1.heap.size, 4, none⟩ (.int .u64 0)).frozen? ⟨w.heap.size + 1, j, none⟩ = w2.frozen? ⟨w.heap.size + 1, j, none⟩ := fun j => by
    rw [World.frozen?_setCell, World.frozen?_setCell, World.frozen?_setCell, World.frozen?_setCell, World.frozen?_setCell]
  have s0 := (q 0).trans r0
  have s1 := (q 1).trans r1
  have s2 := (q 2).trans r2
  have s3 := (q 3).trans r3
  have t0 := (qf 0).trans f0
  have t1 := (qf 1).trans f1
  have t2 := (qf 2).trans f2
  have t3 := (qf 3).trans f3
  clear q qf k0 k1 k2 k3 k4 kf0 kf1 kf2 kf3 kf4 r0 r1 r2 r3 f0 f1 f2 f3 hbl B1 B2 i1 i2 i3
  generalize (((((w2.setCell ⟨w1.heap.size, 0, none⟩ (.int .i64 1)).setCell ⟨w1.heap.size, 1, none⟩ (.bool false)).setCell ⟨w1.heap.size, 2, none⟩ (.int .i64 (2 * E2))).setCell ⟨w1.heap.size, 3, none⟩ (.int .u64 (X : Int))).setCell ⟨w1.heap.size, 4, none⟩ (.int .u64 0)) = W3 at *
  have HBB : Hid (Below w.heap.size w W3) := BB
  clear BB
  go_region_with (go_at_call 44; refine (i4 _).mono ?_; rintro e w' ⟨rfl, hw⟩; obtain rfl := hw.symm)
  all_goals
    go_wp2
    refine bodyPost_ret (v := .agg #[.int .i64 1, .bool false, .int .i64 (E2 - 26), .int .u64 (J : Int)]) (by simp [results, Tryd.results16, go_sem, s0, s1, s2, s3]; rw [IntKind.wrap_i64, IntKind.wrap_i64]; omega) rfl ⟨rfl, ?_⟩
    first
    | exact ((((HBB.out.drew.setCell (by simp) _).setCell (by simp) _).setCell (by simp) _).setCell (by simp) _)
    | exact (((((HBB.out.setCell (by simp) _).setCell (by simp) _).setCell (by simp) _).setCell (by simp) _)).drew
end Go.Proofs.YtghblaphkbcgpaaDoor
