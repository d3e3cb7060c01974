/- Ham and UnHam: both sides. -/
import Derived.Test.YtpiemjabmipldaaDoorHA
namespace Go.Proofs.YtpiemjabmipldaaDoor
open Go.RowKit

abbrev inP (x lo hi : Int) : Prop := lo ≤ x ∧ x ≤ hi
/-- The Ham words, by the program's sums and by the document's. -/
def par (x : Nat) : Nat := ones x % 2
def hA (n : Nat) : Nat := 2 * n + par (n &&& 14)
def hB (n : Nat) : Nat := 2 * hA n + par (n &&& 13)
def hC (n : Nat) : Nat := 2 * hB n + par (n &&& 11)
def hm (n : Nat) : Nat := 2 * hC n + par (hC n)
def hW (n : Nat) : Nat := 128 * (n / 8) + 64 * (n / 4 % 2) + 32 * (n / 2 % 2) + 16 * (n % 2) + 8 * ((n / 8 + n / 4 % 2 + n / 2 % 2) % 2) + 4 * ((n / 8 + n / 4 % 2 + n % 2) % 2) + 2 * ((n / 8 + n / 2 % 2 + n % 2) % 2)
theorem hm_eq : ∀ n : Fin 16, hm n.val = hW n.val + par (hW n.val) ∧ hW n.val < 256 ∧ hm n.val < 256 ∧ hC n.val < 128 := by decide +kernel

/-- UnHam from a place on. -/
def unF (w : Nat) : Nat → Int × Int
  | 0 => (-1, 2)
  | f + 1 => if ones (hm (15 - f) ^^^ w) ≤ 1 then (((15 - f : Nat) : Int), ((ones (hm (15 - f) ^^^ w) : Nat) : Int)) else unF w f

theorem unF_yes {w k : Nat} (hk : k < 16) (h : ones (hm k ^^^ w) ≤ 1) : unF w (16 - k) = ((k : Int), ((ones (hm k ^^^ w) : Nat) : Int)) := by
  obtain ⟨f, hf⟩ : ∃ f, 16 - k = f + 1 := ⟨15 - k, by omega⟩
  obtain rfl : k = 15 - f := by omega
  rw [hf, unF, if_pos h]

theorem unF_no {w k : Nat} (hk : k < 16) (h : ¬ ones (hm k ^^^ w) ≤ 1) : unF w (16 - k) = unF w (16 - (k + 1)) := by
  obtain ⟨f, hf⟩ : ∃ f, 16 - k = f + 1 := ⟨15 - k, by omega⟩
  obtain rfl : k = 15 - f := by omega
  rw [hf, unF, if_neg h, show 16 - (15 - f + 1) = f by omega]

/-- Ham and UnHam of any number. -/
def hmV (x : Int) : Int := if inP x 0 15 then ((hm x.toNat : Nat) : Int) else 0
def unV (x : Int) : Int × Int := if inP x 0 255 then unF x.toNat 16 else (-1, 2)

/-- The three sums, as they lie in memory. -/
structure Hms (w : World) : Prop where
  c0 : w.cell? ⟨0, 0, none⟩ = some (.int .i64 14)
  c1 : w.cell? ⟨0, 1, none⟩ = some (.int .i64 13)
  c2 : w.cell? ⟨0, 2, none⟩ = some (.int .i64 11)

theorem Hms.below {w w' : World} (h : Hms w) (hb : Below w.heap.size w w') : Hms w' :=
  ⟨(hb.cell (World.block_lt_of_cell? w _ h.c0)).trans h.c0, (hb.cell (World.block_lt_of_cell? w _ h.c1)).trans h.c1, (hb.cell (World.block_lt_of_cell? w _ h.c2)).trans h.c2⟩

theorem idx0 (W : World) : Sem.run Tryd.prog (Instr.index 29 (.agg #[.int .i64 14, .int .i64 13, .int .i64 11]) (.int .i64 0)) W = .ok (.int .i64 14) W := by kernel_rfl
theorem idx1 (W : World) : Sem.run Tryd.prog (Instr.index 29 (.agg #[.int .i64 14, .int .i64 13, .int .i64 11]) (.int .i64 1)) W = .ok (.int .i64 13) W := by kernel_rfl
theorem idx2 (W : World) : Sem.run Tryd.prog (Instr.index 29 (.agg #[.int .i64 14, .int .i64 13, .int .i64 11]) (.int .i64 2)) W = .ok (.int .i64 11) W := by kernel_rfl
theorem types3 : 3 < Tryd.prog.types.size := of_decide_eq_true (by kernel_rfl)
theorem size3 : (Tryd.prog.types[3]'types3).size = 1 := by kernel_rfl

theorem par_any (x : Nat) (h : x < 256) (w : World) : Calls Tryd.prog 8 #[.int .i64 (x : Int)] w fun e w' => e = .returned (.int .i64 ((par x : Nat) : Int)) ∧ w' = w := by
  have i1 := ones_any x h
  have h2 : bits .and .i64 ((ones x : Nat) : Int) 1 = ((par x : Nat) : Int) := by
    have := and_nat (a := ones x) (b := 1) (by have := ones_le x; omega) (by omega)
    rw [Nat.and_one_is_mod] at this
    exact this
  have h3 : IntKind.u64.wrap (x : Int) = (x : Int) := u64w (by omega)
  generalize ones x = r at *
  generalize par x = q at *
  go_enter Tryd.func8, Tryd.ntmps8
  go_wp2_with (first | (go_at_call 10; (with_reducible refine (i1 _).mono ?_); rintro e w' ⟨rfl, hw⟩; obtain rfl := hw.symm))
  go_ret
  exact ⟨rfl, rfl⟩

theorem iHam_no {x : Int} (h : ¬ inP x 0 15) (w : World) : Calls Tryd.prog 6 #[.int .i64 x] w fun e w' => e = .returned (.int .i64 0) ∧ w' = w := by
  have b1 : x < 0 ∨ 15 < x := by omega
  clear h
  rcases b1 with b1 | b1
  · go_enter Tryd.func6, Tryd.ntmps6
    go_wp2
    go_ret
    exact ⟨rfl, rfl⟩
  · have b2 : decide (x < 0) = false := by simp; omega
    go_enter Tryd.func6, Tryd.ntmps6
    go_wp2
    go_ret
    exact ⟨rfl, rfl⟩

theorem hm_and : ∀ n : Fin 16, (n.val &&& 14) < 256 ∧ (n.val &&& 13) < 256 ∧ (n.val &&& 11) < 256 ∧ hA n.val < 256 ∧ hB n.val < 256 ∧ hC n.val < 256 := by decide +kernel

set_option maxHeartbeats 2000000 in
theorem iHam_yes {n : Nat} (h : n < 16) {w : World} (hs : Hms w) : Calls Tryd.prog 6 #[.int .i64 (n : Int)] w fun e w' => e = .returned (.int .i64 ((hm n : Nat) : Int)) ∧ w' = w := by
  obtain ⟨c0, c1, c2⟩ := hs
  have x0 := idx0 w
  have x1 := idx1 w
  have x2 := idx2 w
  obtain ⟨a1, a2, a3, a4, a5, a6⟩ := hm_and ⟨n, h⟩
  simp only at a1 a2 a3 a4 a5 a6
  have n1 : bits .and .i64 (n : Int) 14 = ((n &&& 14 : Nat) : Int) := and_nat (a := n) (b := 14) (by omega) (by omega)
  have n2 : bits .and .i64 (n : Int) 13 = ((n &&& 13 : Nat) : Int) := and_nat (a := n) (b := 13) (by omega) (by omega)
  have n3 : bits .and .i64 (n : Int) 11 = ((n &&& 11 : Nat) : Int) := and_nat (a := n) (b := 11) (by omega) (by omega)
  have i1 := par_any _ a1
  have i2 := par_any _ a2
  have i3 := par_any _ a3
  have i4 := par_any _ a6
  have z1 : Hid (hA n = 2 * n + par (n &&& 14)) := rfl
  have z2 : Hid (hB n = 2 * hA n + par (n &&& 13)) := rfl
  have z3 : Hid (hC n = 2 * hB n + par (n &&& 11)) := rfl
  have z4 : Hid (hm n = 2 * hC n + par (hC n)) := rfl
  have p1 : par (n &&& 14) < 2 := Nat.mod_lt _ (by omega)
  have p2 : par (n &&& 13) < 2 := Nat.mod_lt _ (by omega)
  have p3 : par (n &&& 11) < 2 := Nat.mod_lt _ (by omega)
  have p4 : par (hC n) < 2 := Nat.mod_lt _ (by omega)
  generalize par (n &&& 14) = s1 at *
  generalize par (n &&& 13) = s2 at *
  generalize par (n &&& 11) = s3 at *
  generalize par (hC n) = s4 at *
  generalize (n &&& 14) = y1 at *
  generalize (n &&& 13) = y2 at *
  generalize (n &&& 11) = y3 at *
  generalize hm n = g4 at *
  generalize hC n = g3 at *
  generalize hB n = g2 at *
  generalize hA n = g1 at *
  go_enter Tryd.func6, Tryd.ntmps6
  go_wp2
  go_loopw [3, 5, 14] (fun wv _ iv wr => ∃ k m : Nat, wv = .int .i64 (m : Int) ∧ iv = .int .i64 (k : Int) ∧ k ≤ 3 ∧ wr = w ∧ Hid ((k = 0 → m = n) ∧ (k = 1 → m = g1) ∧ (k = 2 → m = g2) ∧ (k = 3 → m = g3))) (fun _ _ iv _ => 3 - (intOf iv).toNat)
  case atStart => exact ⟨0, n, rfl, rfl, by omega, rfl, fun _ => rfl, fun h => by omega, fun h => by omega, fun h => by omega⟩
  case round =>
    obtain ⟨k, m, rfl, rfl, hk, hw, hrel⟩ := hrel
    obtain rfl := hw.symm
    have : k = 0 ∨ k = 1 ∨ k = 2 ∨ k = 3 := by omega
    rcases this with rfl | rfl | rfl | rfl
    · obtain rfl := hrel.out.1 rfl
      go_wp2_with (first | (go_at_call 8; (with_reducible refine (i1 _).mono ?_); rintro e w' ⟨rfl, hw⟩; obtain rfl := hw.symm))
      go_roundw
      case rel => exact ⟨1, g1, by rw [z1.out]; go_num, rfl, by omega, by trivial, fun h => by omega, fun _ => rfl, fun h => by omega, fun h => by omega⟩
      case measure => simp [intOf]
    · obtain rfl := hrel.out.2.1 rfl
      go_wp2_with (first | (go_at_call 8; (with_reducible refine (i2 _).mono ?_); rintro e w' ⟨rfl, hw⟩; obtain rfl := hw.symm))
      go_roundw
      case rel => exact ⟨2, g2, by rw [z2.out]; go_num, rfl, by omega, by trivial, fun h => by omega, fun h => by omega, fun _ => rfl, fun h => by omega⟩
      case measure => simp [intOf]
    · obtain rfl := hrel.out.2.2.1 rfl
      go_wp2_with (first | (go_at_call 8; (with_reducible refine (i3 _).mono ?_); rintro e w' ⟨rfl, hw⟩; obtain rfl := hw.symm))
      go_roundw
      case rel => exact ⟨3, g3, by rw [z3.out]; go_num, rfl, by omega, by trivial, fun h => by omega, fun h => by omega, fun h => by omega, fun _ => rfl⟩
      case measure => simp [intOf]
    · obtain rfl := hrel.out.2.2.2 rfl
      go_wp2_with (first | (go_at_call 8; (with_reducible refine (i4 _).mono ?_); rintro e w' ⟨rfl, hw⟩; obtain rfl := hw.symm))
      go_ret
      exact ⟨by rw [z4.out]; go_num, rfl⟩

theorem isB_any (x : Int) (w : World) : Calls Tryd.prog 9 #[.int .i64 x] w fun e w' => e = .returned (.bool (decide (inP x 0 255))) ∧ w' = w := by
  go_enter Tryd.func9, Tryd.ntmps9
  by_cases h : 0 ≤ x
  · by_cases h1 : x < 256
    · go_wp2
      go_ret
      exact ⟨by simp; omega, rfl⟩
    · go_wp2
      go_ret
      exact ⟨by simp; omega, rfl⟩
  · go_wp2
    go_ret
    exact ⟨by simp; omega, rfl⟩

set_option maxHeartbeats 2000000 in
theorem iUn_yes {x : Nat} (h : x < 256) {w : World} (hs : Hms w) : Calls Tryd.prog 7 #[.int .i64 (x : Int)] w fun e w' => e = .returned (.tuple #[.int .i64 (unF x 16).1, .int .i64 (unF x 16).2]) ∧ w' = w := by
  have i1 := isB_any (x : Int)
  rw [decide_eq_true (by omega)] at i1
  obtain ⟨A, B, hAB⟩ : ∃ A B, unF x 16 = (A, B) := ⟨_, _, rfl⟩
  rw [hAB]
  have HAB : Hid (unF x (16 - 0) = (A, B)) := hAB
  clear hAB
  go_enter Tryd.func7, Tryd.ntmps7
  go_wp2_with (first | (go_at_call 9; (with_reducible refine (i1 _).mono ?_); rintro e w' ⟨rfl, hw⟩; obtain rfl := hw.symm))
  clear i1
  go_loopw [4, 5, 9] (fun _ _ kv wr => ∃ k : Nat, kv = .int .i64 (k : Int) ∧ k ≤ 16 ∧ wr = w ∧ Hid (unF x (16 - k) = (A, B))) (fun _ _ kv _ => 16 - (intOf kv).toNat)
  case atStart => exact ⟨0, rfl, by omega, rfl, HAB.out⟩
  case round =>
    obtain ⟨k, rfl, hk, hw, hrel⟩ := hrel
    obtain rfl := hw.symm
    by_cases hk2 : k < 16
    · have j1 := iHam_yes hk2 hs
      have q1 := (hm_eq ⟨k, hk2⟩).2.2.1
      simp only at q1
      have hx : hm k ^^^ x < 256 := Nat.xor_lt_two_pow (n := 8) q1 h
      have j2 := ones_any (hm k ^^^ x) hx
      have e2 : bits .xor .i64 (x : Int) ((hm k : Nat) : Int) = ((hm k ^^^ x : Nat) : Int) := by rw [xor_nat (by omega) (by omega), Nat.xor_comm]
      have e3 : IntKind.u64.wrap ((hm k ^^^ x : Nat) : Int) = ((hm k ^^^ x : Nat) : Int) := u64w (by omega)
      have hle := ones_le (hm k ^^^ x)
      by_cases h1 : ones (hm k ^^^ x) ≤ 1
      · have R : Hid _ := hrel.out.symm.trans (unF_yes hk2 h1)
        generalize ones (hm k ^^^ x) = o at *
        generalize (hm k ^^^ x) = y at *
        generalize hm k = z at *
        have R1 : Hid (A = (k : Int)) := congrArg Prod.fst R.out
        have R2 : Hid (B = (o : Int)) := congrArg Prod.snd R.out
        clear hrel R HAB
        go_wp2_with (first | (go_at_call 6; (with_reducible refine (j1).mono ?_); rintro e w' ⟨rfl, hw⟩; obtain rfl := hw.symm) | (go_at_call 10; (with_reducible refine (j2 _).mono ?_); rintro e w' ⟨rfl, hw⟩; obtain rfl := hw.symm))
        go_ret2
        exact ⟨by rw [R1.out, R2.out]; rfl, rfl⟩
      · have R : Hid (unF x (16 - (k + 1)) = (A, B)) := (unF_no hk2 h1).symm.trans hrel.out
        generalize ones (hm k ^^^ x) = o at *
        generalize (hm k ^^^ x) = y at *
        generalize hm k = z at *
        clear hrel HAB
        go_wp2_with (first | (go_at_call 6; (with_reducible refine (j1).mono ?_); rintro e w' ⟨rfl, hw⟩; obtain rfl := hw.symm) | (go_at_call 10; (with_reducible refine (j2 _).mono ?_); rintro e w' ⟨rfl, hw⟩; obtain rfl := hw.symm))
        go_roundw
        case rel => exact ⟨k + 1, by go_num, by omega, by trivial, R.out⟩
        case measure => simp [intOf]; omega
    · obtain rfl : k = 16 := by omega
      have R : Hid ((A, B) = (-1, 2)) := hrel.out.symm
      have R1 : Hid (A = -1) := congrArg Prod.fst R.out
      have R2 : Hid (B = 2) := congrArg Prod.snd R.out
      clear hrel R HAB
      go_wp2
      go_ret2
      exact ⟨by rw [R1.out, R2.out]; rfl, rfl⟩

theorem iUn_no {x : Int} (h : ¬ inP x 0 255) (w : World) : Calls Tryd.prog 7 #[.int .i64 x] w fun e w' => e = .returned (.tuple #[.int .i64 (-1), .int .i64 2]) ∧ w' = w := by
  have i1 := isB_any x
  rw [decide_eq_false h] at i1
  clear h
  go_enter Tryd.func7, Tryd.ntmps7
  go_wp2_with (first | (go_at_call 9; (with_reducible refine (i1 _).mono ?_); rintro e w' ⟨rfl, hw⟩; obtain rfl := hw.symm))
  go_ret2
  exact ⟨rfl, rfl⟩
end Go.Proofs.YtpiemjabmipldaaDoor
