/- VA1 VA2 VB0 VW1 VI1 VB1 VC1 VAP. -/
import Derived.Test.YtddbekacdfohpaaGreatDoorRows
import Derived.WalkKit
import Derived.WalkSpells
import Derived.WalkLawsBesides
import Derived.Deep.QuietTactic
import Derived.BigQuiet
import Derived.Laws.OwnMore
import Derived.Deep.Cut
import Derived.Laws.BitsAllLaws
import Derived.RegionTactic
import Derived.Laws.AppendOwn
namespace Go.Proofs.YtddbekacdfohpaaGreatDoor.Wv
open Go.RowKit

theorem tdiv_neg {a b : Int} (hb : 1 ≤ b) (h : a.tmod b < 0) : a.tdiv b - 1 = a / b ∧ a.tmod b + b = a % b := by
  have e := Int.mul_tdiv_add_tmod a b
  have h1 := Int.tmod_lt_of_pos a (show 0 < b by omega)
  have h2 := Int.lt_tmod_of_pos a (show 0 < b by omega)
  have := (Int.ediv_emod_unique (a := a) (b := b) (r := a.tmod b + b) (q := a.tdiv b - 1) (by omega)).2 ⟨by rw [Int.mul_sub]; omega, by omega, by omega⟩
  exact ⟨this.1.symm, this.2.symm⟩

theorem tdiv_pos {a b : Int} (hb : 1 ≤ b) (h : ¬ a.tmod b < 0) : a.tdiv b = a / b ∧ a.tmod b = a % b := by
  have e := Int.mul_tdiv_add_tmod a b
  have h1 := Int.tmod_lt_of_pos a (show 0 < b by omega)
  have := (Int.ediv_emod_unique (a := a) (b := b) (r := a.tmod b) (q := a.tdiv b) (by omega)).2 ⟨by omega, by omega, by omega⟩
  exact ⟨this.1.symm, this.2.symm⟩

/-- A quotient is not beyond what is divided. -/
theorem ediv_bounds {a b M : Int} (hb : 1 ≤ b) (h0 : -M ≤ a) (h1 : a ≤ M) (hM : 0 ≤ M) : -M ≤ a / b ∧ a / b ≤ M := by
  have e := Int.mul_ediv_add_emod a b
  have r0 := Int.emod_nonneg a (show b ≠ 0 by omega)
  have r1 := Int.emod_lt_of_pos a (show 0 < b by omega)
  by_cases h : 0 ≤ a / b
  · have := Int.mul_nonneg (show 0 ≤ b - 1 by omega) h
    have e2 : (b - 1) * (a / b) = b * (a / b) - a / b := by grind
    omega
  · have := Int.mul_nonpos_of_nonneg_of_nonpos (show 0 ≤ b - 1 by omega) (show a / b + 1 ≤ 0 by omega)
    have e2 : (b - 1) * (a / b + 1) = b * (a / b) + b - a / b - 1 := by grind
    omega

theorem tdiv_bounds {a b M : Int} (hb : 1 ≤ b) (h0 : -M ≤ a) (h1 : a ≤ M) (hM : 0 ≤ M) : -M ≤ a.tdiv b ∧ a.tdiv b ≤ M + 1 := by
  have := ediv_bounds hb h0 h1 hM
  by_cases h : a.tmod b < 0
  · have := (tdiv_neg hb h).1
    omega
  · have := (tdiv_pos hb h).1
    omega

theorem in_any (x lo hi : Int) (w : World) : Calls Tryz.prog 22 #[.int .i64 x, .int .i64 lo, .int .i64 hi] w fun e w' => e = .returned (.bool (decide (lo ≤ x ∧ x ≤ hi))) ∧ w' = w := by
  go_enter Tryz.func22, Tryz.ntmps22
  by_cases h : lo ≤ x
  · by_cases h1 : x ≤ hi
    · go_wp2
      go_ret
      exact ⟨by simp [h, h1], rfl⟩
    · go_wp2
      go_ret
      exact ⟨by simp [h1], rfl⟩
  · go_wp2
    go_ret
    exact ⟨by simp; omega, rfl⟩

theorem big_any (x : Int) (w : World) : Calls Tryz.prog 119 #[.int .i64 x] w fun e w' => e = .returned (.bool (decide (-4000000000000000000 ≤ x ∧ x ≤ 4000000000000000000))) ∧ w' = w := by
  go_enter Tryz.func119, Tryz.ntmps119
  by_cases h : -4000000000000000000 ≤ x
  · by_cases h1 : x ≤ 4000000000000000000
    · go_wp2
      go_ret
      exact ⟨by simp [h, h1], rfl⟩
    · go_wp2
      go_ret
      exact ⟨by simp [h1], rfl⟩
  · go_wp2
    go_ret
    exact ⟨by simp; omega, rfl⟩

theorem ret1 {x y : Int} {w w' : World} (h : x = y) (hw : w' = w) : Ending.returned (.int .i64 x) = Ending.returned (.int .i64 y) ∧ w' = w := ⟨by rw [h], hw⟩

set_option maxHeartbeats 1000000 in
theorem floor_any (a b : Int) (ha : -4000000000000000000 ≤ a ∧ a ≤ 4000000000000000000) (hb : 1 ≤ b ∧ b ≤ 4000000000000000000) (w : World) : Calls Tryz.prog 120 #[.int .i64 a, .int .i64 b] w fun e w' => e = .returned (.int .i64 (a / b)) ∧ w' = w := by
  have hd := tdiv_bounds hb.1 ha.1 ha.2 (by decide)
  by_cases h : a.tmod b < 0
  · have E : Hid _ := (tdiv_neg hb.1 h).1
    go_enter Tryz.func120, Tryz.ntmps120
    go_wp2
    go_ret
    exact ret1 E.out rfl
  · have E : Hid _ := (tdiv_pos hb.1 h).1
    go_enter Tryz.func120, Tryz.ntmps120
    go_wp2
    go_ret
    exact ret1 E.out rfl

/-- The nearest quotient, the half up. -/
def rdv (a b : Int) : Int := if b - a % b ≤ a % b then a / b + 1 else a / b

/-- What RoundDiv answers. -/
def rdV (a b : Int) : Int := if (1 ≤ b ∧ b ≤ 4000000000000000000) ∧ (-4000000000000000000 ≤ a ∧ a ≤ 4000000000000000000) then rdv a b else 0

theorem sub_emod (a b : Int) : a - a / b * b = a % b := by
  have := Int.mul_ediv_add_emod a b
  rw [Int.mul_comm]; omega

theorem rdV_up {a b : Int} (hb : 1 ≤ b ∧ b ≤ 4000000000000000000) (ha : -4000000000000000000 ≤ a ∧ a ≤ 4000000000000000000) (h : b - a % b ≤ a % b) : a / b + 1 = rdV a b := by unfold rdV rdv; rw [if_pos ⟨hb, ha⟩, if_pos h]
theorem rdV_down {a b : Int} (hb : 1 ≤ b ∧ b ≤ 4000000000000000000) (ha : -4000000000000000000 ≤ a ∧ a ≤ 4000000000000000000) (h : ¬ b - a % b ≤ a % b) : a / b = rdV a b := by unfold rdV rdv; rw [if_pos ⟨hb, ha⟩, if_neg h]

theorem rdV_no {a b : Int} (h : ¬ ((1 ≤ b ∧ b ≤ 4000000000000000000) ∧ (-4000000000000000000 ≤ a ∧ a ≤ 4000000000000000000))) : 0 = rdV a b := by unfold rdV; rw [if_neg h]

set_option maxHeartbeats 1000000 in
theorem sRound_any (a b : Int) (w : World) : Calls Tryz.prog 111 #[.int .i64 a, .int .i64 b] w fun e w' => e = .returned (.int .i64 (rdV a b)) ∧ w' = w := by
  have i1 := in_any b 1 4000000000000000000
  have i2 := in_any a (-4000000000000000000) 4000000000000000000
  by_cases hb : 1 ≤ b ∧ b ≤ 4000000000000000000
  · rw [decide_eq_true hb] at i1
    by_cases ha : -4000000000000000000 ≤ a ∧ a ≤ 4000000000000000000
    · rw [decide_eq_true ha] at i2
      have hf := floor_any a b ha hb
      have h0 := ediv_bounds hb.1 ha.1 ha.2 (by decide)
      have hr := sub_emod a b
      have r0 := Int.emod_nonneg a (show b ≠ 0 by omega)
      have r1 := Int.emod_lt_of_pos a (show 0 < b by omega)
      have hp : -9000000000000000000 ≤ a / b * b ∧ a / b * b ≤ 9000000000000000000 := by omega
      by_cases h : b - a % b ≤ a % b
      · have E : Hid _ := rdV_up hb ha h
        go_enter Tryz.func111, Tryz.ntmps111
        go_wp2_with (first | (go_at_call 22; (with_reducible refine (i1 _).mono ?_); rintro e w' ⟨rfl, hw⟩; obtain rfl := hw.symm) | (go_at_call 22; (with_reducible refine (i2 _).mono ?_); rintro e w' ⟨rfl, hw⟩; obtain rfl := hw.symm) | (go_at_call 120; (with_reducible refine (hf _).mono ?_); rintro e w' ⟨rfl, hw⟩; obtain rfl := hw.symm))
        go_ret
        exact ret1 E.out rfl
      · have E : Hid _ := rdV_down hb ha h
        go_enter Tryz.func111, Tryz.ntmps111
        go_wp2_with (first | (go_at_call 22; (with_reducible refine (i1 _).mono ?_); rintro e w' ⟨rfl, hw⟩; obtain rfl := hw.symm) | (go_at_call 22; (with_reducible refine (i2 _).mono ?_); rintro e w' ⟨rfl, hw⟩; obtain rfl := hw.symm) | (go_at_call 120; (with_reducible refine (hf _).mono ?_); rintro e w' ⟨rfl, hw⟩; obtain rfl := hw.symm))
        go_ret
        exact ret1 E.out rfl
    · have E : Hid (0 = rdV a b) := rdV_no (fun h => ha h.2)
      rw [decide_eq_false ha] at i2
      clear ha
      go_enter Tryz.func111, Tryz.ntmps111
      go_wp2_with (first | (go_at_call 22; (with_reducible refine (i1 _).mono ?_); rintro e w' ⟨rfl, hw⟩; obtain rfl := hw.symm) | (go_at_call 22; (with_reducible refine (i2 _).mono ?_); rintro e w' ⟨rfl, hw⟩; obtain rfl := hw.symm) | (go_at_call 120; (with_reducible refine (hf _).mono ?_); rintro e w' ⟨rfl, hw⟩; obtain rfl := hw.symm))
      go_ret
      exact ret1 E.out rfl
  · have E : Hid (0 = rdV a b) := rdV_no (fun h => hb h.1)
    rw [decide_eq_false hb] at i1
    clear hb
    go_enter Tryz.func111, Tryz.ntmps111
    go_wp2_with (first | (go_at_call 22; (with_reducible refine (i1 _).mono ?_); rintro e w' ⟨rfl, hw⟩; obtain rfl := hw.symm) | (go_at_call 22; (with_reducible refine (i2 _).mono ?_); rintro e w' ⟨rfl, hw⟩; obtain rfl := hw.symm) | (go_at_call 120; (with_reducible refine (hf _).mono ?_); rintro e w' ⟨rfl, hw⟩; obtain rfl := hw.symm))
    go_ret
    exact ret1 E.out rfl
end Go.Proofs.YtddbekacdfohpaaGreatDoor.Wv

namespace Go.Proofs.YtddbekacdfohpaaGreatDoor.Wv
open Go.RowKit

theorem ret2 {x y : Int} {w w' : World} (h : x = y) (hw : Below w.heap.size w w') : Ending.returned (.int .i64 x) = Ending.returned (.int .i64 y) ∧ Below w.heap.size w w' := ⟨by rw [h], hw⟩

set_option maxHeartbeats 1000000 in
theorem iRound_any (a b : Int) (w : World) : Calls Tryz.prog 110 #[.int .i64 a, .int .i64 b] w fun e w' => e = .returned (.int .i64 (rdV a b)) ∧ Below w.heap.size w w' := by
  have i1 := big_any b
  have i2 := big_any a
  by_cases hb0 : 1 ≤ b
  · by_cases hb : -4000000000000000000 ≤ b ∧ b ≤ 4000000000000000000
    · rw [decide_eq_true hb] at i1
      by_cases ha : -4000000000000000000 ≤ a ∧ a ≤ 4000000000000000000
      · rw [decide_eq_true ha] at i2
        have h0 := ediv_bounds hb0 ha.1 ha.2 (by decide)
        have h1 := tdiv_bounds hb0 ha.1 ha.2 (by decide)
        have t1 := Int.tmod_lt_of_pos a (show 0 < b by omega)
        have t2 := Int.lt_tmod_of_pos a (show 0 < b by omega)
        by_cases ht : a.tmod b < 0
        · have q := tdiv_neg hb0 ht
          by_cases h : b - (a.tmod b + b) ≤ a.tmod b + b
          · have E : Hid (a.tdiv b = rdV a b) := (show a.tdiv b = a / b + 1 by omega).trans (rdV_up ⟨hb0, hb.2⟩ ha (by omega))
            clear q
            go_enter Tryz.func110, Tryz.ntmps110
            go_wp2_with (first | (go_at_call 119; (with_reducible refine (i1 _).mono ?_); rintro e w' ⟨rfl, hw⟩; obtain rfl := hw.symm) | (go_at_call 119; (with_reducible refine (i2 _).mono ?_); rintro e w' ⟨rfl, hw⟩; obtain rfl := hw.symm) | go_quiet (fail))
            go_ret
            exact ret2 E.out (below_drewN (Below.refl _ _) _)
          · have E : Hid (a.tdiv b - 1 = rdV a b) := q.1.trans (rdV_down ⟨hb0, hb.2⟩ ha (by omega))
            clear q
            go_enter Tryz.func110, Tryz.ntmps110
            go_wp2_with (first | (go_at_call 119; (with_reducible refine (i1 _).mono ?_); rintro e w' ⟨rfl, hw⟩; obtain rfl := hw.symm) | (go_at_call 119; (with_reducible refine (i2 _).mono ?_); rintro e w' ⟨rfl, hw⟩; obtain rfl := hw.symm) | go_quiet (fail))
            go_ret
            exact ret2 E.out (below_drewN (Below.refl _ _) _)
        · have q := tdiv_pos hb0 ht
          by_cases h : b - a.tmod b ≤ a.tmod b
          · have E : Hid (a.tdiv b + 1 = rdV a b) := (show a.tdiv b + 1 = a / b + 1 by omega).trans (rdV_up ⟨hb0, hb.2⟩ ha (by omega))
            clear q
            go_enter Tryz.func110, Tryz.ntmps110
            go_wp2_with (first | (go_at_call 119; (with_reducible refine (i1 _).mono ?_); rintro e w' ⟨rfl, hw⟩; obtain rfl := hw.symm) | (go_at_call 119; (with_reducible refine (i2 _).mono ?_); rintro e w' ⟨rfl, hw⟩; obtain rfl := hw.symm) | go_quiet (fail))
            go_ret
            exact ret2 E.out (below_drewN (Below.refl _ _) _)
          · have E : Hid (a.tdiv b = rdV a b) := q.1.trans (rdV_down ⟨hb0, hb.2⟩ ha (by omega))
            clear q
            go_enter Tryz.func110, Tryz.ntmps110
            go_wp2_with (first | (go_at_call 119; (with_reducible refine (i1 _).mono ?_); rintro e w' ⟨rfl, hw⟩; obtain rfl := hw.symm) | (go_at_call 119; (with_reducible refine (i2 _).mono ?_); rintro e w' ⟨rfl, hw⟩; obtain rfl := hw.symm) | go_quiet (fail))
            go_ret
            exact ret2 E.out (below_drewN (Below.refl _ _) _)
      · have E : Hid (0 = rdV a b) := rdV_no (fun h => ha h.2)
        rw [decide_eq_false ha] at i2
        clear ha
        go_enter Tryz.func110, Tryz.ntmps110
        go_wp2_with (first | (go_at_call 119; (with_reducible refine (i1 _).mono ?_); rintro e w' ⟨rfl, hw⟩; obtain rfl := hw.symm) | (go_at_call 119; (with_reducible refine (i2 _).mono ?_); rintro e w' ⟨rfl, hw⟩; obtain rfl := hw.symm) | go_quiet (fail))
        go_ret
        exact ret2 E.out (Below.refl _ _)
    · have E : Hid (0 = rdV a b) := rdV_no (fun h => hb ⟨by omega, h.1.2⟩)
      rw [decide_eq_false hb] at i1
      clear hb
      go_enter Tryz.func110, Tryz.ntmps110
      go_wp2_with (first | (go_at_call 119; (with_reducible refine (i1 _).mono ?_); rintro e w' ⟨rfl, hw⟩; obtain rfl := hw.symm) | (go_at_call 119; (with_reducible refine (i2 _).mono ?_); rintro e w' ⟨rfl, hw⟩; obtain rfl := hw.symm) | go_quiet (fail))
      go_ret
      exact ret2 E.out (Below.refl _ _)
  · have E : Hid (0 = rdV a b) := rdV_no (fun h => hb0 h.1.1)
    go_enter Tryz.func110, Tryz.ntmps110
    go_wp2
    go_ret
    exact ret2 E.out (Below.refl _ _)

end Go.Proofs.YtddbekacdfohpaaGreatDoor.Wv

namespace Go.Proofs.YtddbekacdfohpaaGreatDoor.Wv
open Go.RowKit

theorem below_one (w : World) (o : Obj) : Below w.heap.size w (w.alloc o) := (Below.refl _ _).alloc (Nat.le_refl _) _

theorem bstep {w w1 w2 : World} (h1 : Below w.heap.size w w1) (h2 : Below w1.heap.size w1 w2) : Below w.heap.size w w2 := h1.trans (h2.mono h1.size)

/-- The slice holds the n ints xs. -/
def Il (w : World) (v : Value) (n : Nat) (xs : Nat → Int) : Prop := ∃ ao cap, v = .slice ao n cap ∧ n ≤ cap ∧ (0 < n → ∃ b off, ao = some ⟨b, off, none⟩ ∧ b < w.heap.size ∧ ∀ k, k < n → w.cell? ⟨b, off + k, none⟩ = some (.int .i64 (xs k)))

theorem Il.below {w w' : World} {v : Value} {n : Nat} {xs : Nat → Int} (h : Il w v n xs) (hb : Below w.heap.size w w') : Il w' v n xs := by
  obtain ⟨ao, cap, rfl, hcap, hc⟩ := h
  refine ⟨ao, cap, rfl, hcap, fun h0 => ?_⟩
  obtain ⟨b, off, rfl, hlt, hcell⟩ := hc h0
  exact ⟨b, off, rfl, Nat.lt_of_lt_of_le hlt hb.size, fun k hk => (hb.cell (p := ⟨b, off + k, none⟩) hlt).trans (hcell k hk)⟩

/-- The first k ints, as cells. -/
def ils (xs : Nat → Int) (k : Nat) : List Value := (List.range k).map fun i => .int .i64 (xs i)

theorem ils_length (xs : Nat → Int) (k : Nat) : (ils xs k).length = k := by simp [ils]

theorem ils_get {xs : Nat → Int} {n k : Nat} (h : k < n) : (ils xs n)[k]? = some (.int .i64 (xs k)) := by simp [ils, h]

theorem ils_snoc (xs : Nat → Int) (k : Nat) : ils xs (k + 1) = ils xs k ++ [.int .i64 (xs k)] := by simp [ils, List.range_succ]

theorem ils_set (xs : Nat → Int) (k : Nat) (L : List Value) (hk : k < L.length) : (ils xs k ++ L.drop k).set k (.int .i64 (xs k)) = ils xs (k + 1) ++ L.drop (k + 1) := by
  rw [List.set_append_right _ _ (by rw [ils_length]; exact Nat.le_refl _), ils_length, Nat.sub_self, List.drop_eq_getElem_cons hk, List.set_cons_zero, ils_snoc, List.append_assoc]
  rfl

theorem Tryz.info3 : (Tryz.prog.info? 3).map (fun i => (i.zero, i.size, i.bytes)) = some (some (.int .i64 0), 1, 8) := by kernel_rfl

theorem info_parts {o : Option TypeInfo} {z : Value} {s b : Nat} (h : o.map (fun i => (i.zero, i.size, i.bytes)) = some (some z, s, b)) : ∃ i, o = some i ∧ i.zero = some z ∧ i.size = s ∧ i.bytes = b := by
  cases o with
  | none => cases h
  | some i =>
    simp only [Option.map_some, Option.some.injEq, Prod.mk.injEq] at h
    exact ⟨i, rfl, h.1, h.2.1, h.2.2⟩

theorem il_of_own {w : World} {B n : Nat} {v : Value} {xs : Nat → Int} (h : w.ownsRow B 3 1 v n (ils xs n)) : Il w v n xs := by
  rcases h.2 with ⟨rfl, rfl⟩ | ⟨g, cap, cur, rfl, hb, hg, hc, _⟩
  · exact ⟨none, 0, rfl, Nat.le_refl _, fun h => absurd h (by omega)⟩
  · refine ⟨_, _, rfl, hc, fun h0 => ⟨g, 0, rfl, (Array.getElem?_eq_some_iff.1 hg).1, fun k hk => ?_⟩⟩
    rw [Nat.zero_add, World.ownsRow.cellAt h k (by omega), ils_get hk]

end Go.Proofs.YtddbekacdfohpaaGreatDoor.Wv

namespace Go.Proofs.YtddbekacdfohpaaGreatDoor.Wv
open Go.RowKit

/-- The cosines of the first quarter. -/
def cosL : List Int := [1073741824, 1073418433, 1072448455, 1070832474, 1068571463, 1065666784, 1062120187, 1057933808, 1053110169, 1047652176, 1041563116, 1034846657, 1027506845, 1019548101, 1010975219, 1001793363, 992008064, 981625216, 970651074, 959092248, 946955701, 934248743, 920979028, 907154550, 892783636, 877874942, 862437449, 846480456, 830013575, 813046725, 795590126, 777654293, 759250030, 740388423, 721080834, 701338893, 681174492, 660599777, 639627141, 618269217, 596538871, 574449192, 552013486, 529245268, 506158252, 482766345, 459083638, 435124396, 410903051, 386434193, 361732561, 336813035, 311690625, 286380464, 260897798, 235257977, 209476445, 183568732, 157550444, 131437253, 105244889, 78989129, 52685789, 26350713, 0]

def ct (k : Nat) : Int := cosL.getD k 0

/-- The one before, the wave being even. -/
def pv (k : Nat) : Int := if k = 0 then ct 1 else ct (k - 1)

theorem ct_bounds (k : Nat) : 0 ≤ ct k ∧ ct k ≤ 1073741824 := by
  by_cases h : k < 65
  · have : ∀ k : Fin 65, 0 ≤ ct k.val ∧ ct k.val ≤ 1073741824 := by decide +kernel
    exact this ⟨k, h⟩
  · have : ct k = 0 := by
      unfold ct
      rw [List.getD_eq_getElem?_getD, List.getElem?_eq_none (by show 65 ≤ k; omega)]
      rfl
    omega

theorem ct_step {j : Nat} (h : j < 63) : rdV (2146836866 * ct j) 1073741824 - pv j = ct (j + 1) := by
  have : ∀ k : Fin 63, rdV (2146836866 * ct k.val) 1073741824 - pv k.val = ct (k.val + 1) := by decide +kernel
  exact this ⟨j, h⟩

theorem rd_bounds {j : Nat} (h : j < 63) : -2147483648 ≤ rdV (2146836866 * ct j) 1073741824 ∧ rdV (2146836866 * ct j) 1073741824 ≤ 4294967296 := by
  have : ∀ k : Fin 63, -2147483648 ≤ rdV (2146836866 * ct k.val) 1073741824 ∧ rdV (2146836866 * ct k.val) 1073741824 ≤ 4294967296 := by decide +kernel
  exact this ⟨j, h⟩

theorem pv_bounds (k : Nat) : 0 ≤ pv k ∧ pv k ≤ 1073741824 := by
  unfold pv
  split <;> exact ct_bounds _

theorem pv_succ (k : Nat) : pv (k + 1) = ct k := by unfold pv; rw [if_neg (by omega)]; rfl

theorem ct_end : ct 64 = 0 := by decide +kernel
theorem ct_0 : ct 0 = 1073741824 := by decide +kernel
theorem pv_0 : pv 0 = 1073418433 := by decide +kernel

/-- A place on the circle. -/
def cosr (r : Int) : Int := if r ≤ 64 then ct r.toNat else if r ≤ 128 then -ct (128 - r).toNat else if r ≤ 192 then -ct (r - 128).toNat else ct (256 - r).toNat

/-- The cosine of a step. -/
def cosv (s : Int) : Int := cosr (s % 256)

theorem cosv_bounds (s : Int) : -1073741824 ≤ cosv s ∧ cosv s ≤ 1073741824 := by
  have h1 := ct_bounds (s % 256).toNat
  have h2 := ct_bounds (128 - s % 256).toNat
  have h3 := ct_bounds (s % 256 - 128).toNat
  have h4 := ct_bounds (256 - s % 256).toNat
  unfold cosv cosr
  split
  · omega
  · split
    · omega
    · split <;> omega

theorem cosv_congr {s t : Int} (h : s % 256 = t % 256) : cosv s = cosv t := by unfold cosv; rw [h]

theorem ofInt_mod (x : Int) : (BitVec.ofInt 64 x).toNat = (x % 18446744073709551616).toNat := by
  rw [BitVec.toNat_ofInt]
  rfl

theorem mask255 (x : Int) : bits .and .i64 x 255 = x % 256 := by
  show IntKind.i64.wrap ((BitVec.ofInt 64 x &&& BitVec.ofInt 64 255).toNat : Int) = _
  have e : (BitVec.ofInt 64 255).toNat = 255 := by decide +kernel
  rw [BitVec.toNat_and, e, nat_mask8, ofInt_mod]
  have h := Nat.mod_lt (x % 18446744073709551616).toNat (show 256 > 0 by decide)
  have h2 : (((x % 18446744073709551616).toNat % 256 : Nat) : Int) = x % 256 := by omega
  rw [h2]
  simp [IntKind.wrap, IntKind.bits, IntKind.signed]
  omega

theorem onCircle_any (s : Int) (w : World) : Calls Tryz.prog 98 #[.int .i64 s] w fun e w' => e = .returned (.int .i64 (s % 256)) ∧ w' = w := by
  have hm := mask255 s
  go_enter Tryz.func98, Tryz.ntmps98
  go_wp2
  go_ret
  exact ⟨by first | rfl | rw [hm] | simp, rfl⟩

set_option maxHeartbeats 1000000 in
theorem ruled_any {k : Nat} (hk : k ≤ 64) (w : World) : Calls Tryz.prog 97 #[.int .i64 k] w fun e w' => e = .returned (.int .i64 (ct k)) ∧ Below w.heap.size w w' := by
  by_cases h64 : k = 64
  · subst h64
    show Calls Tryz.prog 97 #[.int .i64 64] w _
    go_enter Tryz.func97, Tryz.ntmps97
    go_wp2
    go_ret
    exact ⟨by rw [ct_end]; rfl, Below.refl _ _⟩
  · have hb64 : ((k : Int) == 64) = false := by rw [beq_eq_false_iff_ne]; omega
    go_enter Tryz.func97, Tryz.ntmps97
    go_wp2
    go_loopw [3, 4, 8] (fun b h i wr => ∃ j : Nat, i = .int .i64 j ∧ b = .int .i64 (pv j) ∧ h = .int .i64 (ct j) ∧ j ≤ k ∧ Hid (Below w.heap.size w wr)) (fun _ _ i _ => k - (intOf i).toNat)
    case atStart => exact ⟨0, rfl, by rw [pv_0], by rw [ct_0], by omega, Below.refl _ _⟩
    case round =>
      obtain ⟨j, rfl, rfl, rfl, hj, hrel⟩ := hrel
      by_cases h1 : j < k
      · have c1 := ct_bounds j
        have c2 := pv_bounds j
        have c3 := rd_bounds (show j < 63 by omega)
        have e1 := ct_step (show j < 63 by omega)
        have i1 := iRound_any (2146836866 * ct j) 1073741824
        generalize rdV (2146836866 * ct j) 1073741824 = R at c3 e1 i1
        have E1 : Hid (R - pv j = ct (j + 1)) := e1
        clear e1
        go_wp2_with (first | (go_at_call 110; (with_reducible refine (i1 _).mono ?_); rintro e w1 ⟨rfl, hb1⟩))
        go_roundw
        case rel => exact ⟨j + 1, by go_num, by rw [pv_succ], by rw [E1.out], by omega, bstep hrel.out hb1⟩
        case measure => simp [intOf]; omega
      · obtain rfl : j = k := by omega
        go_wp2
        go_ret
        exact ⟨rfl, hrel.out⟩

set_option maxRecDepth 20000 in
set_option maxHeartbeats 1000000 in
theorem mirrored_any (s : Int) (w : World) : Calls Tryz.prog 96 #[.int .i64 s, .func (.func 97) #[] #[]] w fun e w' => e = .returned (.int .i64 (cosv s)) ∧ Below w.heap.size w w' := by
  have i1 := onCircle_any s
  have r0 := Int.emod_nonneg s (show (256 : Int) ≠ 0 by decide)
  have r1 := Int.emod_lt_of_pos s (show (0 : Int) < 256 by decide)
  have hv : cosv s = cosr (s % 256) := rfl
  rw [hv]
  clear hv
  generalize s % 256 = r at i1 r0 r1 ⊢
  obtain ⟨n, rfl⟩ := Int.eq_ofNat_of_zero_le r0
  clear r0
  obtain ⟨y, hy⟩ : ∃ y, y = cosr (n : Int) := ⟨_, rfl⟩
  rw [← hy]
  have HY : Hid (y = cosr (n : Int)) := hy
  clear hy
  by_cases h1 : n ≤ 64
  · have i2 := ruled_any h1
    obtain ⟨x, hx⟩ : ∃ x, x = ct n := ⟨_, rfl⟩
    have E : Hid (x = y) := by rw [HY.out, hx]; unfold cosr; rw [if_pos (by omega)]; rfl
    rw [← hx] at i2
    clear hx
    go_enter Tryz.func96, Tryz.ntmps96
    go_wp2_with (first | (go_at_call 98; (with_reducible refine (i1 _).mono ?_); rintro e w' ⟨rfl, hw⟩; obtain rfl := hw.symm) | (go_at_call 97; (with_reducible refine (i2 _).mono ?_); rintro e w1 ⟨rfl, hb1⟩))
    go_ret
    exact ret2 E.out hb1
  · by_cases h2 : n ≤ 128
    · have i2 := ruled_any (show 128 - n ≤ 64 by omega)
      have e2 : ((128 - n : Nat) : Int) = 128 - (n : Int) := by omega
      rw [e2] at i2
      have c1 := ct_bounds (128 - n)
      obtain ⟨x, hx⟩ : ∃ x, x = ct (128 - n) := ⟨_, rfl⟩
      have E : Hid (-x = y) := by rw [HY.out, hx]; unfold cosr; rw [if_neg (by omega), if_pos (by omega)]; congr 2; omega
      rw [← hx] at i2 c1
      clear hx
      go_enter Tryz.func96, Tryz.ntmps96
      go_wp2_with (first | (go_at_call 98; (with_reducible refine (i1 _).mono ?_); rintro e w' ⟨rfl, hw⟩; obtain rfl := hw.symm) | (go_at_call 97; (with_reducible refine (i2 _).mono ?_); rintro e w1 ⟨rfl, hb1⟩))
      go_ret
      exact ret2 E.out hb1
    · by_cases h3 : n ≤ 192
      · have i2 := ruled_any (show n - 128 ≤ 64 by omega)
        have e2 : ((n - 128 : Nat) : Int) = (n : Int) - 128 := by omega
        rw [e2] at i2
        have c1 := ct_bounds (n - 128)
        obtain ⟨x, hx⟩ : ∃ x, x = ct (n - 128) := ⟨_, rfl⟩
        have E : Hid (-x = y) := by rw [HY.out, hx]; unfold cosr; rw [if_neg (by omega), if_neg (by omega), if_pos (by omega)]; congr 2; omega
        rw [← hx] at i2 c1
        clear hx
        go_enter Tryz.func96, Tryz.ntmps96
        go_wp2_with (first | (go_at_call 98; (with_reducible refine (i1 _).mono ?_); rintro e w' ⟨rfl, hw⟩; obtain rfl := hw.symm) | (go_at_call 97; (with_reducible refine (i2 _).mono ?_); rintro e w1 ⟨rfl, hb1⟩))
        go_ret
        exact ret2 E.out hb1
      · have i2 := ruled_any (show 256 - n ≤ 64 by omega)
        have e2 : ((256 - n : Nat) : Int) = 256 - (n : Int) := by omega
        rw [e2] at i2
        obtain ⟨x, hx⟩ : ∃ x, x = ct (256 - n) := ⟨_, rfl⟩
        have E : Hid (x = y) := by rw [HY.out, hx]; unfold cosr; rw [if_neg (by omega), if_neg (by omega), if_neg (by omega)]; congr 1; omega
        rw [← hx] at i2
        clear hx
        go_enter Tryz.func96, Tryz.ntmps96
        go_wp2_with (first | (go_at_call 98; (with_reducible refine (i1 _).mono ?_); rintro e w' ⟨rfl, hw⟩; obtain rfl := hw.symm) | (go_at_call 97; (with_reducible refine (i2 _).mono ?_); rintro e w1 ⟨rfl, hb1⟩))
        go_ret
        exact ret2 E.out hb1

theorem iCos_any (s : Int) (w : World) : Calls Tryz.prog 74 #[.int .i64 s] w fun e w' => e = .returned (.int .i64 (cosv s)) ∧ Below w.heap.size w w' := by
  have i1 := mirrored_any s
  go_enter Tryz.func74, Tryz.ntmps74
  go_wp2_with (first | (go_at_call 96; (with_reducible refine (i1 _).mono ?_); rintro e w1 ⟨rfl, hb1⟩))
  go_ret
  exact ⟨rfl, hb1⟩

/-- The sine. -/
def sinv (s : Int) : Int := cosv (s - 64)

theorem sinv_bounds (s : Int) : -1073741824 ≤ sinv s ∧ sinv s ≤ 1073741824 := cosv_bounds _

theorem iSin_any (s : Int) (w : World) : Calls Tryz.prog 75 #[.int .i64 s] w fun e w' => e = .returned (.int .i64 (sinv s)) ∧ Below w.heap.size w w' := by
  have i1 := onCircle_any s
  have i2 := iCos_any (s % 256 - 64)
  have r0 := Int.emod_nonneg s (show (256 : Int) ≠ 0 by decide)
  have r1 := Int.emod_lt_of_pos s (show (0 : Int) < 256 by decide)
  have E : cosv (s % 256 - 64) = sinv s := cosv_congr (by omega)
  rw [E] at i2
  clear E
  generalize s % 256 = r at i1 i2 r0 r1
  go_enter Tryz.func75, Tryz.ntmps75
  go_wp2_with (first | (go_at_call 98; (with_reducible refine (i1 _).mono ?_); rintro e w' ⟨rfl, hw⟩; obtain rfl := hw.symm) | (go_at_call 74; (with_reducible refine (i2 _).mono ?_); rintro e w1 ⟨rfl, hb1⟩))
  go_ret
  exact ⟨rfl, hb1⟩

end Go.Proofs.YtddbekacdfohpaaGreatDoor.Wv

namespace Go.Proofs.YtddbekacdfohpaaGreatDoor.Wv
open Go

section
variable {P : Program} {ops : Array Oper} {Q : Exit → Act → World → Prop} {md : Region.Mode} {I : World → Prop}

/-- Every order of the region ends well, and each world on the way keeps I. -/
def wpI (P : Program) (md : Region.Mode) (ops : Array Oper) (Q : Exit → Act → World → Prop) (I : World → Prop) : Nat → Array Bool → Act → World → Prop
  | 0, listed, a, w => I w ∧ Region.ready md ops listed = [] ∧ Q .normal a w
  | fuel + 1, listed, a, w => I w ∧ (Region.ready md ops listed = [] → Q .normal a w) ∧ ∀ i ∈ Region.ready md ops listed, wpOp P ops Q i (wpI P md ops Q I fuel (listed.setIfInBounds i true)) a w

theorem wpI_any : ∀ (fuel : Nat) (listed : Array Bool) (a : Act) (w : World), wpI P md ops Q I fuel listed a w → wpAny P md ops Q fuel listed a w
  | 0, _, _, _, h => h.2
  | fuel + 1, _, _, _, h => ⟨h.2.1, fun i hi => wpOp_mono (fun a w h => wpI_any fuel _ a w h) (h.2.2 i hi)⟩

/-- What an operation yields in every world that keeps I. -/
def YI (P : Program) (ops : Array Oper) (I : World → Prop) (o : Oper) (v : Value) (a : Act) : Prop :=
  Region.wanted o (yielded ops a.tmps) = true ∧ ∀ w, I w → (execOp a.eval o).run P w = .ok (.value v) w

theorem YI.wpOp {i : Nat} {o : Oper} {v : Value} {a : Act} (hi : ops[i]? = some o) (hy : YI P ops I o v a) {K : Act → World → Prop} {w : World} (hI : I w) (h : K (a.put o.dst v) w) : wpOp P ops Q i K a w := by
  unfold Go.wpOp
  simp only [hi]
  simp only [hy.1, if_true, Oper.wp, hy.2 w hI, Oper.upon]
  exact .inl h

theorem YI.of_same {o : Oper} {v : Value} {a a' : Act} (hy : YI P ops I o v a) (he : execOp a'.eval o = execOp a.eval o) (hw : Region.wanted o (yielded ops a'.tmps) = Region.wanted o (yielded ops a.tmps)) : YI P ops I o v a' := by
  unfold YI at *
  rw [he, hw]
  exact hy

theorem wpOp_putI {j : Nat} {oi oj : Oper} {v : Value} (hj : ops[j]? = some oj) (hap : oi.apart ops oj = true) (hsi : ∀ cs b, oi.op ≠ .select cs b) (hsj : ∀ cs b, oj.op ≠ .select cs b)
    (hQ : ∀ c a w, Q (.panic c) (a.put oi.dst v) w → Q (.panic c) a w) {K : Act → World → Prop} {a : Act} {w : World} (hy : YI P ops I oi v a) (h : wpOp P ops Q j K (a.put oi.dst v) w) :
    wpOp P ops Q j (fun a' w' => YI P ops I oi v a' ∧ K (a'.put oi.dst v) w') a w := by
  obtain ⟨h1, h2, h3⟩ := Oper.apart_spec hap
  have keep : ∀ (a : Act), YI P ops I oi v a → ∀ u, YI P ops I oi v (a.put oj.dst u) := fun a hy u => hy.of_same (execOp_put oi hsi a oj.dst u h3) (wanted_put oi a oj.dst u h3)
  have keepD : ∀ d, YI P ops I oi v { a with defers := d :: a.defers } := fun d => hy.of_same rfl rfl
  unfold wpOp at *
  simp only [hj] at *
  rw [wanted_put oj a oi.dst v h1] at h
  split
  · rename_i hw
    simp only [hw, if_true] at h
    rcases h with h | ⟨hasks, hlets⟩
    case inr => exact .inr ⟨by unfold Oper.asks at *; rw [execOp_put oj hsj a oi.dst v h1] at hasks; exact hasks, hlets⟩
    refine .inl ?_
    unfold Oper.wp at *
    rw [execOp_put oj hsj a oi.dst v h1] at h
    generalize (execOp a.eval oj).run P w = r at *
    cases r with
    | ok n w' =>
      cases n <;> simp only [Oper.upon] at h ⊢
      case value u => exact ⟨keep a hy u, by rw [← Act.put_comm a v u h2]; exact h⟩
      case skip => exact ⟨keep a hy _, by rw [← Act.put_comm a v undef h2]; exact h⟩
      case defer d =>
        refine ⟨keep _ (keepD d) _, ?_⟩
        rw [← Act.put_comm _ v undef h2, ← Act.put_defers]
        exact h
      case enter f args =>
        refine Calls.mono h fun e w'' he => ?_
        cases e with
        | returned u => exact ⟨keep a hy u, by rw [← Act.put_comm a v u h2]; exact he⟩
        | panicked c => exact hQ _ _ _ he
        | outgrown => exact he
      case row row args => exact Rows.mono h fun u w'' he => ⟨keep a hy u, by rw [← Act.put_comm a v u h2]; exact he⟩
    | halt x w' =>
      cases x <;> simp only [Oper.upon] at h ⊢
      case panic u => exact hQ _ _ _ h
  · rename_i hw
    simp only [hw] at h
    exact ⟨keep a hy _, by rw [← Act.put_comm a v undef h2]; exact h⟩

theorem wpI.keeps {fuel : Nat} {listed : Array Bool} {a : Act} {w : World} (h : wpI P md ops Q I fuel listed a w) : I w := by
  cases fuel <;> exact h.1

theorem wpI_first {i : Nat} {oi : Oper} {v : Value} (hi : ops[i]? = some oi) (hsel : ∀ (j : Nat) (o : Oper) cs b, ops[j]? = some o → o.op ≠ .select cs b)
    (hQ : ∀ c a w, Q (.panic c) (a.put oi.dst v) w → Q (.panic c) a w) :
    ∀ (fuel : Nat) (listed : Array Bool) (a : Act) (w : World),
      (∀ j oj, ops[j]? = some oj → j ≠ i → listed.getD j true = false → (∀ e ∈ oj.after, Region.binds md e = true → e.on ≠ i) → oi.apart ops oj = true) →
      i ∈ Region.ready md ops listed → YI P ops I oi v a →
      wpI P md ops Q I fuel (listed.setIfInBounds i true) (a.put oi.dst v) w → wpI P md ops Q I (fuel + 1) listed a w := by
  intro fuel
  induction fuel with
  | zero =>
    intro listed a w _ hr hy H
    refine ⟨H.1, fun h => (by rw [h] at hr; cases hr), fun j hj => ?_⟩
    by_cases hji : j = i
    · subst hji; exact hy.wpOp hi H.1 H
    · have := ready_mono hj hji
      rw [H.2.1] at this
      cases this
  | succ fuel ih =>
    intro listed a w hfree hr hy H
    refine ⟨H.1, fun h => (by rw [h] at hr; cases hr), fun j hj => ?_⟩
    by_cases hji : j = i
    · subst hji; exact hy.wpOp hi H.1 H
    · have h1 := H.2.2 j (ready_mono hj hji)
      obtain ⟨hjun, oj, hoj, hall⟩ := mem_ready.1 hj
      have hnot : ∀ e ∈ oj.after, Region.binds md e = true → e.on ≠ i := fun e he hb heq => by
        have h1 := hall e he hb
        have h0 := (mem_ready.1 hr).1
        rw [heq] at h1
        rcases Nat.lt_or_ge i listed.size with h' | h'
        · simp [h'] at h0 h1; rw [h0] at h1; cases h1
        · simp [Array.getElem?_eq_none h'] at h1
      have h2 := wpOp_putI hoj (hfree j oj hoj hji hjun hnot) (fun cs b => hsel i oi cs b hi) (fun cs b => hsel j oj cs b hoj) hQ hy h1
      have hfree' : ∀ k ok, ops[k]? = some ok → k ≠ i → (listed.setIfInBounds j true).getD k true = false →
          (∀ e ∈ ok.after, Region.binds md e = true → e.on ≠ i) → oi.apart ops ok = true := fun k ok hk hki hun hno => by
        refine hfree k ok hk hki ?_ hno
        by_cases hjk : j = k
        · subst hjk; exact hjun
        · rw [getD_set_ne true hjk] at hun; exact hun
      refine wpOp_mono (fun a' w' h3 => ih (listed.setIfInBounds j true) a' w' hfree' (ready_mono hr (Ne.symm hji)) h3.1 ?_) h2
      rw [Array.setIfInBounds_comm _ _ hji]
      exact h3.2

/-- Take operation i first. -/
theorem wpI_take {i : Nat} {oi : Oper} {v : Value} {fuel : Nat} {listed : Array Bool} {a : Act} {w : World} (hi : ops[i]? = some oi)
    (hs : Region.noSelect ops = true) (hf : Region.free md ops listed i = true) (hr : (Region.ready md ops listed).contains i = true)
    (hQ : ∀ c a w, Q (.panic c) (a.put oi.dst v) w → Q (.panic c) a w) (hy : YI P ops I oi v a)
    (h : wpI P md ops Q I fuel (listed.setIfInBounds i true) (a.put oi.dst v) w) : wpI P md ops Q I (fuel + 1) listed a w :=
  wpI_first hi (Region.noSelect_spec hs) hQ fuel listed a w (Region.free_spec hi hf) (by simpa using hr) hy h

/-- The one operation that may come up. -/
theorem wpI_only {i : Nat} {o : Oper} {fuel : Nat} {listed : Array Bool} {a : Act} {w : World} (ho : ops[i]? = some o) (hr : Region.ready md ops listed = [i]) (hI : I w)
    (hw : Region.wanted o (yielded ops a.tmps) = true) (h : ∀ K : Act → World → Prop, (∀ a w, wpI P md ops Q I fuel (listed.setIfInBounds i true) a w → K a w) → Oper.wp P o a w K Q) : wpI P md ops Q I (fuel + 1) listed a w := by
  refine ⟨hI, fun e => (by rw [hr] at e; cases e), fun j hj => ?_⟩
  rw [hr] at hj
  obtain rfl : j = i := by simpa using hj
  unfold wpOp
  simp only [ho, hw, if_true]
  exact .inl (h _ fun _ _ h => h)

/-- Two operations may come up: each of them. -/
theorem wpI_two {i j : Nat} {o o2 : Oper} {fuel : Nat} {listed : Array Bool} {a : Act} {w : World} (ho : ops[i]? = some o) (ho2 : ops[j]? = some o2) (hr : Region.ready md ops listed = [i, j]) (hI : I w)
    (hw : Region.wanted o (yielded ops a.tmps) = true) (hw2 : Region.wanted o2 (yielded ops a.tmps) = true)
    (h : ∀ K : Act → World → Prop, (∀ a w, wpI P md ops Q I fuel (listed.setIfInBounds i true) a w → K a w) → Oper.wp P o a w K Q)
    (h2 : ∀ K : Act → World → Prop, (∀ a w, wpI P md ops Q I fuel (listed.setIfInBounds j true) a w → K a w) → Oper.wp P o2 a w K Q) : wpI P md ops Q I (fuel + 1) listed a w := by
  refine ⟨hI, fun e => (by rw [hr] at e; cases e), fun k hk => ?_⟩
  rw [hr] at hk
  have hk' : k = i ∨ k = j := by simpa using hk
  rcases hk' with rfl | rfl
  · unfold wpOp
    simp only [ho, hw, if_true]
    exact .inl (h _ fun _ _ h => h)
  · unfold wpOp
    simp only [ho2, hw2, if_true]
    exact .inl (h2 _ fun _ _ h => h)

theorem wpI_done {listed : Array Bool} {a : Act} {w : World} (hI : I w) (hr : Region.ready md ops listed = []) (h : Q .normal a w) : ∀ fuel, wpI P md ops Q I fuel listed a w
  | 0 => ⟨hI, hr, h⟩
  | _ + 1 => ⟨hI, fun _ => h, fun i hi => by rw [hr] at hi; cases hi⟩
end
end Go.Proofs.YtddbekacdfohpaaGreatDoor.Wv

namespace Go.Proofs.YtddbekacdfohpaaGreatDoor.Wv
open Go.RowKit

/-- A sample. -/
abbrev Smp (x : Int) : Prop := -1000000000 ≤ x ∧ x ≤ 1000000000

/-- A signal. -/
abbrev Sig (n : Nat) (xs : Nat → Int) : Prop := n ≤ 512 ∧ ∀ k, k < n → Smp (xs k)

end Go.Proofs.YtddbekacdfohpaaGreatDoor.Wv

namespace Go.Proofs.YtddbekacdfohpaaGreatDoor.Wv
open Go.RowKit

theorem own_below {w w' : World} {B s n : Nat} {e : TypeId} {v : Value} {xs : List Value} (h : w.ownsRow B e s v n xs) (hb : Below w.heap.size w w') : w'.ownsRow B e s v n xs := by
  refine ⟨h.1, ?_⟩
  rcases h.2 with h' | ⟨g', cap', cur, h', hb', hg, rest⟩
  · exact .inl h'
  · exact .inr ⟨g', cap', cur, h', hb', (hb.block g' (Array.getElem?_eq_some_iff.1 hg).1).trans hg, rest⟩

theorem own_base {w : World} {B B' s n : Nat} {e : TypeId} {v : Value} {xs : List Value} (h : w.ownsRow B e s v n xs) (hB : B' ≤ B) : w.ownsRow B' e s v n xs := by
  refine ⟨h.1, ?_⟩
  rcases h.2 with h' | ⟨g', cap', cur, h', hb', hg, rest⟩
  · exact .inl h'
  · exact .inr ⟨g', cap', cur, h', Nat.le_trans hB hb', hg, rest⟩

theorem one_new (w : World) (v : Value) (t : TypeId) : ∀ j u, [v][j]? = some u → (w.alloc (.cells #[v] t)).cell? ((⟨w.heap.size, 0, none⟩ : Addr).add j) = some u := by
  intro j u h
  match j, h with
  | 0, h => simp at h; subst h; simp [Addr.add]
  | n + 1, h => simp at h

theorem own_empty (w : World) (t : TypeId) (s : Nat) : (w.alloc (.cells #[] t)).ownsRow w.heap.size t s (.slice (some ⟨w.heap.size, 0, none⟩) 0 0) 0 [] :=
  ⟨by simp, .inr ⟨w.heap.size, 0, #[], rfl, Nat.le_refl _, heap_alloc_new w _, Nat.le_refl _, by decide, by simp, by simp⟩⟩

theorem grown_below {w W w3 : World} {B s n : Nat} {e : TypeId} {v : Value} {xs : List Value} (h : Below B w W) (hB : B ≤ w.heap.size) (ho : W.ownsRow B e s v n xs) (hg : W.grownBy w3 v.ownBlock) : Below B w w3 :=
  h.grown hg (Nat.le_trans hB h.size) (fun k hk => (World.ownsRow.lt ho k hk).1)

theorem ils_put (f : Nat → Int) (n j : Nat) (y : Int) : (ils f n).set j (.int .i64 y) = ils (fun i => if i = j then y else f i) n := by
  apply List.ext_getElem
  · simp [ils]
  · intro i h1 h2
    simp only [ils, List.getElem_set, List.getElem_map, List.getElem_range]
    by_cases h : j = i
    · subst h; simp
    · simp [h, Ne.symm h]

theorem ils_congr {f g : Nat → Int} {n : Nat} (h : ∀ k, k < n → f k = g k) : ils f n = ils g n := by
  unfold ils
  apply List.map_congr_left
  intro i hi
  rw [h i (List.mem_range.1 hi)]

/-- Nothing but block g has turned. -/
structure Only (g : Nat) (w w' : World) : Prop where
  os : w'.os = w.os
  tape : w'.tape = w.tape
  output : w'.output = w.output
  size : w.heap.size ≤ w'.heap.size
  block : ∀ k, k ≠ g → w'.heap[k]? = w.heap[k]?

theorem Only.refl (g : Nat) (w : World) : Only g w w := ⟨rfl, rfl, rfl, Nat.le_refl _, fun _ _ => rfl⟩

theorem Only.put {g : Nat} {w w' : World} (h : Only g w w') (j : Nat) (u : Value) : Only g w (w'.setCell ⟨g, j, none⟩ u) :=
  ⟨h.os, h.tape, h.output, by simpa [World.setCell] using h.size, fun k hk => (Below.heap_setCell _ _ _ _ hk).trans (h.block k hk)⟩

theorem Below.only {B g : Nat} {w W W' : World} (h : Below B w W) (ho : Only g W W') (hg : B ≤ g) : Below B w W' :=
  h.trans ⟨ho.os, ho.tape, ho.output, ho.size, fun k hk => ho.block k (by omega)⟩

theorem own_only {w w' : World} {B s n g : Nat} {e : TypeId} {v : Value} {xs : List Value} (h : w.ownsRow B e s v n xs) (ho : Only g w w') (hg : g < B) : w'.ownsRow B e s v n xs := by
  refine ⟨h.1, ?_⟩
  rcases h.2 with h' | ⟨g', cap', cur, h', hb', hg', rest⟩
  · exact .inl h'
  · exact .inr ⟨g', cap', cur, h', hb', (ho.block g' (by omega)).trans hg', rest⟩

/-- Marks. -/
def mks (i : Nat) : Int := 1 + (i : Int)

end Go.Proofs.YtddbekacdfohpaaGreatDoor.Wv

namespace Go.Proofs.YtddbekacdfohpaaGreatDoor.Wv
open Go.RowKit

/-- Where a row lies that was made longer: where it lay, or in a new block, all else as it was. -/
theorem app_keep {P : Program} (w : World) (base : Nat) (t ty e : TypeId) (i : TypeInfo) (z : Value) (size bytes : Nat) (ht : P.underlying t = some (.slice e)) (hi : P.info? e = some i) (hz : i.zero = some z)
    (hsize : i.size = size) (hby : i.bytes = bytes) (v : Value) (n : Nat) (xs : List Value) (hown : w.ownsRow base e size v n xs)
    (a : Addr) (m c : Nat) (news : List Value) (hl : news.length = m * size) (hnews : ∀ j u, news[j]? = some u → w.cell? (a.add j) = some u) (h1 : ∀ u ∈ news, u.oneCell' = true)
    (h63 : n + m ≤ maxLen) (hbytes : (n + m) * bytes ≤ 140737488355328) (hm : 0 < m) {v' : Value} {w' : World} (hr : (Builtin.append_ #[t, t] ty #[v, .slice (some a) m c]).run P w = .ok v' w') :
    v'.ownBlock = v.ownBlock ∨ (v'.ownBlock = some w.heap.size ∧ Below w.heap.size w w') := by
  subst hsize
  subst hby
  have hsmall : n + m ≤ 9223372036854775807 := by simp only [maxLen] at h63; omega
  rcases hown.2 with ⟨rfl, rfl⟩ | ⟨g, cap, cur, rfl, hbg, hg, hnc, hcm, hcs, htake⟩
  · have h2 := run_append_nil (P := P) w t ty e i z ht hi hz a m c news hl hnews hm (by omega) (by have hb := hbytes; simp only [Nat.zero_add] at hb; omega)
    rw [h2] at hr
    injection hr with hr1 hr2
    rw [← hr1, ← hr2]
    exact .inr ⟨rfl, (Below.refl w.heap.size w).drew.alloc (Nat.le_refl _) _⟩
  · by_cases hroom : n + m ≤ cap
    · have hfit : n * i.size + news.length ≤ cur.size := by rw [hl, hcs, ← Nat.add_mul]; exact Nat.mul_le_mul_right _ hroom
      have h2 := run_append_room (P := P) w t ty e i ht hi g n cap cur hg a m c news hl hnews h1 hroom hfit
      rw [h2] at hr
      injection hr with hr1 hr2
      rw [← hr1]
      exact .inl rfl
    · have h2 := run_append_grow (P := P) w t ty e i z ht hi hz ⟨g, 0, none⟩ n cap xs hown.1 (hown.cells (g := g) rfl) a m c news hl hnews (by omega) (by omega) (growslice_fits (by omega) hbytes)
      rw [h2] at hr
      injection hr with hr1 hr2
      rw [← hr1, ← hr2]
      exact .inr ⟨rfl, (Below.refl w.heap.size w).drew.alloc (Nat.le_refl _) _⟩

/-- An append in a region that draws its order. -/
theorem wp_app {P : Program} (w : World) {o : Oper} {a : Act} {K : Act → World → Prop} {Q : Exit → Act → World → Prop} (s x : Operand) (t : TypeId)
    (ho : o.op = .call { callee := .builtin .append, args := #[s, x], argTypes := #[t, t] })
    (base : Nat) (e : TypeId) (i : TypeInfo) (z : Value) (size bytes : Nat) (ht : P.underlying t = some (.slice e)) (hi : P.info? e = some i) (hz : i.zero = some z)
    (hsize : i.size = size) (hby : i.bytes = bytes) (hzs : z.cells.size = size) (hsz : 0 < size)
    (v : Value) (n : Nat) (xs : List Value) (hs : a.eval s = v) (hown : w.ownsRow base e size v n xs)
    (ad : Addr) (m c : Nat) (news : List Value) (hx : a.eval x = .slice (some ad) m c) (hl : news.length = m * size) (hnews : ∀ j u, news[j]? = some u → w.cell? (ad.add j) = some u) (h1 : ∀ u ∈ news, u.oneCell' = true)
    (h63 : n + m ≤ maxLen) (hbytes : (n + m) * bytes ≤ 140737488355328) (hbase : base ≤ w.heap.size) (hm : 0 < m)
    (h : ∀ v' w', w'.ownsRow base e size v' (n + m) (xs ++ news) → w.grownBy w' v.ownBlock → (v'.ownBlock = v.ownBlock ∨ (v'.ownBlock = some w.heap.size ∧ Below w.heap.size w w')) → K (a.put o.dst v') w') : o.wp P a w K Q := by
  obtain ⟨v', w', hr, h2, h3, _⟩ := run_append_own (P := P) w base t o.type e i z size bytes ht hi hz hsize hby hzs hsz v n xs hown ad m c news hl hnews h1 h63 hbytes hbase
  have h5 := app_keep (P := P) w base t o.type e i z size bytes ht hi hz hsize hby v n xs hown ad m c news hl hnews h1 h63 hbytes hm hr
  unfold Oper.wp execOp
  simp only [ho, resolve, invoke, builtin, Sem.run_bind, Sem.run_pure, Result.andThen_ok, List.map_toArray, List.map_cons, List.map_nil, hs, hx, hr]
  exact h v' w' h2 h3 h5

/-- The cells of the row that was there are as they were. -/
theorem app_cell {w w' : World} {base size n m g cap j : Nat} {e : TypeId} {v' : Value} {xs news : List Value} (h : w.ownsRow base e size (.slice (some ⟨g, 0, none⟩) n cap) n xs) (h2 : w'.ownsRow base e size v' (n + m) (xs ++ news))
    (h3 : v'.ownBlock = some g ∨ (v'.ownBlock = some w.heap.size ∧ Below w.heap.size w w')) (hj : j < xs.length) : w'.cell? ⟨g, j, none⟩ = w.cell? ⟨g, j, none⟩ := by
  have h4 := h.cellAt j (by rw [← h.1]; exact hj)
  rcases h3 with h3 | ⟨_, hb⟩
  · rcases h2.2 with ⟨rfl, _⟩ | ⟨g', cap', cur, rfl, _⟩
    · cases h3
    · have hg : g' = g := by simpa [Value.ownBlock] using h3
      subst hg
      rw [h4, h2.cellAt j (by rw [← h2.1, List.length_append]; omega), List.getElem?_append_left hj]
  · exact hb.cell (World.block_lt_of_cell? _ _ (h4.trans (List.getElem?_eq_getElem hj)))
end Go.Proofs.YtddbekacdfohpaaGreatDoor.Wv
