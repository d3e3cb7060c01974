/- The program's Compare; both sides of Compare; the law of Compare. -/
import Derived.Test.YtghblaphkbcgpaaDoorN2
import Derived.Test.YtghblaphkbcgpaaDoorT2
namespace Go.Proofs.YtghblaphkbcgpaaDoor
open Go.RowKit

theorem below_r3 {w w1 w2 w3 : World} (o : Obj) (hb0 : Below (w.alloc o).heap.size (w.alloc o) w1) (hb1 : Below w1.heap.size w1 w2) (hb2 : Below w2.heap.size w2 w3) : Below w.heap.size w w3 :=
  (below_a2 o hb0 hb1).trans (hb2.mono (below_a2 o hb0 hb1).size)

theorem below_r4 {w w1 w2 w3 w4 : World} (o : Obj) (hb0 : Below (w.alloc o).heap.size (w.alloc o) w1) (hb1 : Below w1.heap.size w1 w2) (hb2 : Below w2.drew.heap.size w2.drew w3) (hb3 : Below w3.heap.size w3 w4) : Below w.heap.size w w4 := by
  have a := below_a2 o hb0 hb1
  have b : Below w2.heap.size w2 w3 := ((Below.refl _ _).drew).trans hb2
  have c := a.trans (b.mono a.size)
  exact c.trans (hb3.mono c.size)

theorem cells_kept {w w1 w2 : World} {a b c : Int} (hb : Below (w.alloc (shpObj a b c)).heap.size (w.alloc (shpObj a b c)) w1) (hb2 : Below w1.heap.size w1 w2) :
    w2.cell? ⟨w.heap.size, 0, none⟩ = some (.int .i64 a) ∧ w2.cell? ⟨w.heap.size, 1, none⟩ = some (.int .i64 b) ∧ w2.cell? ⟨w.heap.size, 2, none⟩ = some (.int .i64 c) ∧ w.heap.size < w2.heap.size := by
  have h1 := szlt hb
  have h2 := hb2.size
  refine ⟨?_, ?_, ?_, by omega⟩
  all_goals
    rw [(bcell hb2).1 _ _ h1, (bcell hb).1 _ _ (by simp)]
    go_simp

theorem cells_next {w1 w2 : World} {B : Nat} {v0 v1 v2 : Value} (hb : Below w1.heap.size w1 w2) (hs : B < w1.heap.size) (k0 : w1.cell? ⟨B, 0, none⟩ = some v0) (k1 : w1.cell? ⟨B, 1, none⟩ = some v1) (k2 : w1.cell? ⟨B, 2, none⟩ = some v2) :
    w2.cell? ⟨B, 0, none⟩ = some v0 ∧ w2.cell? ⟨B, 1, none⟩ = some v1 ∧ w2.cell? ⟨B, 2, none⟩ = some v2 ∧ B < w2.heap.size :=
  ⟨((bcell hb).1 _ _ hs).trans k0, ((bcell hb).1 _ _ hs).trans k1, ((bcell hb).1 _ _ hs).trans k2, Nat.lt_of_lt_of_le hs hb.size⟩

theorem kd_nan (i s : Int) (_h0 : 0 < i) : (3 ≤ kd i s ↔ i < s) ∧ (kd i s = 0 ↔ s = 0) := by
  unfold kd
  constructor
  · repeat' split
    all_goals omega
  · repeat' split
    all_goals omega

theorem cmp_eq (S x y : Int) (hx0 : 0 ≤ x) (hy0 : 0 ≤ y) (hS : 0 < S) : cmp3 (rk S x 0) (rk S y 0) = if sz S x = 0 ∧ sz S y = 0 then 0 else ord S x y := by
  unfold cmp3 rk ord sz
  by_cases hx : x < S <;> by_cases hy : y < S
  · simp only [if_pos hx, if_pos hy]
    repeat' split
    all_goals omega
  · simp only [if_pos hx, if_neg hy]
    repeat' split
    all_goals omega
  · simp only [if_neg hx, if_pos hy]
    repeat' split
    all_goals omega
  · simp only [if_neg hx, if_neg hy]
    repeat' split
    all_goals omega

/-- What the model's Unpack answers where form or bits are none. -/
theorem sunpack_none (f x : Int) (hA : ∀ w, Calls Tryd.prog 18 #[.int .i64 f, .int .u64 x] w fun e w' => e = .returned (.bool false) ∧ w' = w) (w : World) :
    Calls Tryd.prog 8 #[.int .i64 f, .int .u64 x] w fun e w' => e = .returned (.agg #[.int .i64 4, .bool false, .int .i64 0, .int .u64 0]) ∧ Below w.heap.size w w' := by
  refine sunpack_bad f x w hA fun w => ?_
  by_cases hf : f < 1 ∨ 3 < f
  · exact ⟨_, _, _, _, l1Form_no f w hf⟩
  · obtain ⟨wd, p, t, S, D, h, q, hF⟩ := frm_of f hf
    exact ⟨_, _, _, _, l1Form_any hF.form w⟩

end Go.Proofs.YtghblaphkbcgpaaDoor

/- The program's Unpack; both sides of Unpack; the law of Unpack. -/
namespace Go.Proofs.YtghblaphkbcgpaaDoor
open Go.RowKit

theorem first6 {w w' : World} {c : Array Value} {t : TypeId} {o2 o3 o4 o5 o6 : Obj} (hb : Below ((((((w.alloc (.cells c t)).alloc o2).alloc o3).alloc o4).alloc o5).alloc o6).heap.size ((((((w.alloc (.cells c t)).alloc o2).alloc o3).alloc o4).alloc o5).alloc o6) w') (j : Nat) : w'.cell? ⟨w.heap.size, j, none⟩ = c[j]? := by
  have c5 : Below (w.alloc (.cells c t)).heap.size (w.alloc (.cells c t)) ((((((w.alloc (.cells c t)).alloc o2).alloc o3).alloc o4).alloc o5).alloc o6) := below_al _ (below_al _ (below_al _ (below_al _ (below_one _))))
  have b5 := c5.trans (hb.mono c5.size)
  rw [(bcell b5).1 _ _ (by simp)]
  simp

theorem chain6 {w w' : World} {o1 o2 o3 o4 o5 o6 : Obj} (hb : Below ((((((w.alloc o1).alloc o2).alloc o3).alloc o4).alloc o5).alloc o6).heap.size ((((((w.alloc o1).alloc o2).alloc o3).alloc o4).alloc o5).alloc o6) w') : Below w.heap.size w w' :=
  have c : Below w.heap.size w ((((((w.alloc o1).alloc o2).alloc o3).alloc o4).alloc o5).alloc o6) := below_al _ (below_al _ (below_al _ (below_al _ (below_al _ (below_one _)))))
  c.trans (hb.mono c.size)

set_option maxHeartbeats 2000000 in
theorem unpack_zero {f wd p t S D h q : Int} (hF : Frm f wd p t S D h q) (x z A : Int) (nb : Bool) (w : World) (hs : Shp w) (h0 : 0 ≤ x) (h1 : x < D) (ha : bits .and .u64 x S = A) (hA : (A != 0) = nb) (hz : bits .andNot .u64 x S = z) (h2 : (z == 0) = true) :
    Calls Tryd.prog 17 #[.int .i64 f, .int .u64 x] w fun e w' => e = .returned (.agg #[.int .i64 0, .bool nb, .int .i64 0, .int .u64 0]) ∧ Below w.heap.size w w' := by
  have hB := fun w hs => isBits_yes hF.form x h0 h1 w hs
  have hI := fun w => infinity_any hF w
  have hS := fun w => signBit_any hF w
  have hs1 := fun o => shp_below hs (shp_pos hs) (below_one (w := w) o)
  have hpos := shp_pos hs
  generalize (2 * t + 1) * h = i at *
  have hsc := hs
  obtain ⟨c0, c1, c2, c3, c4, c5, c6, c7, c8, c9, c10, c11⟩ := hsc
  rcases hF with ⟨rfl, rfl, rfl, rfl, hSe, rfl, rfl, rfl⟩ | ⟨rfl, rfl, rfl, rfl, hSe, rfl, rfl, rfl⟩ | ⟨rfl, rfl, rfl, rfl, hSe, rfl, rfl, rfl⟩
  all_goals
    clear hSe h1 h0
    go_enter Tryd.func17, Tryd.ntmps17
    go_wp2_with (first | (go_at_call 36; refine (hB _ (hs1 _)).mono ?_; rintro e w' ⟨rfl, rfl⟩) | (go_at_call 45; refine (hS _).mono ?_; rintro e w' ⟨rfl, rfl⟩) | (go_at_call 46; refine (hI _).mono ?_; rintro e w' ⟨rfl, rfl⟩))
    exact bodyPost_ret (v := .agg #[.int .i64 0, .bool nb, .int .i64 0, .int .u64 0]) (by simp [results, Tryd.results17, go_sem]) rfl ⟨rfl, below_al _ (below_al _ (below_al _ (below_one _)))⟩

set_option maxHeartbeats 2000000 in
theorem unpack_inf {f wd p t S D h q : Int} (hF : Frm f wd p t S D h q) (x z A : Int) (nb : Bool) (w : World) (hs : Shp w) (h0 : 0 ≤ x) (h1 : x < D) (ha : bits .and .u64 x S = A) (hA : (A != 0) = nb) (hz : bits .andNot .u64 x S = z) (h2 : (z == 0) = false) (h3 : (z == (2 * t + 1) * h) = true) :
    Calls Tryd.prog 17 #[.int .i64 f, .int .u64 x] w fun e w' => e = .returned (.agg #[.int .i64 2, .bool nb, .int .i64 0, .int .u64 0]) ∧ Below w.heap.size w w' := by
  have hB := fun w hs => isBits_yes hF.form x h0 h1 w hs
  have hI := fun w => infinity_any hF w
  have hS := fun w => signBit_any hF w
  have hs1 := fun o => shp_below hs (shp_pos hs) (below_one (w := w) o)
  have hpos := shp_pos hs
  generalize (2 * t + 1) * h = i at *
  have hsc := hs
  obtain ⟨c0, c1, c2, c3, c4, c5, c6, c7, c8, c9, c10, c11⟩ := hsc
  rcases hF with ⟨rfl, rfl, rfl, rfl, hSe, rfl, rfl, rfl⟩ | ⟨rfl, rfl, rfl, rfl, hSe, rfl, rfl, rfl⟩ | ⟨rfl, rfl, rfl, rfl, hSe, rfl, rfl, rfl⟩
  all_goals
    clear hSe h1 h0
    go_enter Tryd.func17, Tryd.ntmps17
    go_wp2_with (first | (go_at_call 36; refine (hB _ (hs1 _)).mono ?_; rintro e w' ⟨rfl, rfl⟩) | (go_at_call 45; refine (hS _).mono ?_; rintro e w' ⟨rfl, rfl⟩) | (go_at_call 46; refine (hI _).mono ?_; rintro e w' ⟨rfl, rfl⟩))
    exact bodyPost_ret (v := .agg #[.int .i64 2, .bool nb, .int .i64 0, .int .u64 0]) (by simp [results, Tryd.results17, go_sem]) rfl ⟨rfl, below_al _ (below_al _ (below_al _ (below_al _ (below_one _))))⟩

set_option maxHeartbeats 2000000 in
theorem unpack_nan {f wd p t S D h q : Int} (hF : Frm f wd p t S D h q) (x z A : Int) (nb : Bool) (w : World) (hs : Shp w) (h0 : 0 ≤ x) (h1 : x < D) (ha : bits .and .u64 x S = A) (hA : (A != 0) = nb) (hz : bits .andNot .u64 x S = z) (h2 : (z == 0) = false) (h3 : (z == (2 * t + 1) * h) = false) (h4 : (2 * t + 1) * h < z) :
    Calls Tryd.prog 17 #[.int .i64 f, .int .u64 x] w fun e w' => e = .returned (.agg #[.int .i64 3, .bool false, .int .i64 0, .int .u64 0]) ∧ Below w.heap.size w w' := by
  have hB := fun w hs => isBits_yes hF.form x h0 h1 w hs
  have hI := fun w => infinity_any hF w
  have hS := fun w => signBit_any hF w
  have hs1 := fun o => shp_below hs (shp_pos hs) (below_one (w := w) o)
  have hpos := shp_pos hs
  generalize (2 * t + 1) * h = i at *
  have hsc := hs
  obtain ⟨c0, c1, c2, c3, c4, c5, c6, c7, c8, c9, c10, c11⟩ := hsc
  rcases hF with ⟨rfl, rfl, rfl, rfl, hSe, rfl, rfl, rfl⟩ | ⟨rfl, rfl, rfl, rfl, hSe, rfl, rfl, rfl⟩ | ⟨rfl, rfl, rfl, rfl, hSe, rfl, rfl, rfl⟩
  all_goals
    clear hSe h1 h0
    go_enter Tryd.func17, Tryd.ntmps17
    go_wp2_with (first | (go_at_call 36; refine (hB _ (hs1 _)).mono ?_; rintro e w' ⟨rfl, rfl⟩) | (go_at_call 45; refine (hS _).mono ?_; rintro e w' ⟨rfl, rfl⟩) | (go_at_call 46; refine (hI _).mono ?_; rintro e w' ⟨rfl, rfl⟩))
    exact bodyPost_ret (v := .agg #[.int .i64 3, .bool false, .int .i64 0, .int .u64 0]) (by simp [results, Tryd.results17, go_sem]) rfl ⟨rfl, below_al _ (below_al _ (below_al _ (below_al _ (below_al _ (below_one _)))))⟩

set_option maxHeartbeats 2000000 in
theorem unpack_fin {f wd p t S D h q : Int} (hF : Frm f wd p t S D h q) (x z A : Int) (nb : Bool) (w : World) (hs : Shp w) (h0 : 0 ≤ x) (h1 : x < D) (ha : bits .and .u64 x S = A) (hA : (A != 0) = nb) (hz : bits .andNot .u64 x S = z) (h2 : (z == 0) = false) (h3 : (z == (2 * t + 1) * h) = false) (h4 : ¬ (2 * t + 1) * h < z) (E M : Int) (hbr : Brj w) (hFin : ∀ w, Brj w → Calls Tryd.prog 47 #[.agg #[.int .i64 wd, .int .i64 p, .int .i64 t], .bool nb, .int .u64 z] w fun e w' => e = .returned (.agg #[.int .i64 1, .bool nb, .int .i64 E, .int .u64 M]) ∧ Below w.heap.size w w') :
    Calls Tryd.prog 17 #[.int .i64 f, .int .u64 x] w fun e w' => e = .returned (.agg #[.int .i64 1, .bool nb, .int .i64 E, .int .u64 M]) ∧ Below w.heap.size w w' := by
  have hB := fun w hs => isBits_yes hF.form x h0 h1 w hs
  have hI := fun w => infinity_any hF w
  have hS := fun w => signBit_any hF w
  have hs1 := fun o => shp_below hs (shp_pos hs) (below_one (w := w) o)
  have hpos := shp_pos hs
  generalize (2 * t + 1) * h = i at *
  have hsc := hs
  obtain ⟨c0, c1, c2, c3, c4, c5, c6, c7, c8, c9, c10, c11⟩ := hsc
  rcases hF with ⟨rfl, rfl, rfl, rfl, hSe, rfl, rfl, rfl⟩ | ⟨rfl, rfl, rfl, rfl, hSe, rfl, rfl, rfl⟩ | ⟨rfl, rfl, rfl, rfl, hSe, rfl, rfl, rfl⟩
  all_goals
    clear hSe h1 h0
    go_enter Tryd.func17, Tryd.ntmps17
    go_wp2_with (first | (go_at_call 36; refine (hB _ (hs1 _)).mono ?_; rintro e w' ⟨rfl, rfl⟩) | (go_at_call 45; refine (hS _).mono ?_; rintro e w' ⟨rfl, rfl⟩) | (go_at_call 46; refine (hI _).mono ?_; rintro e w' ⟨rfl, rfl⟩) | (go_at_call 47; refine (hFin _ ?_).mono ?_; (repeat (first | exact hbr | apply Brj.alloc)); rintro e w' ⟨rfl, hb⟩; obtain ⟨hc, hf⟩ := bcell hb; have hsz := hb.size))
    have B0 := chain6 hb
    have q0 := first6 hb 0
    have q1 := first6 hb 1
    have q2 := first6 hb 2
    have q3 := first6 hb 3
    simp at q0 q1 q2 q3
    exact bodyPost_ret (v := .agg #[.int .i64 1, .bool nb, .int .i64 E, .int .u64 M]) (by simp [results, Tryd.results17, go_sem, q0, q1, q2, q3]) rfl ⟨rfl, (((B0.setCell (Nat.le_refl _) _).setCell (Nat.le_refl _) _).setCell (Nat.le_refl _) _).setCell (Nat.le_refl _) _⟩


theorem unpack_bad (f x : Int) (w : World) (hB : ∀ o, Calls Tryd.prog 36 #[.int .i64 f, .int .u64 x] (w.alloc o) fun e w' => e = .returned (.bool false) ∧ w' = w.alloc o) :
    Calls Tryd.prog 17 #[.int .i64 f, .int .u64 x] w fun e w' => e = .returned (.agg #[.int .i64 4, .bool false, .int .i64 0, .int .u64 0]) ∧ Below w.heap.size w w' := by
  go_enter Tryd.func17, Tryd.ntmps17
  go_wp2_with (go_at_call 36; refine (hB _).mono ?_; rintro e w' ⟨rfl, rfl⟩)
  exact bodyPost_ret (v := .agg #[.int .i64 4, .bool false, .int .i64 0, .int .u64 0]) (by simp [results, Tryd.results17, go_sem]) rfl ⟨rfl, below_one _⟩

theorem tz_exists (m : Int) (h0 : 0 < m) (h1 : m < 18446744073709551616) : ∃ (man : Int) (k : Nat), Tz m man k ∧ man % 2 = 1 := by
  obtain ⟨n, rfl⟩ := Int.eq_ofNat_of_zero_le (show 0 ≤ m by omega)
  obtain ⟨q, hq, _⟩ := Lib.ctzFrom_spec 64 n (by omega) (by omega)
  refine ⟨((2 * q + 1 : Nat) : Int), Lib.ctzFrom 64 n, ⟨by omega, ?_⟩, by omega⟩
  rw [← Int.natCast_mul, Nat.mul_comm, ← hq]

/-- Both sides of Unpack answer the same four fields. -/
theorem unpack_both (f x : Int) (hx0 : 0 ≤ x) (hx1 : x < 18446744073709551616) :
    ∃ (K E M : Int) (nb : Bool), (∀ w, Calls Tryd.prog 8 #[.int .i64 f, .int .u64 x] w fun e w' => e = .returned (.agg #[.int .i64 K, .bool nb, .int .i64 E, .int .u64 M]) ∧ Below w.heap.size w w') ∧
      (∀ w, Shp w → Brj w → Calls Tryd.prog 17 #[.int .i64 f, .int .u64 x] w fun e w' => e = .returned (.agg #[.int .i64 K, .bool nb, .int .i64 E, .int .u64 M]) ∧ Below w.heap.size w w') := by
  rcases both_no f x hx0 hx1 with ⟨hA, hB⟩ | ⟨wd, p, t, S, D, h, q, hF, hD⟩
  · exact ⟨4, 0, 0, false, fun w => sunpack_none f x hA w, fun w hs _ => unpack_bad f x w fun o => hB _ (shp_below hs (shp_pos hs) (below_one o))⟩
  obtain ⟨hsz, hX0, hX1, hf0, hf1⟩ := sz_of hF x hx0 hD
  obtain ⟨ha, hn⟩ := and_any hF.form x hx0 hD
  have hn' : bits .andNot .u64 x S = sz S x := hn
  have hnb : ((if x < S then (0 : Int) else S) != 0) = (x / S == 1) := by
    rcases hF with ⟨rfl, rfl, rfl, rfl, rfl, rfl, rfl, rfl⟩ | ⟨rfl, rfl, rfl, rfl, rfl, rfl, rfl, rfl⟩ | ⟨rfl, rfl, rfl, rfl, rfl, rfl, rfl, rfl⟩
    all_goals
      split
      · have e : x / _ = 0 := Int.ediv_eq_zero_of_lt hx0 ‹_›
        rw [e]; rfl
      · rw [Bool.eq_iff_iff]
        simp
        omega
  have hszlt : sz S x < D ∧ 0 ≤ sz S x := by
    unfold sz
    rcases hF with ⟨rfl, rfl, rfl, rfl, rfl, rfl, rfl, rfl⟩ | ⟨rfl, rfl, rfl, rfl, rfl, rfl, rfl, rfl⟩ | ⟨rfl, rfl, rfl, rfl, rfl, rfl, rfl, rfl⟩ <;> split <;> omega
  have hi : 0 < (2 * t + 1) * h ∧ 0 < h ∧ h < 18446744073709551616 := by
    rcases hF with ⟨rfl, rfl, rfl, rfl, rfl, rfl, rfl, rfl⟩ | ⟨rfl, rfl, rfl, rfl, rfl, rfl, rfl, rfl⟩ | ⟨rfl, rfl, rfl, rfl, rfl, rfl, rfl, rfl⟩ <;> decide
  by_cases hX : x / h % q = 2 * t + 1
  · by_cases hf : x % h = 0
    · have e1 : sz S x = (2 * t + 1) * h := by rw [hsz, hX, hf]; omega
      refine ⟨2, 0, 0, _, fun w => sunpack_inf hF x w hx0 hD hX (by simpa using hf), fun w hs _ => ?_⟩
      exact unpack_inf hF x (sz S x) _ _ w hs hx0 hD ha hnb hn' (by simp; omega) (by simpa using e1)
    · have e1 : (2 * t + 1) * h < sz S x := by rw [hsz, hX]; omega
      refine ⟨3, 0, 0, false, fun w => sunpack_nan hF x w hx0 hD hX (by simpa using hf), fun w hs _ => ?_⟩
      exact unpack_nan hF x (sz S x) _ _ w hs hx0 hD ha rfl hn' (by simp; omega) (by simp; omega) e1
  · by_cases hX2 : x / h % q = 0
    · by_cases hf : x % h = 0
      · have e1 : sz S x = 0 := by rw [hsz, hX2, hf]; omega
        refine ⟨0, 0, 0, _, fun w => sunpack_zero hF x w hx0 hD hX2 (by simpa using hf), fun w hs _ => ?_⟩
        exact unpack_zero hF x (sz S x) _ _ w hs hx0 hD ha hnb hn' (by simpa using e1)
      · have e1 : sz S x = x % h := by rw [hsz, hX2]; omega
        have e2 : x % h < (2 * t + 1) * h := by
          rcases hF with ⟨rfl, rfl, rfl, rfl, rfl, rfl, rfl, rfl⟩ | ⟨rfl, rfl, rfl, rfl, rfl, rfl, rfl, rfl⟩ | ⟨rfl, rfl, rfl, rfl, rfl, rfl, rfl, rfl⟩ <;> omega
        obtain ⟨man, k, ht, ho⟩ := tz_exists (x % h) (by omega) (by omega)
        refine ⟨1, 2 - t - p + 0 + k, man, (x / S == 1), fun w => (sunpack_low hF x w hx0 hD hX2 (by simpa using hf)).mono ?_, fun w hs hb => ?_⟩
        · rintro e w' ⟨k', man', ht', ho', he, hb⟩
          obtain ⟨rfl, rfl⟩ := ht.unique ht' ho ho'
          rw [Int.add_zero]
          exact ⟨he, hb⟩
        · refine unpack_fin hF x (sz S x) _ _ w hs hx0 hD ha hnb hn' (by simp; omega) (by simp; omega) (by omega) _ _ hb fun w hb => ?_
          rw [e1]
          exact finite_low hF _ _ man k w (by omega) (by omega) ht ho hb
    · have e3 : sz S x / h = x / h % q ∧ sz S x % h = x % h ∧ h ≤ sz S x ∧ sz S x < (2 * t + 1) * h := by
        rw [hsz]
        rcases hF with ⟨rfl, rfl, rfl, rfl, rfl, rfl, rfl, rfl⟩ | ⟨rfl, rfl, rfl, rfl, rfl, rfl, rfl, rfl⟩ | ⟨rfl, rfl, rfl, rfl, rfl, rfl, rfl, rfl⟩ <;> omega
      have e4 : x % h + h < 18446744073709551616 := by
        rcases hF with ⟨rfl, rfl, rfl, rfl, rfl, rfl, rfl, rfl⟩ | ⟨rfl, rfl, rfl, rfl, rfl, rfl, rfl, rfl⟩ | ⟨rfl, rfl, rfl, rfl, rfl, rfl, rfl, rfl⟩ <;> omega
      obtain ⟨man, k, ht, ho⟩ := tz_exists (x % h + h) (by omega) e4
      refine ⟨1, 2 - t - p + (sz S x / h - 1) + k, man, (x / S == 1), fun w => (sunpack_norm hF x w hx0 hD hX2 hX).mono ?_, fun w hs hb => ?_⟩
      · rintro e w' ⟨k', man', ht', ho', he, hb⟩
        obtain ⟨rfl, rfl⟩ := ht.unique ht' ho ho'
        rw [e3.1]
        have e5 : 2 - t - p + (x / h % q - 1) + (k : Int) = x / h % q - t - p + 1 + k := by omega
        rw [e5]
        exact ⟨he, hb⟩
      · refine unpack_fin hF x (sz S x) _ _ w hs hx0 hD ha hnb hn' (by simp; omega) (by simp; omega) (by omega) _ _ hb fun w hb => ?_
        have ht2 : Tz (sz S x % h + h) man k := by rw [e3.2.1]; exact ht
        exact finite_norm hF _ _ man k w e3.2.2.1 hszlt.1 ht2 ho hb
end Go.Proofs.YtghblaphkbcgpaaDoor
