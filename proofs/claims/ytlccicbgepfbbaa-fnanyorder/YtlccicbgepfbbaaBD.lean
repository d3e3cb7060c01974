/- Two groups joined. -/
import Derived.Test.YtlccicbgepfbbaaBC
import Derived.Deep.QuietTactic
namespace Go.Proofs.Ytlccicbgepfbbaa
open Go.RowKit

theorem Blc.congr {w : World} {B G P Q n cf cg : Nat} {f g f' g' : Nat → Int} (h : Blc w B G P Q n cf cg f g) (e1 : ∀ i, i < n → f i = f' i) (e2 : ∀ i, i < n → g i = g' i) : Blc w B G P Q n cf cg f' g' :=
  ⟨h.rg, by rw [← ils_congr e1]; exact h.of, by rw [← ils_congr e2]; exact h.og, h.ne, h.lt⟩

theorem Blc.kdraw {w : World} {B G P Q n cf cg : Nat} {f g : Nat → Int} (h : Blc w B G P Q n cf cg f g) (q : Nat) : Blc (w.drewN q) B G P Q n cf cg f g := h.below (below_dn w q)

theorem below_dn2 (w : World) (a b : Nat) : Below w.heap.size w ((w.drewN a).drewN b) := (below_dn w a).trans (below_dn (w.drewN a) b)

set_option maxRecDepth 20000 in
set_option maxHeartbeats 8000000 in
theorem join_same {w : World} {B G P Q n cf cg F0 T0 G0 A0 : Nat} {f g : Nat → Nat} (ha : Int) (h : Blc w B G P Q n cf cg (fun i => (f i : Int)) (fun i => (g i : Int))) (hF : F0 < n) (hT : T0 < n) (hg0 : G0 ≤ 64) (ha0 : A0 ≤ 64) (hf : ∀ b, b < n → 1 ≤ f b ∧ f b ≤ 2000) (_ : ∀ b, b < n → g b < n) (_ : n ≤ 20) (he : g F0 = g T0) :
    Calls Try.prog 42 #[.pointer (some ⟨G, 0, none⟩), .agg #[.int .i64 (F0 : Int), .int .i64 (T0 : Int), .int .i64 (G0 : Int), .int .i64 (A0 : Int), .int .i64 ha]] w fun e w' => e = .returned (.bool (decide (f F0 * G0 = f T0 * A0))) ∧ Blc w' B G P Q n cf cg (fun i => (f i : Int)) (fun i => (g i : Int)) ∧ Kd (fun q => q = P ∨ q = Q) w w' := by
  obtain ⟨d, hd⟩ : ∃ d, d = decide (f F0 * G0 = f T0 * A0) := ⟨_, rfl⟩
  rw [← hd]
  have HB : Hid (Blc w B G P Q n cf cg (fun i => (f i : Int)) (fun i => (g i : Int))) := h
  have c0 := h.rg.c0
  have c1 := h.rg.c1
  have a0 := World.ownsRow.cellAt h.of F0 (by omega)
  rw [ils_get hF] at a0
  have a1 := World.ownsRow.cellAt h.of T0 (by omega)
  rw [ils_get hT] at a1
  have a2 := World.ownsRow.cellAt h.og F0 (by omega)
  rw [ils_get hF] at a2
  have a3 := World.ownsRow.cellAt h.og T0 (by omega)
  rw [ils_get hT] at a3
  have hGs : G < w.heap.size := h.rg.lt
  have hPs : P < w.heap.size := (World.ownsRow.lt h.of P rfl).2
  have hQs : Q < w.heap.size := (World.ownsRow.lt h.og Q rfl).2
  have hG1 : ¬ G = w.heap.size := by omega
  have hP1 : ¬ P = w.heap.size := by omega
  have hQ1 : ¬ Q = w.heap.size := by omega
  have BX : Hid (Below w.heap.size w (w.alloc (.cells #[.int .i64 (F0 : Int), .int .i64 (T0 : Int), .int .i64 (G0 : Int), .int .i64 (A0 : Int), .int .i64 ha] 31))) := below_one _ _
  obtain ⟨f1, f2⟩ := hf F0 hF
  obtain ⟨f3, f4⟩ := hf T0 hT
  rw [he] at a2
  obtain ⟨p, hp⟩ : ∃ p, p = f F0 * G0 := ⟨_, rfl⟩
  obtain ⟨q, hq⟩ : ∃ q, q = f T0 * A0 := ⟨_, rfl⟩
  have HD : Hid (d = decide (p = q)) := by show _ = _; rw [hd, hp, hq]
  have hp2 : p ≤ 2000 * 64 := by rw [hp]; exact Nat.mul_le_mul f2 hg0
  have hq2 : q ≤ 2000 * 64 := by rw [hq]; exact Nat.mul_le_mul f4 ha0
  obtain ⟨x0, hx0⟩ : ∃ x, x = f F0 := ⟨_, rfl⟩
  obtain ⟨x1, hx1⟩ : ∃ x, x = f T0 := ⟨_, rfl⟩
  obtain ⟨x2, hx2⟩ : ∃ x, x = g T0 := ⟨_, rfl⟩
  rw [← hx0] at a0 hp
  rw [← hx1] at a1 hq
  rw [← hx2] at a2 a3
  have hp1 : (x0 : Int) * (G0 : Int) = (p : Int) := by rw [hp]; exact (Int.natCast_mul _ _).symm
  have hq1 : (x1 : Int) * (A0 : Int) = (q : Int) := by rw [hq]; exact (Int.natCast_mul _ _).symm
  have hp3 : (p : Int) ≤ 128000 := by omega
  have hq3 : (q : Int) ≤ 128000 := by omega
  clear h hf hd hp hq hx0 hx1 hx2 he f1 f2 f3 f4 hp2 hq2
  by_cases h2 : p = q
  · rw [decide_eq_true h2] at HD
    subst h2
    go_enter Try.func42, Try.ntmps42
    go_wp2
    go_quiet (fail)
    go_wp2
    go_quiet (fail)
    go_wp2
    go_ret
    rw [HD.out]
    exact ⟨rfl, (HB.out.below BX.out).below (below_dn _ _), (Kd.of_below BX.out).trans (Kd.of_below (below_dn _ _))⟩
  · have h3 : ¬ (p : Int) = (q : Int) := by omega
    rw [decide_eq_false h2] at HD
    go_enter Try.func42, Try.ntmps42
    go_wp2
    go_quiet (fail)
    go_wp2
    go_quiet (fail)
    go_wp2
    go_ret
    rw [HD.out]
    exact ⟨congrArg (fun z => Ending.returned (.bool z)) (beq_false_of_ne h3), (HB.out.below BX.out).below (below_dn _ _), (Kd.of_below BX.out).trans (Kd.of_below (below_dn _ _))⟩

set_option maxRecDepth 20000 in
set_option maxHeartbeats 8000000 in
theorem join_diff {w : World} {B G P Q n cf cg F0 T0 G0 A0 gx tx : Nat} {f g : Nat → Nat} (ha : Int) (h : Blc w B G P Q n cf cg (fun i => (f i : Int)) (fun i => (g i : Int))) (hF : F0 < n) (hT : T0 < n) (hg0 : 1 ≤ G0 ∧ G0 ≤ 64) (ha0 : 1 ≤ A0 ∧ A0 ≤ 64) (hf : ∀ b, b < n → 1 ≤ f b ∧ f b ≤ 2000) (_ : ∀ b, b < n → g b < n) (hn : n ≤ 20) (he : ¬ g F0 = g T0)
    (hgx : gx = f F0 * G0 / Nat.gcd (f F0 * G0) (f T0 * A0)) (htx : tx = f T0 * A0 / Nat.gcd (f F0 * G0) (f T0 * A0)) :
    Calls Try.prog 42 #[.pointer (some ⟨G, 0, none⟩), .agg #[.int .i64 (F0 : Int), .int .i64 (T0 : Int), .int .i64 (G0 : Int), .int .i64 (A0 : Int), .int .i64 ha]] w fun e w' => e = .returned (.bool (decide (smN n (joinF f g (g F0) (g T0) gx tx) ≤ 2000))) ∧ Blc w' B G P Q n cf cg (fun i => (joinF f g (g F0) (g T0) gx tx i : Int)) (fun i => (joinG g (g F0) (g T0) i : Int)) ∧ Kd (fun q => q = P ∨ q = Q) w w' := by
  have HB : Hid (Blc w B G P Q n cf cg (fun i => (f i : Int)) (fun i => (g i : Int))) := h
  have c0 := h.rg.c0
  have c1 := h.rg.c1
  have a0 := World.ownsRow.cellAt h.of F0 (by omega)
  rw [ils_get hF] at a0
  have a1 := World.ownsRow.cellAt h.of T0 (by omega)
  rw [ils_get hT] at a1
  have a2 := World.ownsRow.cellAt h.og F0 (by omega)
  rw [ils_get hF] at a2
  have a3 := World.ownsRow.cellAt h.og T0 (by omega)
  rw [ils_get hT] at a3
  have hGs : G < w.heap.size := h.rg.lt
  have hPs : P < w.heap.size := (World.ownsRow.lt h.of P rfl).2
  have hQs : Q < w.heap.size := (World.ownsRow.lt h.og Q rfl).2
  have hG1 : ¬ G = w.heap.size := by omega
  have hP1 : ¬ P = w.heap.size := by omega
  have hQ1 : ¬ Q = w.heap.size := by omega
  have BX : Hid (Below w.heap.size w (w.alloc (.cells #[.int .i64 (F0 : Int), .int .i64 (T0 : Int), .int .i64 (G0 : Int), .int .i64 (A0 : Int), .int .i64 ha] 31))) := below_one _ _
  obtain ⟨f1, f2⟩ := hf F0 hF
  obtain ⟨f3, f4⟩ := hf T0 hT
  obtain ⟨p, hp⟩ : ∃ p, p = f F0 * G0 := ⟨_, rfl⟩
  obtain ⟨q, hq⟩ : ∃ q, q = f T0 * A0 := ⟨_, rfl⟩
  have hp2 : p ≤ 2000 * 64 := by rw [hp]; exact Nat.mul_le_mul f2 hg0.2
  have hq2 : q ≤ 2000 * 64 := by rw [hq]; exact Nat.mul_le_mul f4 ha0.2
  have hp0 : 0 < p := by rw [hp]; exact Nat.mul_pos (by omega) (by omega)
  rw [← hp, ← hq] at hgx htx
  obtain ⟨d, hd⟩ : ∃ d, d = Nat.gcd p q := ⟨_, rfl⟩
  have hd0 : 0 < d := by rw [hd]; exact Nat.gcd_pos_of_pos_left _ hp0
  have ig := iGcd_any p q (by omega) (by omega)
  rw [← hd] at hgx htx ig
  have hgx2 : gx ≤ 128000 := by rw [hgx]; have := Nat.div_le_self p d; omega
  have htx2 : tx ≤ 128000 := by rw [htx]; have := Nat.div_le_self q d; omega
  have q1 : Int.tdiv (p : Int) (d : Int) = (gx : Int) := by rw [hgx, Int.tdiv_eq_ediv_of_nonneg (by omega)]; exact (Int.natCast_ediv p d).symm
  have q2 : Int.tdiv (q : Int) (d : Int) = (tx : Int) := by rw [htx, Int.tdiv_eq_ediv_of_nonneg (by omega)]; exact (Int.natCast_ediv q d).symm
  have hd1 : ¬ (d : Int) = 0 := by omega
  have HEJ : Hid (¬ g F0 = g T0) := he
  have HFB : Hid (∀ b, b < n → 1 ≤ f b ∧ f b ≤ 2000) := hf
  obtain ⟨x0, hx0⟩ : ∃ x, x = f F0 := ⟨_, rfl⟩
  obtain ⟨x1, hx1⟩ : ∃ x, x = f T0 := ⟨_, rfl⟩
  obtain ⟨x2, hx2⟩ : ∃ x, x = g T0 := ⟨_, rfl⟩
  obtain ⟨x3, hx3⟩ : ∃ x, x = g F0 := ⟨_, rfl⟩
  have H2 : Hid (x2 = g T0) := hx2
  have H3 : Hid (x3 = g F0) := hx3
  rw [← hx0] at a0 hp
  rw [← hx1] at a1 hq
  rw [← hx2] at a3
  rw [← hx3] at a2
  rw [← hx2, ← hx3] at he
  have hp1 : (x0 : Int) * (G0 : Int) = (p : Int) := by rw [hp]; exact (Int.natCast_mul _ _).symm
  have hq1 : (x1 : Int) * (A0 : Int) = (q : Int) := by rw [hq]; exact (Int.natCast_mul _ _).symm
  have hp3 : (p : Int) ≤ 128000 := by omega
  have hq3 : (q : Int) ≤ 128000 := by omega
  have he2 : ¬ (x3 : Int) = (x2 : Int) := by omega
  -- the two moves
  let f1' : Nat → Nat := fun b => if g b = x2 then f b * gx else f b
  let g1' : Nat → Nat := fun b => if g b = x2 then x2 else g b
  have hf1 : ∀ b, b < n → f1' b ≤ 256000000 := by
    intro b hb
    show (if g b = x2 then f b * gx else f b) ≤ _
    have := (hf b hb).2
    split
    · exact Nat.mul_le_mul this hgx2
    · omega
  have HM1 : Hid (∀ W, Blc W B G P Q n cf cg (fun i => (f i : Int)) (fun i => (g i : Int)) → Calls Try.prog 68 #[.pointer (some ⟨G, 0, none⟩), .int .i64 (x2 : Int), .int .i64 (x2 : Int), .int .i64 (gx : Int)] W fun e w' => e = .returned (.tuple #[]) ∧ Blc w' B G P Q n cf cg (fun b => (f1' b : Int)) (fun b => (g1' b : Int)) ∧ Kd (fun q => q = P ∨ q = Q) W w') := by
    intro W hW
    refine (move_any (x2 : Int) (x2 : Int) (gx : Int) hW hn (fun b hb => by have := hf b hb; omega) (by omega)).mono ?_
    rintro e w' ⟨rfl, h1, h2⟩
    refine ⟨rfl, h1.congr (fun i hi => ?_) (fun i hi => ?_), h2⟩
    · show _ = ((if g i = x2 then f i * gx else f i : Nat) : Int)
      by_cases e : g i = x2
      · rw [if_pos e, if_pos (by omega)]; exact (Int.natCast_mul _ _).symm
      · rw [if_neg e, if_neg (by omega)]
    · show _ = ((if g i = x2 then x2 else g i : Nat) : Int)
      by_cases e : g i = x2
      · rw [if_pos e, if_pos (by omega)]
      · rw [if_neg e, if_neg (by omega)]
  have HM2 : Hid (∀ W, Blc W B G P Q n cf cg (fun b => (f1' b : Int)) (fun b => (g1' b : Int)) → Calls Try.prog 68 #[.pointer (some ⟨G, 0, none⟩), .int .i64 (x3 : Int), .int .i64 (x2 : Int), .int .i64 (tx : Int)] W fun e w' => e = .returned (.tuple #[]) ∧ Blc w' B G P Q n cf cg (fun i => (joinF f g (g F0) (g T0) gx tx i : Int)) (fun i => (joinG g (g F0) (g T0) i : Int)) ∧ Kd (fun q => q = P ∨ q = Q) W w') := by
    intro W hW
    refine (move_any (x3 : Int) (x2 : Int) (tx : Int) hW hn (fun b hb => by have := hf1 b hb; omega) (by omega)).mono ?_
    rintro e w' ⟨rfl, h1, h2⟩
    refine ⟨rfl, h1.congr (fun i hi => ?_) (fun i hi => ?_), h2⟩
    · show (if (((if g i = x2 then x2 else g i : Nat) : Int)) = (x3 : Int) then (((if g i = x2 then f i * gx else f i : Nat) : Int)) * (tx : Int) else (((if g i = x2 then f i * gx else f i : Nat) : Int))) = ((joinF f g (g F0) (g T0) gx tx i : Nat) : Int)
      unfold joinF
      rw [← hx2, ← hx3]
      by_cases e : g i = x2
      · rw [if_pos e, if_pos e, if_pos e, if_neg (by omega)]
      · rw [if_neg e, if_neg e, if_neg e]
        by_cases e3 : g i = x3
        · rw [if_pos (by omega), if_pos e3]; exact (Int.natCast_mul _ _).symm
        · rw [if_neg (by omega), if_neg e3]
    · show (if (((if g i = x2 then x2 else g i : Nat) : Int)) = (x3 : Int) then (x2 : Int) else (((if g i = x2 then x2 else g i : Nat) : Int))) = ((joinG g (g F0) (g T0) i : Nat) : Int)
      unfold joinG
      rw [← hx2, ← hx3]
      by_cases e : g i = x2
      · rw [if_pos e, if_pos e, if_neg (by omega)]
      · rw [if_neg e, if_neg e]
        by_cases e3 : g i = x3
        · rw [if_pos (by omega), if_pos e3]
        · rw [if_neg (by omega), if_neg e3]
  have hfj : ∀ b, b < n → joinF f g (g F0) (g T0) gx tx b ≤ 1000000000000 := by
    intro b hb
    have h5 := (hf b hb).2
    unfold joinF
    split
    · have := Nat.mul_le_mul h5 hgx2; omega
    · split
      · have := Nat.mul_le_mul h5 htx2; omega
      · omega
  have HFJ : Hid (∀ b, b < n → joinF f g (g F0) (g T0) gx tx b ≤ 1000000000000) := hfj
  obtain ⟨dd, hdd⟩ : ∃ d, d = decide (smN n (joinF f g (g F0) (g T0) gx tx) ≤ 2000) := ⟨_, rfl⟩
  rw [← hdd]
  have HDD : Hid (dd = decide (smN n (joinF f g (g F0) (g T0) gx tx) ≤ 2000)) := hdd
  clear h hf hp hq hx0 hx1 hx2 hx3 he f1 f2 f3 f4 hp2 hq2 hgx htx hd hf1 hfj hdd hp0
  clear_value f1' g1'
  go_enter Try.func42, Try.ntmps42
  go_wp2
  go_quiet (fail)
  go_wp2
  go_quiet (fail)
  go_wp2_with (first
    | (go_at_call 67; (with_reducible refine (ig _).mono ?_); rintro e V ⟨rfl, hb⟩; have B1 : Hid (Blc V B G P Q n cf cg (fun i => (f i : Int)) (fun i => (g i : Int))) := ((HB.out.below BX.out).below (below_dn _ _)).below hb; have K1 : Hid (Kd (fun q => q = P ∨ q = Q) w V) := ((Kd.of_below BX.out).trans (Kd.of_below (below_dn _ _))).trans (Kd.of_below hb); clear hb)
    | (go_at_call 68; (fail_if_success have := M1); (with_reducible refine (HM1.out _ B1.out).mono ?_); rintro e V1 ⟨rfl, h1, h2⟩; have M1 : Hid True := trivial; have B2 : Hid _ := h1; have K2 : Hid (Kd (fun q => q = P ∨ q = Q) w V1) := K1.out.trans h2; clear h1 h2)
    | (go_at_call 68; (with_reducible refine (HM2.out _ B2.out).mono ?_); rintro e V2 ⟨rfl, h1, h2⟩; have B3 : Hid (Blc V2 B G P Q n cf cg (fun i => (joinF f g (g F0) (g T0) gx tx i : Int)) (fun i => (joinG g (g F0) (g T0) i : Int))) := h1; have K3 : Hid (Kd (fun q => q = P ∨ q = Q) w V2) := K2.out.trans h2; clear h1 h2)
    | (go_at_call 69; (with_reducible refine (few_any B3.out hn HFJ.out).mono ?_); rw [← HDD.out]; rintro e w' ⟨rfl, hw⟩; obtain rfl := hw.symm))
  go_ret
  exact ⟨rfl, B3.out, K3.out⟩
end Go.Proofs.Ytlccicbgepfbbaa
