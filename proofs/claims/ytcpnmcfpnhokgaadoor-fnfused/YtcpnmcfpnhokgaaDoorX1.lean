/- Add of both sides, told by a function of plain numbers. -/
import Derived.Test.YtcpnmcfpnhokgaaDoorB8
import Derived.Test.YtcpnmcfpnhokgaaDoorHF1
import Derived.Test.YtcpnmcfpnhokgaaDoorHU9
import Derived.Test.YtcpnmcfpnhokgaaDoorY1
namespace Go.Proofs.YtcpnmcfpnhokgaaDoor
open Go.RowKit

/-- 'Words that are right arguments of an operation on two.' -/
def Good2 (f mode x y : Int) : Prop := ∃ wd p t S D h q : Int, Frm f wd p t S D h q ∧ 1 ≤ mode ∧ mode ≤ 5 ∧ x < D ∧ y < D

theorem Good2.swap {f mode x y : Int} (h : Good2 f mode x y) : Good2 f mode y x := by
  obtain ⟨wd, p, t, S, D, h, q, a, b, c, d, e⟩ := h
  exact ⟨wd, p, t, S, D, h, q, a, b, c, e, d⟩

theorem early2 {f mode x y : Int} (v : Value) (hv : ∀ W v', Shp W → Lu W v' 2 (fun k => if k = 0 then x else y) → Calls Tryd.prog 24 #[.int .i64 f, .int .i64 mode, v'] W fun e w' => e = .returned v ∧ Below W.heap.size W w') (w : World) (hs : Tabs w) :
    Calls Tryd.prog 24 #[.int .i64 f, .int .i64 mode, .slice (some ⟨w.heap.size, 0, none⟩) 2 2] (w.alloc (.cells #[.int .u64 x, .int .u64 y] 24)) fun e w' => e = .returned v ∧ Below (w.alloc (.cells #[.int .u64 x, .int .u64 y] 24)).heap.size (w.alloc (.cells #[.int .u64 x, .int .u64 y] 24)) w' :=
  hv _ _ (shp_below hs.shp (shp_pos hs.shp) (below_one _)) (lu_two x y w w.heap.size rfl)

theorem bad2 {f mode x y : Int} (hx0 : 0 ≤ x) (hx1 : x < 18446744073709551616) (hy0 : 0 ≤ y) (hy1 : y < 18446744073709551616) (hb : ¬ Good2 f mode x y) :
    (∀ W v, Lu W v 2 (fun k => if k = 0 then x else y) → Calls Tryd.prog 29 #[.int .i64 f, .int .i64 mode, v] W fun e w' => e = .returned (.bool false) ∧ w' = W) ∧
      (∀ W v, Shp W → Lu W v 2 (fun k => if k = 0 then x else y) → Calls Tryd.prog 24 #[.int .i64 f, .int .i64 mode, v] W fun e w' => e = .returned (.tuple #[.int .u64 0, .int .i64 0, .bool true]) ∧ Below W.heap.size W w') := by
  rcases front_or f mode 2 (fun k => if k = 0 then x else y) (by decide) (by decide) (fun k _ => by split <;> omega) with h | ⟨wd, p, t, S, D, h, q, hF, m1, m5, hk⟩
  · exact h
  · exact absurd ⟨wd, p, t, S, D, h, q, hF, m1, m5, hk 0 (by decide), hk 1 (by decide)⟩ hb

theorem add_bad {f mode x y : Int} (hx0 : 0 ≤ x) (hx1 : x < 18446744073709551616) (hy0 : 0 ≤ y) (hy1 : y < 18446744073709551616) (hb : ¬ Good2 f mode x y) :
    (∀ w, Calls Tryd.prog 10 #[.int .i64 f, .int .i64 mode, .int .u64 x, .int .u64 y] w fun e w' => e = .returned (.tuple #[.int .u64 0, .int .i64 0]) ∧ Below w.heap.size w w') ∧
      (∀ w, Tabs w → Calls Tryd.prog 8 #[.int .i64 f, .int .i64 mode, .int .u64 x, .int .u64 y] w fun e w' => e = .returned (.tuple #[.int .u64 0, .int .i64 0]) ∧ Below w.heap.size w w') := by
  obtain ⟨h33, h37⟩ := bad2 hx0 hx1 hy0 hy1 hb
  exact ⟨fun w => sadd_bad f mode x y w h33, fun w hs => iadd_early f mode x y 0 0 w (early2 _ h37 w hs)⟩

/-- The flags of two words, one of them a NaN. -/
def nfg (t h S x y : Int) : Int := fgB (fun k => sigOf t h S (if k = 0 then x else y)) 2

theorem nfg_swap (t h S x y : Int) : nfg t h S x y = nfg t h S y x := by
  unfold nfg
  show (bif sigOf t h S y then (16 : Int) else bif sigOf t h S x then 16 else 0) = (bif sigOf t h S x then 16 else bif sigOf t h S y then 16 else 0)
  generalize sigOf t h S x = a
  generalize sigOf t h S y = b
  cases a <;> cases b <;> rfl

theorem fr2 {f wd p t S D h q : Int} (hF : Frm f wd p t S D h q) (mode : Int) (m1 : 1 ≤ mode) (m5 : mode ≤ 5) {x y : Int} (hx0 : 0 ≤ x) (hxD : x < D) (hy0 : 0 ≤ y) (hyD : y < D) :
    (∀ W v, Lu W v 2 (fun k => if k = 0 then x else y) → Calls Tryd.prog 29 #[.int .i64 f, .int .i64 mode, v] W fun e w' => e = .returned (.bool true) ∧ w' = W) ∧
    (∀ W v, Lu W v 2 (fun k => if k = 0 then x else y) → Calls Tryd.prog 30 #[.int .i64 f, v] W fun e w' => e = .returned (.tuple #[.int .u64 ((2 * t + 1) * h + h / 2), .int .i64 (nfg t h S x y), .bool (decide ((2 * t + 1) * h < sz S x) || decide ((2 * t + 1) * h < sz S y))]) ∧ Below W.heap.size W w') ∧
    (∀ W v, Shp W → Lu W v 2 (fun k => if k = 0 then x else y) → Calls Tryd.prog 24 #[.int .i64 f, .int .i64 mode, v] W fun e w' => e = .returned (eaV true (decide ((2 * t + 1) * h < sz S x) || decide ((2 * t + 1) * h < sz S y)) ((2 * t + 1) * h + h / 2) (nfg t h S x y)) ∧ Below W.heap.size W w') := by
  have hD64 : D ≤ 18446744073709551616 := by rcases hF with ⟨_, _, _, _, _, rfl, _⟩ | ⟨_, _, _, _, _, rfl, _⟩ | ⟨_, _, _, _, _, rfl, _⟩ <;> decide
  exact front_good hF mode m1 m5 2 (fun k => if k = 0 then x else y) (by decide) (fun k _ => by split <;> omega) (fun k _ => by split <;> omega)

theorem add_nan {f wd p t S D h q : Int} (hF : Frm f wd p t S D h q) (mode : Int) (m1 : 1 ≤ mode) (m5 : mode ≤ 5) {x y ka ea kb eb : Int} {A B : Nat} {na nb : Bool} (ux : Up f p t S D h x ka ea A na) (uy : Up f p t S D h y kb eb B nb) (hn : ka = 3 ∨ kb = 3) :
    (∀ w, Calls Tryd.prog 10 #[.int .i64 f, .int .i64 mode, .int .u64 x, .int .u64 y] w fun e w' => e = .returned (.tuple #[.int .u64 ((2 * t + 1) * h + h / 2), .int .i64 (nfg t h S x y)]) ∧ Below w.heap.size w w') ∧
      (∀ w, Tabs w → Calls Tryd.prog 8 #[.int .i64 f, .int .i64 mode, .int .u64 x, .int .u64 y] w fun e w' => e = .returned (.tuple #[.int .u64 ((2 * t + 1) * h + h / 2), .int .i64 (nfg t h S x y)]) ∧ Below w.heap.size w w') := by
  obtain ⟨h33, h34, h37⟩ := fr2 hF mode m1 m5 ux.x0 ux.xD uy.x0 uy.xD
  have e : (decide ((2 * t + 1) * h < sz S x) || decide ((2 * t + 1) * h < sz S y)) = true := by
    rcases hn with hn | hn
    · simp [ux.nan.1 hn]
    · simp [uy.nan.1 hn]
  rw [e] at h34 h37
  exact ⟨fun w => sadd_nan f mode x y _ _ w h33 h34, fun w hs => iadd_early f mode x y _ _ w (early2 _ h37 w hs)⟩

theorem Up.inff {f p t S D h x K E : Int} {M : Nat} {n : Bool} (u : Up f p t S D h x K E M n) (hk : K = 2) : x = (2 * t + 1) * h + (if n then S else 0) := by
  have := u.sgn (by omega)
  rwa [u.inf hk] at this

set_option maxRecDepth 100000 in
set_option maxHeartbeats 1000000 in
/-- Both sides of Add, at numbers that are no NaNs. -/
theorem add_at {f wd p t S D h q : Int} (hF : Frm f wd p t S D h q) (mode : Int) (m1 : 1 ≤ mode) (m5 : mode ≤ 5) {x y ka ea kb eb : Int} {A B : Nat} {na nb : Bool} (ux : Up f p t S D h x ka ea A na) (uy : Up f p t S D h y kb eb B nb) (na3 : ka ≠ 3) (nb3 : kb ≠ 3) :
    (∀ w, Calls Tryd.prog 10 #[.int .i64 f, .int .i64 mode, .int .u64 x, .int .u64 y] w fun e w' => e = .returned (.tuple #[.int .u64 (addV p t h S mode ka ea na A kb eb nb B), .int .i64 (addF p t h mode ka ea na A kb eb nb B)]) ∧ Below w.heap.size w w') ∧
      (∀ w, Tabs w → Calls Tryd.prog 8 #[.int .i64 f, .int .i64 mode, .int .u64 x, .int .u64 y] w fun e w' => e = .returned (.tuple #[.int .u64 (addV p t h S mode ka ea na A kb eb nb B), .int .i64 (addF p t h mode ka ea na A kb eb nb B)]) ∧ Below w.heap.size w w') := by
  obtain ⟨h33, h34, h37⟩ := fr2 hF mode m1 m5 ux.x0 ux.xD uy.x0 uy.xD
  have han : (decide ((2 * t + 1) * h < sz S x) || decide ((2 * t + 1) * h < sz S y)) = false := by
    have n1 : ¬ (2 * t + 1) * h < sz S x := fun e => na3 (ux.nan.2 e)
    have n2 : ¬ (2 * t + 1) * h < sz S y := fun e => nb3 (uy.nan.2 e)
    simp [n1, n2]
  rw [han] at h34 h37
  replace h37 : ∀ W v, Shp W → Lu W v 2 (fun k => if k = 0 then x else y) → Calls Tryd.prog 24 #[.int .i64 f, .int .i64 mode, v] W fun e w' => e = .returned (.tuple #[.int .u64 0, .int .i64 0, .bool false]) ∧ Below W.heap.size W w' := h37
  have hp1 : p ≤ 53 := by rcases hF with ⟨_, _, rfl, _⟩ | ⟨_, _, rfl, _⟩ | ⟨_, _, rfl, _⟩ <;> decide
  have ua1 := ux.spec
  have ua2 := ux.impl
  have ub1 := uy.spec
  have ub2 := uy.impl
  have ha1 := ux.fin
  have ha0 := ux.none
  have hb1 := uy.fin
  have hb0 := uy.none
  have hka := ux.k
  have hkb := uy.k
  have oth : ∀ (K E : Int) (M : Nat) (n : Bool) (l : Int), K ≠ 1 → Rets 26 #[.int .i64 mode, v5 ka ea A 0 na, v5 kb eb B 0 nb] (v5 K E M l n) → ∀ w, Tabs w → Calls Tryd.prog 8 #[.int .i64 f, .int .i64 mode, .int .u64 x, .int .u64 y] w fun e w' => e = .returned (.tuple #[.int .u64 (pkV p t h S mode K E n M), .int .i64 (if K = 3 then 16 else pkF p t h mode K E n M)]) ∧ Below w.heap.size w w' := fun K E M n l hK hW w hs =>
    iadd_on f mode x y _ _ _ _ _ _ _ _ _ _ _ _ w hs.shp hs.brj (early2 _ h37 w hs) ua2 ub2 hW (fun W => narrow_no K E n M l W (by simpa using hK)) (fun W hs' => settle_any hF mode K E n M W hs' (fun e => absurd e hK))
  have fin : ∀ (E : Int) (R : Nat) (n : Bool), 0 < R → R < 340282366920938463463374607431768211456 → -60000 ≤ E → E ≤ 60000 → Rets 26 #[.int .i64 mode, v5 ka ea A 0 na, v5 kb eb B 0 nb] (v5 1 E (R / 18446744073709551616 : Nat) (R % 18446744073709551616 : Nat) n) → ∀ w, Tabs w → Calls Tryd.prog 8 #[.int .i64 f, .int .i64 mode, .int .u64 x, .int .u64 y] w fun e w' => e = .returned (.tuple #[.int .u64 (rndV p t h S mode (E - 64) n R false), .int .i64 (rndF p t h mode (E - 64) n R false)]) ∧ Below w.heap.size w w' := fun E R n r0 r1 e0 e1 hW w hs =>
    iadd_on f mode x y _ _ _ _ _ _ _ _ _ _ _ _ w hs.shp hs.brj (early2 _ h37 w hs) ua2 ub2 hW (fun W => narrow_yes E n R W r0 r1 (by omega) (by omega)) (fun W hs' => settle_wide hF mode E n R r0 r1 e0 e1 W hs')
  have whole : ∀ M : Nat, M * 18446744073709551616 / 18446744073709551616 = M ∧ M * 18446744073709551616 % 18446744073709551616 = 0 := fun M => by omega
  unfold addV addF
  by_cases hxi : ka = 2
  · obtain ⟨a0, e0⟩ := ha0 (by omega)
    by_cases hn : kb = 2 ∧ na ≠ nb
    · obtain ⟨hyi, hn⟩ := hn
      have hne : (na == nb) = false := by simpa using hn
      rw [if_pos ⟨hxi, hyi, hn⟩, if_pos ⟨hxi, hyi, hn⟩]
      refine ⟨fun w => sadd_n f mode x y ka kb ea eb A B _ _ na nb w ⟨hxi, hyi, hne⟩ h33 h34 ua1 ub1 _ (fun w => l1Plain_any hF w), fun w hs => ?_⟩
      have := oth 3 0 0 false 0 (by decide) (by subst hxi hyi; exact addW_n mode ea eb A B 0 0 na nb hn) w hs
      simpa [pkV] using this
    · have hcx : (ka = 2 ∧ (kb = 0 ∨ kb = 1)) ∨ (ka = 2 ∧ kb = 2 ∧ na = nb) := by
        by_cases hk2 : kb = 2
        · exact Or.inr ⟨hxi, hk2, Classical.byContradiction fun e => hn ⟨hk2, e⟩⟩
        · exact Or.inl ⟨hxi, by omega⟩
      rw [if_neg (show ¬ (ka = 2 ∧ kb = 2 ∧ na ≠ nb) from fun e => hn e.2), if_neg (show ¬ (ka = 2 ∧ kb = 2 ∧ na ≠ nb) from fun e => hn e.2), if_pos hxi, if_pos hxi, ← ux.inff hxi]
      refine ⟨fun w => sadd_x f mode x y ka kb ea eb A B _ _ na nb w hcx h33 h34 ua1 ub1, fun w hs => ?_⟩
      have := oth ka ea A na 0 (by omega) (addW_x mode ka kb ea eb A B 0 0 na nb (hcx.imp_right Or.inl)) w hs
      rw [show pkV p t h S mode ka ea na A = x by rw [ux.inff hxi]; subst hxi; simp [pkV], show (if ka = 3 then (16 : Int) else pkF p t h mode ka ea na A) = 0 by subst hxi; simp [pkF]] at this
      exact this
  rw [if_neg (show ¬ (ka = 2 ∧ kb = 2 ∧ na ≠ nb) from fun e => hxi e.1), if_neg (show ¬ (ka = 2 ∧ kb = 2 ∧ na ≠ nb) from fun e => hxi e.1), if_neg hxi, if_neg hxi]
  have hka' : ka = 0 ∨ ka = 1 := by omega
  by_cases hyi : kb = 2
  · rw [if_pos hyi, if_pos hyi, ← uy.inff hyi]
    refine ⟨fun w => sadd_y f mode x y ka kb ea eb A B _ _ na nb w ⟨hka', hyi⟩ h33 h34 ua1 ub1, fun w hs => ?_⟩
    have := oth kb eb B nb 0 (by omega) (addW_y mode ka kb ea eb A B 0 0 na nb (Or.inl ⟨hka', hyi⟩)) w hs
    rw [show pkV p t h S mode kb eb nb B = y by rw [uy.inff hyi]; subst hyi; simp [pkV], show (if kb = 3 then (16 : Int) else pkF p t h mode kb eb nb B) = 0 by subst hyi; simp [pkF]] at this
    exact this
  rw [if_neg hyi, if_neg hyi]
  have hkb' : kb = 0 ∨ kb = 1 := by omega
  have hA1 : A < 9007199254740992 := by
    rcases hka' with e | e
    · have := (ha0 (by omega)).1; omega
    · exact (ha1 e).2.1
  have hB1 : B < 9007199254740992 := by
    rcases hkb' with e | e
    · have := (hb0 (by omega)).1; omega
    · exact (hb1 e).2.1
  have spec : ∀ V F, (∀ W va vb, Nt W va 5 A → Nt W vb 5 B → Calls Tryd.prog 32 #[.int .i64 f, .int .i64 mode, .bool na, va, .int .i64 ea, .bool nb, vb, .int .i64 eb] W fun e w' => e = .returned (.tuple #[.int .u64 V, .int .i64 F]) ∧ Below W.heap.size W w') → ∀ w, Calls Tryd.prog 10 #[.int .i64 f, .int .i64 mode, .int .u64 x, .int .u64 y] w fun e w' => e = .returned (.tuple #[.int .u64 V, .int .i64 F]) ∧ Below w.heap.size w w' := fun V F hS w =>
    sadd_fin f mode x y ka kb ea eb _ _ V F A B na nb w hka' hkb' (by omega) (by omega) h33 h34 ua1 ub1 hS
  rcases hka' with rfl | rfl <;> rcases hkb' with rfl | rfl
  · obtain ⟨rfl, rfl⟩ := ha0 (by decide)
    obtain ⟨rfl, rfl⟩ := hb0 (by decide)
    rw [Nat.zero_mul, (sm_both p t h S mode na nb).1, (sm_both p t h S mode na nb).2]
    refine ⟨spec _ _ (fun W va vb hva hvb => sum_zero hF.form mode 0 0 na nb hva hvb), fun w hs => ?_⟩
    by_cases hn : na = nb
    · have := oth 0 0 0 nb 0 (by decide) (addW_y mode 0 0 0 0 0 0 0 0 na nb (Or.inr (Or.inl ⟨rfl, rfl, hn⟩))) w hs
      subst hn
      simpa [pkV, pkF] using this
    · have := oth 0 0 0 (mode == 5) 0 (by decide) (addW_c mode 0 0 0 0 0 0 na nb hn) w hs
      have e1 : (na && nb || (na != nb) && (mode == 5)) = (mode == 5) := by
        cases na <;> cases nb <;> simp_all
      rw [e1]
      simpa [pkV, pkF] using this
  · obtain ⟨rfl, rfl⟩ := ha0 (by decide)
    obtain ⟨B0, -, b2, b3⟩ := hb1 rfl
    have hB2 : 0 < B * 2 ^ (eb + 9000).toNat := Nat.mul_pos B0 (Nat.pow_pos (by decide))
    obtain ⟨l1, l2⟩ := rnd_low (p := p) (t := t) (h := h) (S := S) (mode := mode) (e := eb) nb B0 (by omega)
    rw [Nat.zero_mul, (sm_left p t h S mode na nb hB2).1, (sm_left p t h S mode na nb hB2).2, l1, l2]
    refine ⟨spec _ _ (fun W va vb hva hvb => sum_left f mode 0 eb _ _ na nb (by omega) hva hvb (round_any hF mode eb nb false hvb B0 (by decide) (by omega) (by omega))), fun w hs => ?_⟩
    have := fin eb (B * 18446744073709551616) nb (by omega) (by omega) (by omega) (by omega) (by rw [(whole B).1, (whole B).2]; exact addW_y mode 0 1 0 eb 0 B 0 0 na nb (Or.inr (Or.inr ⟨rfl, rfl⟩))) w hs
    have r := rnd_scale (p := p) (t := t) (h := h) (S := S) (mode := mode) (e := eb) nb (N := B) (s := 64) B0
    rw [show eb - ((64 : Nat) : Int) = eb - 64 by omega, show (2 : Nat) ^ 64 = 18446744073709551616 by decide] at r
    rw [r.1, r.2] at this
    exact this
  · obtain ⟨rfl, rfl⟩ := hb0 (by decide)
    obtain ⟨A0, -, a2, a3⟩ := ha1 rfl
    have hA2 : 0 < A * 2 ^ (ea + 9000).toNat := Nat.mul_pos A0 (Nat.pow_pos (by decide))
    obtain ⟨l1, l2⟩ := rnd_low (p := p) (t := t) (h := h) (S := S) (mode := mode) (e := ea) na A0 (by omega)
    rw [Nat.zero_mul, (sm_right p t h S mode na nb hA2).1, (sm_right p t h S mode na nb hA2).2, l1, l2]
    refine ⟨spec _ _ (fun W va vb hva hvb => sum_right f mode ea 0 _ _ na nb (by omega) hva hvb (round_any hF mode ea na false hva A0 (by decide) (by omega) (by omega))), fun w hs => ?_⟩
    have := fin ea (A * 18446744073709551616) na (by omega) (by omega) (by omega) (by omega) (by rw [(whole A).1, (whole A).2]; exact addW_x mode 1 0 ea 0 A 0 0 0 na nb (Or.inr (Or.inr ⟨rfl, rfl⟩))) w hs
    have r := rnd_scale (p := p) (t := t) (h := h) (S := S) (mode := mode) (e := ea) na (N := A) (s := 64) A0
    rw [show ea - ((64 : Nat) : Int) = ea - 64 by omega, show (2 : Nat) ^ 64 = 18446744073709551616 by decide] at r
    rw [r.1, r.2] at this
    exact this
  · obtain ⟨A0, -, a2, a3⟩ := ha1 rfl
    obtain ⟨B0, -, b2, b3⟩ := hb1 rfl
    obtain ⟨K, E, R, n, hW, hS⟩ := addF_any mode ea eb (-9000) na nb (A * 18446744073709551616) (B * 18446744073709551616) (by omega) (by omega) (by omega) (by omega) (by omega) (by omega) (by omega) (by omega) (by omega) (by omega)
    rw [(whole A).1, (whole A).2, (whole B).1, (whole B).2] at hW
    have hW' := addW_f mode ea eb A B 0 0 K E _ _ na nb n hW
    have eP : A * 18446744073709551616 * 2 ^ (ea - 64 - -9000).toNat = A * 2 ^ (ea + 9000).toNat := by
      rw [show (ea + 9000).toNat = 64 + (ea - 64 - -9000).toNat by omega, Nat.pow_add, Nat.mul_assoc]
    have eQ : B * 18446744073709551616 * 2 ^ (eb - 64 - -9000).toNat = B * 2 ^ (eb + 9000).toNat := by
      rw [show (eb + 9000).toNat = 64 + (eb - 64 - -9000).toNat by omega, Nat.pow_add, Nat.mul_assoc]
    rw [eP, eQ] at hS
    have hA2 : 0 < A * 2 ^ (ea + 9000).toNat := Nat.mul_pos A0 (Nat.pow_pos (by decide))
    obtain ⟨s1, s2⟩ := sm_of (p := p) (t := t) (h := h) (S := S) hS hp1 hA2
    rw [← s1, ← s2]
    refine ⟨spec _ _ (fun W va vb hva hvb => sum_glue hF mode ea eb na nb A B A0 B0 (by omega) (by omega) (by omega) (by omega) (by omega) (by omega) hS hva hvb), fun w hs => ?_⟩
    rcases hS with ⟨_, _, rfl, rfl, rfl, rfl⟩ | ⟨rfl, r0, r1, e0, e1, _⟩
    · have := oth 0 0 0 (mode == 5) 0 (by decide) hW' w hs
      simpa [pkV, pkF] using this
    · rw [if_neg (by decide), if_neg (by decide)]
      exact fin E R n r0 r1 e0 e1 hW' w hs
end Go.Proofs.YtcpnmcfpnhokgaaDoor
