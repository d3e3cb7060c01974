/- The law of Add: both sides at every argument. -/
import Derived.Test.YtcpnmcfpnhokgaaDoorA2
import Derived.Test.YtcpnmcfpnhokgaaDoorB2
import Derived.Test.YtcpnmcfpnhokgaaDoorHB3
import Derived.Test.YtcpnmcfpnhokgaaDoorHB5
import Derived.Test.YtcpnmcfpnhokgaaDoorB7
namespace Go.Proofs.YtcpnmcfpnhokgaaDoor
open Go.RowKit

theorem pw32 (n m k : Nat) (h : 32 * n = k + m) : (4294967296 : Nat) ^ n = 2 ^ k * 2 ^ m := by
  rw [← Nat.pow_add, ← h, Nat.pow_mul]

theorem p65 (k : Nat) (h : 65 < k) : 36893488147419103232 < 2 ^ k := Nat.pow_lt_pow_right (m := 65) (a := 2) (by decide) h

theorem num_fits {A B s m k : Nat} (hA : A < 9007199254740992) (hB : B < 9007199254740992) (hs : s ≤ m) (hk : 65 < k) : A + B * 2 ^ s < 2 ^ k * 2 ^ m := by
  have h1 := Nat.mul_le_mul (Nat.le_of_lt hB) (Nat.pow_le_pow_right (n := 2) (by decide) hs)
  have h2 := p65 k hk
  have h3 : 0 < 2 ^ m := Nat.pow_pos (by decide)
  have h5 := Nat.mul_lt_mul_of_pos_right h2 h3
  omega

theorem num_fitk {A B s : Nat} (n m k : Nat) (hn : 32 * n = k + m) (hA : A < 9007199254740992) (hB : B < 9007199254740992) (hs : s ≤ m) (hk : 65 < k) : A + B * 2 ^ s < 4294967296 ^ n := by
  rw [pw32 n m k hn]
  exact num_fits hA hB hs hk

/-- A shifted sum needs no more than 1000 words. -/
theorem num_fit {A B s : Nat} (hA : A < 9007199254740992) (hB : B < 9007199254740992) (hs : s ≤ 4000) : A + B * 2 ^ s < 4294967296 ^ 1000 :=
  num_fitk 1000 4000 28000 (by decide) hA hB hs (by decide)

/-- What a finite wide number settles to. -/
theorem settle_wide {f wd p t S D h q : Int} (hF : Frm f wd p t S D h q) (mode E : Int) (n : Bool) (R : Nat) (h0 : 0 < R) (h1 : R < 340282366920938463463374607431768211456) (hE0 : -60000 ≤ E) (hE1 : E ≤ 60000) (w : World) (hs : Shp w) :
    Calls Tryd.prog 25 #[.int .i64 f, .int .i64 mode, .agg #[.int .i64 1, .bool n, .int .i64 (E - ((128 - blen R : Nat) : Int)), .int .u64 (jam (R * 2 ^ (128 - blen R) / 18446744073709551616) (R * 2 ^ (128 - blen R) % 18446744073709551616) : Nat)]] w fun e w' => e = .returned (.tuple #[.int .u64 (rndV p t h S mode (E - 64) n R false), .int .i64 (rndF p t h mode (E - 64) n R false)]) ∧ Below w.heap.size w w' := by
  have hp1 : p ≤ 53 := by rcases hF with ⟨_, _, rfl, _⟩ | ⟨_, _, rfl, _⟩ | ⟨_, _, rfl, _⟩ <;> decide
  obtain ⟨r1, r2, r3, r4⟩ := rnd_narrow (p := p) (t := t) (h := h) (S := S) (mode := mode) (e := E - 64) n h0 h1 hp1
  rw [show E - 64 + 64 - ((128 - blen R : Nat) : Int) = E - ((128 - blen R : Nat) : Int) by omega] at r1 r2
  have := settle_any hF mode 1 (E - ((128 - blen R : Nat) : Int)) n (jam (R * 2 ^ (128 - blen R) / 18446744073709551616) (R * 2 ^ (128 - blen R) % 18446744073709551616)) w hs (fun _ => ⟨r3, r4, by omega, by omega⟩)
  unfold pkV pkF at this
  rw [if_neg (by decide), if_pos rfl, if_neg (by decide), if_pos rfl, r1, r2] at this
  exact this

/-- What two finite sums, the model's and the program's, have to do with each other. -/
theorem sum_same {p t h S mode g e E : Int} {n1 n2 n s : Bool} {P Q R R' c : Nat} {K : Int} (hp1 : p ≤ 53) (hS : Summed mode g n1 n2 P Q K E R n) (hK : K = 1) (P' Q' : Nat) (hP : P = P' * 2 ^ c) (hQ : Q = Q' * 2 ^ c) (he : e - c = g)
    (hR : (n1 = n2 ∧ s = n1 ∧ R' = P' + Q') ∨ (n1 ≠ n2 ∧ Q' < P' ∧ s = n1 ∧ R' = P' - Q') ∨ (n1 ≠ n2 ∧ P' < Q' ∧ s = n2 ∧ R' = Q' - P')) (hR0 : 0 < R') :
    s = n ∧ rndV p t h S mode e n R' false = rndV p t h S mode (E - 64) n R false ∧ rndF p t h mode e n R' false = rndF p t h mode (E - 64) n R false := by
  have hc : 0 < 2 ^ c := Nat.pow_pos (by decide)
  rcases hS with ⟨_, _, k0, _⟩ | ⟨_, _, _, _, _, T, hT, hr⟩
  · omega
  · have key : s = n ∧ R' * 2 ^ c = T := by
      subst hP hQ
      rw [Nat.mul_lt_mul_right hc, Nat.mul_lt_mul_right hc, ← Nat.add_mul, ← Nat.mul_sub_right_distrib, ← Nat.mul_sub_right_distrib] at hT
      rcases hT with ⟨a, b, d⟩ | ⟨a, a', b, d⟩ | ⟨a, a', b, d⟩ <;> rcases hR with ⟨i, j, k⟩ | ⟨i, i', j, k⟩ | ⟨i, i', j, k⟩
      all_goals first
        | exact absurd a i
        | exact absurd i a
        | (exfalso; omega)
        | exact ⟨j.trans b.symm, by rw [d, k]⟩
    obtain ⟨rfl, rfl⟩ := key
    obtain ⟨d1, d2⟩ := rnd_same (p := p) (t := t) (h := h) (S := S) (mode := mode) (e := e) (e' := g) s (N := R') (N' := R' * 2 ^ c) (s := c) (s' := 0) hR0 (by omega) (by rw [Nat.pow_zero, Nat.mul_one])
    obtain ⟨e1, e2⟩ := hr p t h S mode hp1
    exact ⟨rfl, d1.trans e1.symm, d2.trans e2.symm⟩

/-- A sum that is 0. -/
theorem sum_none {mode g E : Int} {n1 n2 n : Bool} {P Q R R' c : Nat} {K : Int} (hS : Summed mode g n1 n2 P Q K E R n) (hK : K = 0) (P' Q' : Nat) (hP : P = P' * 2 ^ c) (hQ : Q = Q' * 2 ^ c) :
    ¬ ((n1 = n2 ∧ R' = P' + Q') ∨ (n1 ≠ n2 ∧ Q' < P') ∨ (n1 ≠ n2 ∧ P' < Q')) ∧ n1 ≠ n2 ∧ n = (mode == 5) ∧ E = 0 ∧ R = 0 := by
  have hc : 0 < 2 ^ c := Nat.pow_pos (by decide)
  rcases hS with ⟨a, b, _, d, d', d''⟩ | ⟨k, _⟩
  · refine ⟨?_, a, d'', d, d'⟩
    subst hP hQ
    have := Nat.eq_of_mul_eq_mul_right hc b
    rintro (⟨i, _⟩ | ⟨_, i⟩ | ⟨_, i⟩)
    · exact a i
    · omega
    · omega
  · omega

/-- Both sides of Add answer the same. -/
theorem add_both (f mode x y : Int) (hx0 : 0 ≤ x) (hx1 : x < 18446744073709551616) (hy0 : 0 ≤ y) (hy1 : y < 18446744073709551616) :
    ∃ V F : Int, (∀ w, Calls Tryd.prog 10 #[.int .i64 f, .int .i64 mode, .int .u64 x, .int .u64 y] w fun e w' => e = .returned (.tuple #[.int .u64 V, .int .i64 F]) ∧ Below w.heap.size w w') ∧
      (∀ w, Tabs w → Calls Tryd.prog 8 #[.int .i64 f, .int .i64 mode, .int .u64 x, .int .u64 y] w fun e w' => e = .returned (.tuple #[.int .u64 V, .int .i64 F]) ∧ Below w.heap.size w w') := by
  have early : ∀ (v : Value), (∀ W v', Shp W → Lu W v' 2 (fun k => if k = 0 then x else y) → Calls Tryd.prog 24 #[.int .i64 f, .int .i64 mode, v'] W fun e w' => e = .returned v ∧ Below W.heap.size W w') → ∀ w, Tabs w → Calls Tryd.prog 24 #[.int .i64 f, .int .i64 mode, .slice (some ⟨w.heap.size, 0, none⟩) 2 2] (w.alloc (.cells #[.int .u64 x, .int .u64 y] 24)) fun e w' => e = .returned v ∧ Below (w.alloc (.cells #[.int .u64 x, .int .u64 y] 24)).heap.size (w.alloc (.cells #[.int .u64 x, .int .u64 y] 24)) w' :=
    fun v hv w hs => hv _ _ (shp_below hs.shp (shp_pos hs.shp) (below_one _)) (lu_two x y w w.heap.size rfl)
  rcases front f mode 2 (fun k => if k = 0 then x else y) (by decide) (by decide) (fun k _ => by split <;> omega) with ⟨h33, h37⟩ | ⟨pl, fl, h33, h34, h37⟩ | ⟨wd, p, t, S, D, h, q, pl, fl, hF, m1, m5, hk, h33, h34, h37⟩
  · exact ⟨0, 0, fun w => sadd_bad f mode x y w h33, fun w hs => iadd_early f mode x y 0 0 w (early _ h37 w hs)⟩
  · exact ⟨pl, fl, fun w => sadd_nan f mode x y pl fl w h33 h34, fun w hs => iadd_early f mode x y pl fl w (early _ h37 w hs)⟩
  · have hp1 : p ≤ 53 := by rcases hF with ⟨_, _, rfl, _⟩ | ⟨_, _, rfl, _⟩ | ⟨_, _, rfl, _⟩ <;> decide
    have kx : x < D ∧ ¬ (2 * t + 1) * h < sz S x := hk 0 (by decide)
    have ky : y < D ∧ ¬ (2 * t + 1) * h < sz S y := hk 1 (by decide)
    obtain ⟨ka, ea, A, na, ua1, ua2, hka, ha1, ha0, ha3, ha2⟩ := unpack_more hF x hx0 kx.1
    obtain ⟨kb, eb, B, nb, ub1, ub2, hkb, hb1, hb0, hb3, hb2⟩ := unpack_more hF y hy0 ky.1
    have na3 : ka ≠ 3 := fun e => kx.2 (ha3.1 e)
    have nb3 : kb ≠ 3 := fun e => ky.2 (hb3.1 e)
    -- the program's side, where the sum is no finite number
    have oth : ∀ (K E : Int) (M : Nat) (n : Bool) (l : Int), K ≠ 1 → Rets 26 #[.int .i64 mode, v5 ka ea A 0 na, v5 kb eb B 0 nb] (v5 K E M l n) → ∀ w, Tabs w → Calls Tryd.prog 8 #[.int .i64 f, .int .i64 mode, .int .u64 x, .int .u64 y] w fun e w' => e = .returned (.tuple #[.int .u64 (pkV p t h S mode K E n M), .int .i64 (if K = 3 then 16 else pkF p t h mode K E n M)]) ∧ Below w.heap.size w w' := fun K E M n l hK hW w hs =>
      iadd_on f mode x y _ _ _ _ _ _ _ _ _ _ _ _ w hs.shp hs.brj (early _ h37 w hs) ua2 ub2 hW (fun W => narrow_no K E n M l W (by simpa using hK)) (fun W hs' => settle_any hF mode K E n M W hs' (fun e => absurd e hK))
    -- and where it is one
    have fin : ∀ (E : Int) (R : Nat) (n : Bool), 0 < R → R < 340282366920938463463374607431768211456 → -60000 ≤ E → E ≤ 60000 → Rets 26 #[.int .i64 mode, v5 ka ea A 0 na, v5 kb eb B 0 nb] (v5 1 E (R / 18446744073709551616 : Nat) (R % 18446744073709551616 : Nat) n) → ∀ w, Tabs w → Calls Tryd.prog 8 #[.int .i64 f, .int .i64 mode, .int .u64 x, .int .u64 y] w fun e w' => e = .returned (.tuple #[.int .u64 (rndV p t h S mode (E - 64) n R false), .int .i64 (rndF p t h mode (E - 64) n R false)]) ∧ Below w.heap.size w w' := fun E R n r0 r1 e0 e1 hW w hs =>
      iadd_on f mode x y _ _ _ _ _ _ _ _ _ _ _ _ w hs.shp hs.brj (early _ h37 w hs) ua2 ub2 hW (fun W => narrow_yes E n R W r0 r1 (by omega) (by omega)) (fun W hs' => settle_wide hF mode E n R r0 r1 e0 e1 W hs')
    have whole : ∀ M : Nat, M * 18446744073709551616 / 18446744073709551616 = M ∧ M * 18446744073709551616 % 18446744073709551616 = 0 := fun M => by omega
    by_cases hinf : ka = 2 ∨ kb = 2
    · by_cases hxi : ka = 2
      · obtain ⟨a0, e0⟩ := ha0 (by omega)
        by_cases hn : kb = 2 ∧ na ≠ nb
        · obtain ⟨hyi, hn⟩ := hn
          have hne : (na == nb) = false := by simpa using hn
          refine ⟨_, _, fun w => sadd_n f mode x y ka kb ea eb A B pl fl na nb w ⟨hxi, hyi, hne⟩ h33 h34 ua1 ub1 _ (fun w => l1Plain_any hF w), fun w hs => ?_⟩
          have := oth 3 0 0 false 0 (by decide) (by subst hxi hyi; exact addW_n mode ea eb A B 0 0 na nb hn) w hs
          simpa [pkV] using this
        · have hcx : (ka = 2 ∧ (kb = 0 ∨ kb = 1)) ∨ (ka = 2 ∧ kb = 2 ∧ na = nb) := by
            by_cases hk2 : kb = 2
            · exact Or.inr ⟨hxi, hk2, Classical.byContradiction fun e => hn ⟨hk2, e⟩⟩
            · exact Or.inl ⟨hxi, by omega⟩
          refine ⟨_, _, fun w => sadd_x f mode x y ka kb ea eb A B pl fl na nb w hcx h33 h34 ua1 ub1, fun w hs => ?_⟩
          have := oth ka ea A na 0 (by omega) (addW_x mode ka kb ea eb A B 0 0 na nb (hcx.imp_right Or.inl)) w hs
          rw [show pkV p t h S mode ka ea na A = x by subst hxi; rw [ha2 rfl]; simp [pkV], show (if ka = 3 then (16 : Int) else pkF p t h mode ka ea na A) = 0 by subst hxi; simp [pkF]] at this
          exact this
      · have hyi : kb = 2 := by omega
        have hka' : ka = 0 ∨ ka = 1 := by omega
        refine ⟨_, _, fun w => sadd_y f mode x y ka kb ea eb A B pl fl na nb w ⟨hka', hyi⟩ h33 h34 ua1 ub1, fun w hs => ?_⟩
        have := oth kb eb B nb 0 (by omega) (addW_y mode ka kb ea eb A B 0 0 na nb (Or.inl ⟨hka', hyi⟩)) w hs
        rw [show pkV p t h S mode kb eb nb B = y by subst hyi; rw [hb2 rfl]; simp [pkV], show (if kb = 3 then (16 : Int) else pkF p t h mode kb eb nb B) = 0 by subst hyi; simp [pkF]] at this
        exact this
    · have hka' : ka = 0 ∨ ka = 1 := by omega
      have hkb' : kb = 0 ∨ kb = 1 := by omega
      have hA1 : A < 9007199254740992 := by
        rcases hka' with e | e
        · have := (ha0 (by omega)).1; omega
        · exact (ha1 e).2.1
      have hB1 : B < 9007199254740992 := by
        rcases hkb' with e | e
        · have := (hb0 (by omega)).1; omega
        · exact (hb1 e).2.1
      have spec : ∀ V F, (∀ W va vb, Nt W va 5 A → Nt W vb 5 B → Calls Tryd.prog 32 #[.int .i64 f, .int .i64 mode, .bool na, va, .int .i64 ea, .bool nb, vb, .int .i64 eb] W fun e w' => e = .returned (.tuple #[.int .u64 V, .int .i64 F]) ∧ Below W.heap.size W w') → ∀ w, Calls Tryd.prog 10 #[.int .i64 f, .int .i64 mode, .int .u64 x, .int .u64 y] w fun e w' => e = .returned (.tuple #[.int .u64 V, .int .i64 F]) ∧ Below w.heap.size w w' := fun V F hS w =>
        sadd_fin f mode x y ka kb ea eb pl fl V F A B na nb w hka' hkb' (by omega) (by omega) h33 h34 ua1 ub1 hS
      rcases hka' with rfl | rfl <;> rcases hkb' with rfl | rfl
      · obtain ⟨rfl, rfl⟩ := ha0 (by decide)
        obtain ⟨rfl, rfl⟩ := hb0 (by decide)
        refine ⟨_, _, spec _ _ (fun W va vb hva hvb => sum_zero hF.form mode 0 0 na nb hva hvb), fun w hs => ?_⟩
        by_cases hn : na = nb
        · have := oth 0 0 0 nb 0 (by decide) (addW_y mode 0 0 0 0 0 0 0 0 na nb (Or.inr (Or.inl ⟨rfl, rfl, hn⟩))) w hs
          subst hn
          simpa [pkV, pkF] using this
        · have := oth 0 0 0 (mode == 5) 0 (by decide) (addW_c mode 0 0 0 0 0 0 na nb hn) w hs
          have e1 : (na && nb || (na != nb) && (mode == 5)) = (mode == 5) := by
            cases na <;> cases nb <;> simp_all
          rw [e1]
          simpa [pkV, pkF] using this
      · obtain ⟨rfl, rfl⟩ := ha0 (by decide)
        obtain ⟨B0, -, b2, b3⟩ := hb1 rfl
        refine ⟨_, _, spec _ _ (fun W va vb hva hvb => sum_left f mode 0 eb _ _ na nb (by omega) hva hvb (round_any hF mode eb nb false hvb B0 (by decide) (by omega) (by omega))), fun w hs => ?_⟩
        have := fin eb (B * 18446744073709551616) nb (by omega) (by omega) (by omega) (by omega) (by rw [(whole B).1, (whole B).2]; exact addW_y mode 0 1 0 eb 0 B 0 0 na nb (Or.inr (Or.inr ⟨rfl, rfl⟩))) w hs
        have r := rnd_scale (p := p) (t := t) (h := h) (S := S) (mode := mode) (e := eb) nb (N := B) (s := 64) B0
        rw [show eb - ((64 : Nat) : Int) = eb - 64 by omega, show (2 : Nat) ^ 64 = 18446744073709551616 by decide] at r
        rw [r.1, r.2] at this
        exact this
      · obtain ⟨rfl, rfl⟩ := hb0 (by decide)
        obtain ⟨A0, -, a2, a3⟩ := ha1 rfl
        refine ⟨_, _, spec _ _ (fun W va vb hva hvb => sum_right f mode ea 0 _ _ na nb (by omega) hva hvb (round_any hF mode ea na false hva A0 (by decide) (by omega) (by omega))), fun w hs => ?_⟩
        have := fin ea (A * 18446744073709551616) na (by omega) (by omega) (by omega) (by omega) (by rw [(whole A).1, (whole A).2]; exact addW_x mode 1 0 ea 0 A 0 0 0 na nb (Or.inr (Or.inr ⟨rfl, rfl⟩))) w hs
        have r := rnd_scale (p := p) (t := t) (h := h) (S := S) (mode := mode) (e := ea) na (N := A) (s := 64) A0
        rw [show ea - ((64 : Nat) : Int) = ea - 64 by omega, show (2 : Nat) ^ 64 = 18446744073709551616 by decide] at r
        rw [r.1, r.2] at this
        exact this
      · obtain ⟨A0, -, a2, a3⟩ := ha1 rfl
        obtain ⟨B0, -, b2, b3⟩ := hb1 rfl
        obtain ⟨K, E, R, n, hW, hS⟩ := addF_any mode ea eb (-5000) na nb (A * 18446744073709551616) (B * 18446744073709551616) (by omega) (by omega) (by omega) (by omega) (by omega) (by omega) (by omega) (by omega) (by omega) (by omega)
        rw [(whole A).1, (whole A).2, (whole B).1, (whole B).2] at hW
        have hW' := addW_f mode ea eb A B 0 0 K E _ _ na nb n hW
        have eP : A * 18446744073709551616 * 2 ^ (ea - 64 - -5000).toNat = A * 2 ^ (ea + 5000).toNat := by
          rw [show (ea + 5000).toNat = 64 + (ea - 64 - -5000).toNat by omega, Nat.pow_add, Nat.mul_assoc]
        have eQ : B * 18446744073709551616 * 2 ^ (eb - 64 - -5000).toNat = B * 2 ^ (eb + 5000).toNat := by
          rw [show (eb + 5000).toNat = 64 + (eb - 64 - -5000).toNat by omega, Nat.pow_add, Nat.mul_assoc]
        rw [eP, eQ] at hS
        clear eP eQ hW
        have hK01 : K = 0 ∨ K = 1 := by
          rcases hS with ⟨_, _, k, _⟩ | ⟨k, _⟩
          · exact Or.inl k
          · exact Or.inr k
        have cases2 : (∃ c : Nat, ∃ P' Q' : Nat, A * 2 ^ (ea + 5000).toNat = P' * 2 ^ c ∧ B * 2 ^ (eb + 5000).toNat = Q' * 2 ^ c ∧ eb < ea ∧ eb - c = -5000 ∧ P' = A * 2 ^ (ea - eb).toNat ∧ Q' = B) ∨
            (∃ c : Nat, ∃ P' Q' : Nat, A * 2 ^ (ea + 5000).toNat = P' * 2 ^ c ∧ B * 2 ^ (eb + 5000).toNat = Q' * 2 ^ c ∧ ea ≤ eb ∧ ea - c = -5000 ∧ P' = A ∧ Q' = B * 2 ^ (eb - ea).toNat) := by
          by_cases hl : eb < ea
          · refine Or.inl ⟨(eb + 5000).toNat, A * 2 ^ (ea - eb).toNat, B, ?_, rfl, hl, by omega, rfl, rfl⟩
            rw [show (ea + 5000).toNat = (ea - eb).toNat + (eb + 5000).toNat by omega, Nat.pow_add, Nat.mul_assoc]
          · refine Or.inr ⟨(ea + 5000).toNat, A, B * 2 ^ (eb - ea).toNat, rfl, ?_, by omega, by omega, rfl, rfl⟩
            rw [show (eb + 5000).toNat = (eb - ea).toNat + (ea + 5000).toNat by omega, Nat.pow_add, Nat.mul_assoc]
        rcases hK01 with hK | hK
        · refine ⟨if (mode == 5) then S else 0, 0, spec _ _ (fun W va vb hva hvb => ?_), fun w hs => ?_⟩
          · rcases cases2 with ⟨c, P', Q', c1, c2, c3, c4, c5, c6⟩ | ⟨c, P', Q', c1, c2, c3, c4, c5, c6⟩
            · refine sum_hi f mode ea eb _ _ na nb (by omega) (by omega) hva hvb c3 (by omega) (by omega) (fun _ _ => ⟨rfl, fun W => l1Sign_any hF.form (mode == 5) W⟩) (fun W' v s R' hd hv => ?_)
              refine absurd ?_ (sum_none (R' := R') hS hK P' Q' c1 c2).1
              subst c5 c6
              rcases hd with ⟨a, _, d⟩ | ⟨a, b, _⟩ | ⟨a, b, _⟩
              · exact Or.inl ⟨a, d⟩
              · exact Or.inr (Or.inl ⟨a, b⟩)
              · exact Or.inr (Or.inr ⟨a, b⟩)
            · refine sum_lo f mode ea eb _ _ na nb (by omega) (by omega) hva hvb c3 (by omega) (by omega) (fun _ _ => ⟨rfl, fun W => l1Sign_any hF.form (mode == 5) W⟩) (fun W' v s R' hd hv => ?_)
              refine absurd ?_ (sum_none (R' := R') hS hK P' Q' c1 c2).1
              subst c5 c6
              rcases hd with ⟨a, _, d⟩ | ⟨a, b, _⟩ | ⟨a, b, _⟩
              · exact Or.inl ⟨a, d⟩
              · exact Or.inr (Or.inl ⟨a, b⟩)
              · exact Or.inr (Or.inr ⟨a, b⟩)
          · have hz : n = (mode == 5) ∧ E = 0 ∧ R = 0 := by
              rcases hS with ⟨_, _, _, d, d', d''⟩ | ⟨k, _⟩
              · exact ⟨d'', d, d'⟩
              · omega
            obtain ⟨rfl, rfl, rfl⟩ := hz
            subst hK
            have := oth 0 0 0 (mode == 5) 0 (by decide) hW' w hs
            simpa [pkV, pkF] using this
        · have hfacts : 0 < R ∧ R < 340282366920938463463374607431768211456 ∧ -60000 ≤ E ∧ E ≤ 60000 := by
            rcases hS with ⟨_, _, k, _⟩ | ⟨_, a, b, c, d, _⟩
            · omega
            · exact ⟨a, b, c, d⟩
          have hnz : na ≠ nb → A * 2 ^ (ea + 5000).toNat ≠ B * 2 ^ (eb + 5000).toNat := by
            rcases hS with ⟨_, _, k, _⟩ | ⟨_, _, _, _, _, T, hT, _⟩
            · omega
            · intro hne he
              rcases hT with ⟨a, _⟩ | ⟨_, a, _⟩ | ⟨_, a, _⟩
              · exact hne a
              · omega
              · omega
          refine ⟨rndV p t h S mode (E - 64) n R false, rndF p t h mode (E - 64) n R false, spec _ _ (fun W va vb hva hvb => ?_), fun w hs => ?_⟩
          · rcases cases2 with ⟨c, P', Q', c1, c2, c3, c4, c5, c6⟩ | ⟨c, P', Q', c1, c2, c3, c4, c5, c6⟩
            · refine sum_hi f mode ea eb _ _ na nb (by omega) (by omega) hva hvb c3 (by omega) (by omega) (fun hne he => absurd ?_ (hnz hne)) (fun W' v s R' hd hv => ?_)
              · rw [c1, c2, c5, c6, he]
              · have hft := num_fit hB1 hA1 (show (ea - eb).toNat ≤ 4000 by omega)
                have hA2 : 0 < A * 2 ^ (ea - eb).toNat := Nat.mul_pos A0 (Nat.pow_pos (by decide))
                have hpos : 0 < R' ∧ R' ≤ B + A * 2 ^ (ea - eb).toNat := by
                  generalize A * 2 ^ (ea - eb).toNat = z at *
                  rcases hd with ⟨_, _, d⟩ | ⟨_, b, _, d⟩ | ⟨_, b, _, d⟩ <;> omega
                obtain ⟨r1, r2, r3⟩ := sum_same (p := p) (t := t) (h := h) (S := S) (e := eb) hp1 hS hK P' Q' c1 c2 c4 (by rw [c5, c6]; exact hd) hpos.1
                subst r1
                rw [← r2, ← r3]
                exact round_any hF mode eb s false (hv.fit (k := 1000) (Nat.lt_of_le_of_lt hpos.2 hft)) hpos.1 (by decide) (by omega) (by omega)
            · refine sum_lo f mode ea eb _ _ na nb (by omega) (by omega) hva hvb c3 (by omega) (by omega) (fun hne he => absurd ?_ (hnz hne)) (fun W' v s R' hd hv => ?_)
              · rw [c1, c2, c5, c6, ← he]
              · have hft := num_fit hA1 hB1 (show (eb - ea).toNat ≤ 4000 by omega)
                have hB2 : 0 < B * 2 ^ (eb - ea).toNat := Nat.mul_pos B0 (Nat.pow_pos (by decide))
                have hpos : 0 < R' ∧ R' ≤ A + B * 2 ^ (eb - ea).toNat := by
                  generalize B * 2 ^ (eb - ea).toNat = z at *
                  rcases hd with ⟨_, _, d⟩ | ⟨_, b, _, d⟩ | ⟨_, b, _, d⟩ <;> omega
                obtain ⟨r1, r2, r3⟩ := sum_same (p := p) (t := t) (h := h) (S := S) (e := ea) hp1 hS hK P' Q' c1 c2 c4 (by rw [c5, c6]; exact hd) hpos.1
                subst r1
                rw [← r2, ← r3]
                exact round_any hF mode ea s false (hv.fit (k := 1000) (Nat.lt_of_le_of_lt hpos.2 hft)) hpos.1 (by decide) (by omega) (by omega)
          · subst hK
            exact fin E R n hfacts.1 hfacts.2.1 hfacts.2.2.1 hfacts.2.2.2 hW' w hs

end Go.Proofs.YtcpnmcfpnhokgaaDoor
