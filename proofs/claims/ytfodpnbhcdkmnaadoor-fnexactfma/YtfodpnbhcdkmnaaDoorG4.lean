/- The law of Fma: both sides at every argument. -/
import Derived.Test.YtfodpnbhcdkmnaaDoorB8
import Derived.Test.YtfodpnbhcdkmnaaDoorG1
import Derived.Test.YtfodpnbhcdkmnaaDoorG2
import Derived.Test.YtfodpnbhcdkmnaaDoorG3
namespace Go.Proofs.YtfodpnbhcdkmnaaDoor
open Go.RowKit

theorem p120 (k : Nat) (h : 120 < k) : 1329227995784915872903807060280344576 < 2 ^ k := Nat.pow_lt_pow_right (m := 120) (a := 2) (by decide) h

theorem num_fits2 {A B s m k : Nat} (hA : A < 81129638414606681695789005144064) (hB : B < 81129638414606681695789005144064) (hs : s ≤ m) (hk : 120 < k) : A + B * 2 ^ s < 2 ^ k * 2 ^ m := by
  have h1 := Nat.mul_le_mul (Nat.le_of_lt hB) (Nat.pow_le_pow_right (n := 2) (by decide) hs)
  have h2 := p120 k hk
  have h3 : 0 < 2 ^ m := Nat.pow_pos (by decide)
  have h5 := Nat.mul_lt_mul_of_pos_right h2 h3
  omega

theorem num_fitk2 {A B s : Nat} (n m k : Nat) (hn : 32 * n = k + m) (hA : A < 81129638414606681695789005144064) (hB : B < 81129638414606681695789005144064) (hs : s ≤ m) (hk : 120 < k) : A + B * 2 ^ s < 4294967296 ^ n := by
  rw [pw32 n m k hn]
  exact num_fits2 hA hB hs hk

/-- What the model's sum of two numbers that are not 0 is, by what the program's is. -/
theorem sum_glue {f wd p t S D h q : Int} (hF : Frm f wd p t S D h q) (mode ea eb : Int) (na nb : Bool) (A B : Nat) (A0 : 0 < A) (B0 : 0 < B) (hA1 : A < 81129638414606681695789005144064) (hB1 : B < 81129638414606681695789005144064) (a2 : -5000 ≤ ea) (a3 : ea ≤ 5000) (b2 : -5000 ≤ eb) (b3 : eb ≤ 5000)
    {K E : Int} {R : Nat} {n : Bool} (hS : Summed mode (-9000) na nb (A * 2 ^ (ea + 9000).toNat) (B * 2 ^ (eb + 9000).toNat) K E R n) {W : World} {va vb : Value} (hva : Nt W va 5 A) (hvb : Nt W vb 5 B) :
    Calls Tryd.prog 36 #[.int .i64 f, .int .i64 mode, .bool na, va, .int .i64 ea, .bool nb, vb, .int .i64 eb] W fun e w' => e = .returned (.tuple #[.int .u64 (if K = 0 then (if (mode == 5) then S else 0) else rndV p t h S mode (E - 64) n R false), .int .i64 (if K = 0 then 0 else rndF p t h mode (E - 64) n R false)]) ∧ Below W.heap.size W w' := by
  have hp1 : p ≤ 53 := by rcases hF with ⟨_, _, rfl, _⟩ | ⟨_, _, rfl, _⟩ | ⟨_, _, rfl, _⟩ <;> decide
  have hK01 : K = 0 ∨ K = 1 := by
    rcases hS with ⟨_, _, k, _⟩ | ⟨k, _⟩
    · exact Or.inl k
    · exact Or.inr k
  have cases2 : (∃ c : Nat, ∃ P' Q' : Nat, A * 2 ^ (ea + 9000).toNat = P' * 2 ^ c ∧ B * 2 ^ (eb + 9000).toNat = Q' * 2 ^ c ∧ eb < ea ∧ eb - c = -9000 ∧ P' = A * 2 ^ (ea - eb).toNat ∧ Q' = B) ∨
      (∃ c : Nat, ∃ P' Q' : Nat, A * 2 ^ (ea + 9000).toNat = P' * 2 ^ c ∧ B * 2 ^ (eb + 9000).toNat = Q' * 2 ^ c ∧ ea ≤ eb ∧ ea - c = -9000 ∧ P' = A ∧ Q' = B * 2 ^ (eb - ea).toNat) := by
    by_cases hl : eb < ea
    · refine Or.inl ⟨(eb + 9000).toNat, A * 2 ^ (ea - eb).toNat, B, ?_, rfl, hl, by omega, rfl, rfl⟩
      rw [show (ea + 9000).toNat = (ea - eb).toNat + (eb + 9000).toNat by omega, Nat.pow_add, Nat.mul_assoc]
    · refine Or.inr ⟨(ea + 9000).toNat, A, B * 2 ^ (eb - ea).toNat, rfl, ?_, by omega, by omega, rfl, rfl⟩
      rw [show (eb + 9000).toNat = (eb - ea).toNat + (ea + 9000).toNat by omega, Nat.pow_add, Nat.mul_assoc]
  rcases hK01 with hK | hK
  · rw [if_pos hK, if_pos hK]
    rcases cases2 with ⟨c, P', Q', c1, c2, c3, c4, c5, c6⟩ | ⟨c, P', Q', c1, c2, c3, c4, c5, c6⟩
    · refine sum_hi f mode ea eb _ _ na nb (by omega) (by omega) hva hvb c3 (by omega) (by omega) (fun _ _ => ⟨rfl, fun W => l1Sign_any hF.form (mode == 5) W⟩) (fun W' v s R' hd hv => ?_)
      refine absurd ?_ (sum_none (R' := R') hS hK P' Q' c1 c2).1
      subst c5 c6
      rcases hd with ⟨a, _, d⟩ | ⟨a, b, _⟩ | ⟨a, b, _⟩
      · exact Or.inl ⟨a, d⟩
      · exact Or.inr (Or.inl ⟨a, b⟩)
      · exact Or.inr (Or.inr ⟨a, b⟩)
    · refine sum_lo f mode ea eb _ _ na nb (by omega) (by omega) hva hvb c3 (by omega) (by omega) (fun _ _ => ⟨rfl, fun W => l1Sign_any hF.form (mode == 5) W⟩) (fun W' v s R' hd hv => ?_)
      refine absurd ?_ (sum_none (R' := R') hS hK P' Q' c1 c2).1
      subst c5 c6
      rcases hd with ⟨a, _, d⟩ | ⟨a, b, _⟩ | ⟨a, b, _⟩
      · exact Or.inl ⟨a, d⟩
      · exact Or.inr (Or.inl ⟨a, b⟩)
      · exact Or.inr (Or.inr ⟨a, b⟩)
  · have hK0 : K ≠ 0 := by omega
    rw [if_neg hK0, if_neg hK0]
    have hnz : na ≠ nb → A * 2 ^ (ea + 9000).toNat ≠ B * 2 ^ (eb + 9000).toNat := by
      rcases hS with ⟨_, _, k, _⟩ | ⟨_, _, _, _, _, T, hT, _⟩
      · omega
      · intro hne he
        rcases hT with ⟨a, _⟩ | ⟨_, a, _⟩ | ⟨_, a, _⟩
        · exact hne a
        · omega
        · omega
    rcases cases2 with ⟨c, P', Q', c1, c2, c3, c4, c5, c6⟩ | ⟨c, P', Q', c1, c2, c3, c4, c5, c6⟩
    · refine sum_hi f mode ea eb _ _ na nb (by omega) (by omega) hva hvb c3 (by omega) (by omega) (fun hne he => absurd ?_ (hnz hne)) (fun W' v s R' hd hv => ?_)
      · rw [c1, c2, c5, c6, he]
      · have hft := num_fitk2 1000 12000 20000 (by decide) hB1 hA1 (show (ea - eb).toNat ≤ 12000 by omega) (by decide)
        have hA2 : 0 < A * 2 ^ (ea - eb).toNat := Nat.mul_pos A0 (Nat.pow_pos (by decide))
        have hpos : 0 < R' ∧ R' ≤ B + A * 2 ^ (ea - eb).toNat := by
          generalize A * 2 ^ (ea - eb).toNat = z at *
          rcases hd with ⟨_, _, d⟩ | ⟨_, b, _, d⟩ | ⟨_, b, _, d⟩ <;> omega
        obtain ⟨r1, r2, r3⟩ := sum_same (p := p) (t := t) (h := h) (S := S) (e := eb) hp1 hS hK P' Q' c1 c2 c4 (by rw [c5, c6]; exact hd) hpos.1
        subst r1
        rw [← r2, ← r3]
        exact round_any hF mode eb s false (hv.fit (k := 1000) (Nat.lt_of_le_of_lt hpos.2 hft)) hpos.1 (by decide) (by omega) (by omega)
    · refine sum_lo f mode ea eb _ _ na nb (by omega) (by omega) hva hvb c3 (by omega) (by omega) (fun hne he => absurd ?_ (hnz hne)) (fun W' v s R' hd hv => ?_)
      · rw [c1, c2, c5, c6, ← he]
      · have hft := num_fitk2 1000 12000 20000 (by decide) hA1 hB1 (show (eb - ea).toNat ≤ 12000 by omega) (by decide)
        have hB2 : 0 < B * 2 ^ (eb - ea).toNat := Nat.mul_pos B0 (Nat.pow_pos (by decide))
        have hpos : 0 < R' ∧ R' ≤ A + B * 2 ^ (eb - ea).toNat := by
          generalize B * 2 ^ (eb - ea).toNat = z at *
          rcases hd with ⟨_, _, d⟩ | ⟨_, b, _, d⟩ | ⟨_, b, _, d⟩ <;> omega
        obtain ⟨r1, r2, r3⟩ := sum_same (p := p) (t := t) (h := h) (S := S) (e := ea) hp1 hS hK P' Q' c1 c2 c4 (by rw [c5, c6]; exact hd) hpos.1
        subst r1
        rw [← r2, ← r3]
        exact round_any hF mode ea s false (hv.fit (k := 1000) (Nat.lt_of_le_of_lt hpos.2 hft)) hpos.1 (by decide) (by omega) (by omega)

/-- Both sides of Fma answer the same. -/
theorem fma_both (f mode x y z : Int) (hx0 : 0 ≤ x) (hx1 : x < 18446744073709551616) (hy0 : 0 ≤ y) (hy1 : y < 18446744073709551616) (hz0 : 0 ≤ z) (hz1 : z < 18446744073709551616) :
    ∃ V F : Int, (∀ w, Calls Tryd.prog 18 #[.int .i64 f, .int .i64 mode, .int .u64 x, .int .u64 y, .int .u64 z] w fun e w' => e = .returned (.tuple #[.int .u64 V, .int .i64 F]) ∧ Below w.heap.size w w') ∧
      (∀ w, Tabs w → Calls Tryd.prog 19 #[.int .i64 f, .int .i64 mode, .int .u64 x, .int .u64 y, .int .u64 z] w fun e w' => e = .returned (.tuple #[.int .u64 V, .int .i64 F]) ∧ Below w.heap.size w w') := by
  have early : ∀ (v : Value), (∀ W v', Shp W → Lu W v' 3 (fun k => if k = 0 then x else if k = 1 then y else z) → Calls Tryd.prog 37 #[.int .i64 f, .int .i64 mode, v'] W fun e w' => e = .returned v ∧ Below W.heap.size W w') → ∀ w, Tabs w → Calls Tryd.prog 37 #[.int .i64 f, .int .i64 mode, .slice (some ⟨w.heap.size, 0, none⟩) 3 3] (w.alloc (.cells #[.int .u64 x, .int .u64 y, .int .u64 z] 22)) fun e w' => e = .returned v ∧ Below (w.alloc (.cells #[.int .u64 x, .int .u64 y, .int .u64 z] 22)).heap.size (w.alloc (.cells #[.int .u64 x, .int .u64 y, .int .u64 z] 22)) w' :=
    fun v hv w hs => hv _ _ (shp_below hs.shp (shp_pos hs.shp) (below_one _)) (lu_three x y z w w.heap.size rfl)
  rcases front f mode 3 (fun k => if k = 0 then x else if k = 1 then y else z) (by decide) (by decide) (fun k _ => by split <;> (try split) <;> omega) with ⟨h33, h37⟩ | ⟨pl, fl, h33, h34, h37⟩ | ⟨wd, p, t, S, D, h, q, pl, fl, hF, m1, m5, hk, h33, h34, h37⟩
  · exact ⟨0, 0, fun w => sfma_bad f mode x y z w h33, fun w hs => ifma_early f mode x y z 0 0 w (early _ h37 w hs)⟩
  · exact ⟨pl, fl, fun w => sfma_nan f mode x y z pl fl w h33 h34, fun w hs => ifma_early f mode x y z pl fl w (early _ h37 w hs)⟩
  · have kx : x < D ∧ ¬ (2 * t + 1) * h < sz S x := hk 0 (by decide)
    have ky : y < D ∧ ¬ (2 * t + 1) * h < sz S y := hk 1 (by decide)
    have kz : z < D ∧ ¬ (2 * t + 1) * h < sz S z := hk 2 (by decide)
    obtain ⟨ka, ea, A, na, ua1, ua2, hka, ha1, ha0, ha3, ha2⟩ := unpack_more hF x hx0 kx.1
    obtain ⟨kb, eb, B, nb, ub1, ub2, hkb, hb1, hb0, hb3, hb2⟩ := unpack_more hF y hy0 ky.1
    obtain ⟨kc, ec, C, nc, uc1, uc2, hkc, hc1, hc0, hc3, hc2⟩ := unpack_more hF z hz0 kz.1
    have na3 : ka ≠ 3 := fun e => kx.2 (ha3.1 e)
    have nb3 : kb ≠ 3 := fun e => ky.2 (hb3.1 e)
    have nc3 : kc ≠ 3 := fun e => kz.2 (hc3.1 e)
    have oth : ∀ (km em Mm lm : Int) (nm : Bool) (K E : Int) (M : Nat) (n : Bool) (l : Int), K ≠ 1 → Rets 44 #[.agg #[.int .i64 ka, .bool na, .int .i64 ea, .int .u64 (A : Int)], .agg #[.int .i64 kb, .bool nb, .int .i64 eb, .int .u64 (B : Int)]] (v5 km em Mm lm nm) → Rets 40 #[.int .i64 mode, v5 km em Mm lm nm, v5 kc ec C 0 nc] (v5 K E M l n) → ∀ w, Tabs w → Calls Tryd.prog 19 #[.int .i64 f, .int .i64 mode, .int .u64 x, .int .u64 y, .int .u64 z] w fun e w' => e = .returned (.tuple #[.int .u64 (pkV p t h S mode K E n M), .int .i64 (if K = 3 then 16 else pkF p t h mode K E n M)]) ∧ Below w.heap.size w w' := fun km em Mm lm nm K E M n l hK hX hW w hs =>
      ifma_on f mode x y z _ _ _ _ _ _ _ _ _ _ _ _ _ _ _ w hs.shp hs.brj (early _ h37 w hs) ua2 ub2 uc2 hX hW (fun W => narrow_no K E n M l W (by simpa using hK)) (fun W hs' => settle_any hF mode K E n M W hs' (fun e => absurd e hK))
    have fin : ∀ (km em Mm lm : Int) (nm : Bool) (E : Int) (R : Nat) (n : Bool), 0 < R → R < 340282366920938463463374607431768211456 → -60000 ≤ E → E ≤ 60000 → Rets 44 #[.agg #[.int .i64 ka, .bool na, .int .i64 ea, .int .u64 (A : Int)], .agg #[.int .i64 kb, .bool nb, .int .i64 eb, .int .u64 (B : Int)]] (v5 km em Mm lm nm) → Rets 40 #[.int .i64 mode, v5 km em Mm lm nm, v5 kc ec C 0 nc] (v5 1 E (R / 18446744073709551616 : Nat) (R % 18446744073709551616 : Nat) n) → ∀ w, Tabs w → Calls Tryd.prog 19 #[.int .i64 f, .int .i64 mode, .int .u64 x, .int .u64 y, .int .u64 z] w fun e w' => e = .returned (.tuple #[.int .u64 (rndV p t h S mode (E - 64) n R false), .int .i64 (rndF p t h mode (E - 64) n R false)]) ∧ Below w.heap.size w w' := fun km em Mm lm nm E R n r0 r1 e0 e1 hX hW w hs =>
      ifma_on f mode x y z _ _ _ _ _ _ _ _ _ _ _ _ _ _ _ w hs.shp hs.brj (early _ h37 w hs) ua2 ub2 uc2 hX hW (fun W => narrow_yes E n R W r0 r1 (by omega) (by omega)) (fun W hs' => settle_wide hF mode E n R r0 r1 e0 e1 W hs')
    have whole : ∀ M : Nat, M * 18446744073709551616 / 18446744073709551616 = M ∧ M * 18446744073709551616 % 18446744073709551616 = 0 := fun M => by omega
    have hka' : ka = 0 ∨ ka = 1 ∨ ka = 2 := by omega
    have hkb' : kb = 0 ∨ kb = 1 ∨ kb = 2 := by omega
    have hP := fun w => l1Plain_any hF w
    by_cases hinf : ka = 2 ∨ kb = 2
    · have hno : ¬ (ka = 1 ∧ kb = 1) := by omega
      have hX : Rets 44 #[.agg #[.int .i64 ka, .bool na, .int .i64 ea, .int .u64 (A : Int)], .agg #[.int .i64 kb, .bool nb, .int .i64 eb, .int .u64 (B : Int)]] (v5 (mulK ka kb) 0 0 0 (mulN ka kb (na != nb))) := fun W => mulNums_no ka kb ea eb A B na nb W hka' hkb' hno
      by_cases hzero : ka = 0 ∨ kb = 0
      · rw [show mulK ka kb = 3 by unfold mulK; rw [if_pos ⟨hinf, hzero⟩], show mulN ka kb (na != nb) = false by unfold mulN; rw [if_pos ⟨hinf, hzero⟩]] at hX
        refine ⟨_, _, fun w => sfma_p0 f mode x y z ka kb kc ea eb ec A B C pl fl na nb nc w (by omega) h33 h34 ua1 ub1 uc1 _ hP, fun w hs => ?_⟩
        have := oth _ _ _ _ _ 3 0 0 false 0 (by decide) hX (addW_nan mode kc 0 ec 0 C 0 0 false nc) w hs
        simpa [pkV] using this
      · rw [show mulK ka kb = 2 by unfold mulK; rw [if_neg (by omega), if_pos hinf], show mulN ka kb (na != nb) = (na != nb) by unfold mulN; rw [if_neg (by omega)]] at hX
        have hcond : (ka = 2 ∧ (kb = 1 ∨ kb = 2)) ∨ (ka = 1 ∧ kb = 2) := by omega
        have hI := fun w => l1Inf_any hF (!(na == nb)) w
        by_cases hci : kc = 2
        · cases hn : (nc == !(na == nb))
          · refine ⟨_, _, fun w => sfma_p1 f mode x y z ka kb kc ea eb ec A B C pl fl na nb nc w hcond hci hn h33 h34 ua1 ub1 uc1 _ hP, fun w hs => ?_⟩
            have := oth _ _ _ _ _ 3 0 0 false 0 (by decide) hX (by subst hci; exact addW_n mode 0 ec 0 C 0 0 (na != nb) nc (fun e => by rw [← e] at hn; simp [bne] at hn)) w hs
            simpa [pkV] using this
          · refine ⟨_, _, fun w => sfma_i1 f mode x y z ka kb kc ea eb ec A B C pl fl na nb nc w hcond hci hn h33 h34 ua1 ub1 uc1 _ hI, fun w hs => ?_⟩
            have := oth _ _ _ _ _ 2 0 0 (na != nb) 0 (by decide) hX (addW_x mode 2 kc 0 ec 0 C 0 0 (na != nb) nc (Or.inr (Or.inl ⟨rfl, hci, (eq_of_beq hn).symm⟩))) w hs
            simpa [pkV, pkF, bne] using this
        · refine ⟨_, _, fun w => sfma_i0 f mode x y z ka kb kc ea eb ec A B C pl fl na nb nc w hcond (by simpa using hci) h33 h34 ua1 ub1 uc1 _ hI, fun w hs => ?_⟩
          have := oth _ _ _ _ _ 2 0 0 (na != nb) 0 (by decide) hX (addW_x mode 2 kc 0 ec 0 C 0 0 (na != nb) nc (Or.inl ⟨rfl, by omega⟩)) w hs
          simpa [pkV, pkF, bne] using this
    · have k1 : (ka == 2) = false := by simp; omega
      have k2 : (kb == 2) = false := by simp; omega
      have hA1 : A < 9007199254740992 := by
        rcases hka' with e | e | e
        · have := (ha0 (by omega)).1; omega
        · exact (ha1 e).2.1
        · omega
      have hB1 : B < 9007199254740992 := by
        rcases hkb' with e | e | e
        · have := (hb0 (by omega)).1; omega
        · exact (hb1 e).2.1
        · omega
      have hE : -2148 ≤ ea + eb ∧ ea + eb ≤ 4000 := by
        have h1 : -1074 ≤ ea ∧ ea ≤ 2000 := by
          rcases hka' with e | e | e
          · have := (ha0 (by omega)).2; omega
          · exact (ha1 e).2.2
          · omega
        have h2 : -1074 ≤ eb ∧ eb ≤ 2000 := by
          rcases hkb' with e | e | e
          · have := (hb0 (by omega)).2; omega
          · exact (hb1 e).2.2
          · omega
        omega
      -- the product, finite
      have hX : ∃ (km em : Int) (N : Nat), Rets 44 #[.agg #[.int .i64 ka, .bool na, .int .i64 ea, .int .u64 (A : Int)], .agg #[.int .i64 kb, .bool nb, .int .i64 eb, .int .u64 (B : Int)]] (v5 km em (N / 18446744073709551616 : Nat) (N % 18446744073709551616 : Nat) (na != nb)) ∧ N = A * B ∧ ((km = 0 ∧ N = 0 ∧ em = 0) ∨ (km = 1 ∧ 0 < N ∧ em = ea + eb + 64)) := by
        by_cases hb : ka = 1 ∧ kb = 1
        · obtain ⟨rfl, rfl⟩ := hb
          obtain ⟨A0, -, a2, a3⟩ := ha1 rfl
          obtain ⟨B0, -, b2, b3⟩ := hb1 rfl
          exact ⟨1, ea + eb + 64, A * B, fun W => mulNums_fin ea eb na nb A B W (by omega) (by omega) (by omega) (by omega) (by omega) (by omega), rfl, Or.inr ⟨rfl, Nat.mul_pos A0 B0, rfl⟩⟩
        · have hz : A * B = 0 := by
            by_cases e : ka = 1
            · rw [(hb0 (by omega)).1, Nat.mul_zero]
            · rw [(ha0 e).1, Nat.zero_mul]
          refine ⟨0, 0, 0, fun W => ?_, hz.symm, Or.inl ⟨rfl, rfl, rfl⟩⟩
          have := mulNums_no ka kb ea eb A B na nb W hka' hkb' hb
          rw [show mulK ka kb = 0 by unfold mulK; rw [if_neg (by omega), if_neg hinf], show mulN ka kb (na != nb) = (na != nb) by unfold mulN; rw [if_neg (by omega)]] at this
          exact this
      obtain ⟨km, em, N, hX, hN, hkm⟩ := hX
      have hN1 : N < 81129638414606681695789005144064 := by
        rw [hN]
        exact Nat.mul_lt_mul'' hA1 hB1
      by_cases hci : kc = 2
      · refine ⟨_, _, fun w => sfma_z f mode x y z ka kb kc ea eb ec A B C pl fl na nb nc w k1 k2 hci h33 h34 ua1 ub1 uc1, fun w hs => ?_⟩
        have := oth _ _ _ _ _ kc ec C nc 0 (by omega) hX (addW_y mode km kc em ec _ C _ 0 (na != nb) nc (Or.inl ⟨by omega, hci⟩)) w hs
        rw [show pkV p t h S mode kc ec nc C = z by subst hci; rw [hc2 rfl]; simp [pkV], show (if kc = 3 then (16 : Int) else pkF p t h mode kc ec nc C) = 0 by subst hci; simp [pkF]] at this
        exact this
      · have k3 : (kc == 2) = false := by simpa using hci
        have hkc' : kc = 0 ∨ kc = 1 := by omega
        have hC1 : C < 9007199254740992 := by
          rcases hkc' with e | e
          · have := (hc0 (by omega)).1; omega
          · exact (hc1 e).2.1
        have spec : ∀ V F, (∀ W va vb, Nt W va 5 N → Nt W vb 5 C → Calls Tryd.prog 36 #[.int .i64 f, .int .i64 mode, .bool (na != nb), va, .int .i64 (ea + eb), .bool nc, vb, .int .i64 ec] W fun e w' => e = .returned (.tuple #[.int .u64 V, .int .i64 F]) ∧ Below W.heap.size W w') → ∀ w, Calls Tryd.prog 18 #[.int .i64 f, .int .i64 mode, .int .u64 x, .int .u64 y, .int .u64 z] w fun e w' => e = .returned (.tuple #[.int .u64 V, .int .i64 F]) ∧ Below w.heap.size w w' := fun V F hS w =>
          sfma_fin f mode x y z ka kb kc ea eb ec pl fl V F A B C na nb nc w k1 k2 k3 (by omega) (by omega) (by omega) (wrap_small _ (by omega) (by omega)) h33 h34 ua1 ub1 uc1 (by rw [← hN]; exact hS)
        generalize (na != nb) = s at *
        rcases hkm with ⟨rfl, hN0, rfl⟩ | ⟨rfl, N0, rfl⟩ <;> rcases hkc' with hc' | hc'
        · obtain ⟨cz, ez⟩ := hc0 (by omega)
          rw [hN0] at hX spec
          rw [cz] at spec oth uc2 uc1
          rw [ez] at spec oth
          rw [hc'] at oth
          refine ⟨_, _, spec _ _ (fun W va vb hva hvb => sum_zero hF.form mode (ea + eb) 0 s nc hva hvb), fun w hs => ?_⟩
          by_cases hn : s = nc
          · have := oth _ _ _ _ _ 0 0 0 nc 0 (by decide) hX (addW_y mode 0 0 0 0 _ _ _ 0 s nc (Or.inr (Or.inl ⟨rfl, rfl, hn⟩))) w hs
            subst hn
            simpa [pkV, pkF] using this
          · have := oth _ _ _ _ _ 0 0 0 (mode == 5) 0 (by decide) hX (addW_c mode 0 0 _ _ _ 0 s nc hn) w hs
            have e1 : (s && nc || (s != nc) && (mode == 5)) = (mode == 5) := by
              cases s <;> cases nc <;> simp_all
            rw [e1]
            simpa [pkV, pkF] using this
        · obtain ⟨C0, -, c2, c3⟩ := hc1 hc'
          rw [hN0] at hX spec
          rw [hc'] at fin
          refine ⟨_, _, spec _ _ (fun W va vb hva hvb => sum_left f mode (ea + eb) ec _ _ s nc (by omega) hva hvb (round_any hF mode ec nc false hvb C0 (by decide) (by omega) (by omega))), fun w hs => ?_⟩
          have := fin _ _ _ _ _ ec (C * 18446744073709551616) nc (by omega) (by omega) (by omega) (by omega) hX (by rw [(whole C).1, (whole C).2]; exact addW_y mode 0 1 0 ec _ C _ 0 s nc (Or.inr (Or.inr ⟨rfl, rfl⟩))) w hs
          have r := rnd_scale (p := p) (t := t) (h := h) (S := S) (mode := mode) (e := ec) nc (N := C) (s := 64) C0
          rw [show ec - ((64 : Nat) : Int) = ec - 64 by omega, show (2 : Nat) ^ 64 = 18446744073709551616 by decide] at r
          rw [r.1, r.2] at this
          exact this
        · obtain ⟨cz, ez⟩ := hc0 (by omega)
          rw [cz] at spec fin uc2 uc1
          rw [hc'] at fin
          refine ⟨_, _, spec _ _ (fun W va vb hva hvb => sum_right f mode (ea + eb) ec _ _ s nc (by omega) hva hvb (round_any hF mode (ea + eb) s false hva N0 (by decide) (by omega) (by omega))), fun w hs => ?_⟩
          have := fin _ _ _ _ _ (ea + eb + 64) N s N0 (by omega) (by omega) (by omega) hX (addW_x mode 1 0 (ea + eb + 64) ec _ _ _ 0 s nc (Or.inr (Or.inr ⟨rfl, rfl⟩))) w hs
          rw [show ea + eb + 64 - 64 = ea + eb by omega] at this
          exact this
        · obtain ⟨C0, -, c2, c3⟩ := hc1 hc'
          rw [hc'] at fin oth
          obtain ⟨K, E, R, n, hW, hS⟩ := addF_any mode (ea + eb + 64) ec (-9000) s nc N (C * 18446744073709551616) N0 (by omega) (by omega) (by omega) (by omega) (by omega) (by omega) (by omega) (by omega) (by omega)
          rw [(whole C).1, (whole C).2] at hW
          have hW' := addW_f mode (ea + eb + 64) ec _ C _ 0 K E _ _ s nc n hW
          have eP : N * 2 ^ (ea + eb + 64 - 64 - -9000).toNat = N * 2 ^ (ea + eb + 9000).toNat := by
            rw [show ea + eb + 64 - 64 - -9000 = ea + eb + 9000 by omega]
          have eQ : C * 18446744073709551616 * 2 ^ (ec - 64 - -9000).toNat = C * 2 ^ (ec + 9000).toNat := by
            rw [show (ec + 9000).toNat = 64 + (ec - 64 - -9000).toNat by omega, Nat.pow_add, Nat.mul_assoc]
          rw [eP, eQ] at hS
          refine ⟨_, _, spec _ _ (fun W va vb hva hvb => sum_glue hF mode (ea + eb) ec s nc N C N0 C0 hN1 (by omega) (by omega) (by omega) (by omega) (by omega) hS hva hvb), fun w hs => ?_⟩
          rcases hS with ⟨_, _, rfl, rfl, rfl, rfl⟩ | ⟨rfl, r0, r1, e0, e1, _⟩
          · have := oth _ _ _ _ _ 0 0 0 (mode == 5) 0 (by decide) hX hW' w hs
            simpa [pkV, pkF] using this
          · rw [if_neg (by decide), if_neg (by decide)]
            exact fin _ _ _ _ _ E R n r0 r1 e0 e1 hX hW' w hs

set_option maxHeartbeats 1000000 in
theorem walk_fma0 (f mode x y z V F : Int) (w : World) (hs : Tabs w)
    (hA : ∀ w, Calls Tryd.prog 18 #[.int .i64 f, .int .i64 mode, .int .u64 x, .int .u64 y, .int .u64 z] w fun e w' => e = .returned (.tuple #[.int .u64 V, .int .i64 F]) ∧ Below w.heap.size w w')
    (hB : ∀ w, Tabs w → Calls Tryd.prog 19 #[.int .i64 f, .int .i64 mode, .int .u64 x, .int .u64 y, .int .u64 z] w fun e w' => e = .returned (.tuple #[.int .u64 V, .int .i64 F]) ∧ Below w.heap.size w w') :
    Calls Tryd.prog 7 #[.int .i64 f, .int .i64 mode, .int .u64 x, .int .u64 y, .int .u64 z] w fun e w' => e = .returned (.bool true) ∧ Below w.heap.size w w' := by
  have hA' : Calls Tryd.prog 18 #[.int .i64 f, .int .i64 mode, .int .u64 x, .int .u64 y, .int .u64 z] w fun e w' => e = .returned (.tuple #[.int .u64 V, .int .i64 F]) ∧ Tabs w' ∧ Below w.heap.size w w' := (hA w).mono (by rintro e w' ⟨rfl, h⟩; exact ⟨rfl, ⟨shp_below hs.shp (shp_pos hs.shp) h, Brj.below hs.brj h⟩, h⟩)
  clear hA
  go_enter Tryd.func7, Tryd.ntmps7
  go_wp2_with (first | (go_at_call 18; refine hA'.mono ?_; rintro e w1 ⟨rfl, t1, hb1⟩) | (go_at_call 19; refine (hB _ t1).mono ?_; rintro e w2 ⟨rfl, hb2⟩))
  go_ret
  exact ⟨rfl, bstep hb1 hb2⟩

theorem walk_fma (f mode x y z : Int) (w : World) (hs : Tabs w) (hx0 : 0 ≤ x) (hx1 : x < 18446744073709551616) (hy0 : 0 ≤ y) (hy1 : y < 18446744073709551616) (hz0 : 0 ≤ z) (hz1 : z < 18446744073709551616) :
    Calls Tryd.prog 7 #[.int .i64 f, .int .i64 mode, .int .u64 x, .int .u64 y, .int .u64 z] w fun e w' => e = .returned (.bool true) ∧ Below w.heap.size w w' := by
  obtain ⟨V, F, hA, hB⟩ := fma_both f mode x y z hx0 hx1 hy0 hy1 hz0 hz1
  exact walk_fma0 f mode x y z V F w hs hA hB
end Go.Proofs.YtfodpnbhcdkmnaaDoor
