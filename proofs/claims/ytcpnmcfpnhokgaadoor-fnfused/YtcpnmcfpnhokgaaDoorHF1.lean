/- The front of an operation, told whole; the sign of a word turned. -/
import Derived.Test.YtcpnmcfpnhokgaaDoorHM7
import Derived.Laws.Bits64
import Derived.Test.YtcpnmcfpnhokgaaDoorB8
namespace Go.Proofs.YtcpnmcfpnhokgaaDoor
open Go.RowKit

theorem xor_two {k j : Nat} (h : k < 2 ^ j) : k ^^^ 2 ^ j = 2 ^ j + k := by
  apply Nat.eq_of_testBit_eq
  intro i
  rw [Nat.testBit_xor, Nat.testBit_two_pow]
  by_cases hi : i = j
  · subst hi
    rw [Nat.testBit_two_pow_add_eq]
    simp
  · rw [decide_eq_false (by omega), Bool.xor_false]
    rcases Nat.lt_or_gt_of_ne hi with h1 | h1
    · rw [Nat.testBit_two_pow_add_gt h1]
    · have h2 : 2 ^ (j + 1) ≤ 2 ^ i := Nat.pow_le_pow_right (by decide) (by omega)
      rw [Nat.pow_succ] at h2
      have a : k.testBit i = false := Nat.testBit_lt_two_pow (by omega)
      have b : (2 ^ j + k).testBit i = false := Nat.testBit_lt_two_pow (by omega)
      rw [a, b]

theorem xor_two' {k j : Nat} (h : k < 2 ^ j) : (2 ^ j + k) ^^^ 2 ^ j = k := by
  rw [← xor_two h, Nat.xor_assoc, Nat.xor_self, Nat.xor_zero]

/-- The bits with the sign turned. -/
def flp (S y : Int) : Int := if y < S then y + S else y - S

theorem xor_flp (j : Nat) (hj : j ≤ 63) (y : Int) (h0 : 0 ≤ y) (h1 : y < 2 * ((2 ^ j : Nat) : Int)) : bits .xor .u64 y ((2 ^ j : Nat) : Int) = flp ((2 ^ j : Nat) : Int) y := by
  obtain ⟨k, rfl⟩ := Int.eq_ofNat_of_zero_le h0
  have hp : 2 ^ j ≤ 2 ^ 63 := Nat.pow_le_pow_right (by decide) hj
  have e63 : (2 : Nat) ^ 63 = 9223372036854775808 := by decide
  rw [e63] at hp
  rw [bits_xor_u64_nat k (2 ^ j) (by omega) (by omega)]
  unfold flp
  by_cases h : k < 2 ^ j
  · rw [xor_two h, if_pos (by omega)]
    omega
  · rw [if_neg (by omega)]
    have := xor_two' (k := k - 2 ^ j) (j := j) (by omega)
    rw [show 2 ^ j + (k - 2 ^ j) = k by omega] at this
    rw [this]
    omega

theorem flip_any {f wd p t S D h q : Int} (hF : Frm f wd p t S D h q) (y : Int) (h0 : 0 ≤ y) (h1 : y < D) :
    bits .xor .u64 y S = flp S y ∧ 0 ≤ flp S y ∧ flp S y < D ∧ D ≤ 18446744073709551616 ∧ sz S (flp S y) = sz S y ∧ flp S y / (h / 2) % 2 = y / (h / 2) % 2 := by
  rcases hF with ⟨rfl, rfl, rfl, rfl, rfl, rfl, rfl, rfl⟩ | ⟨rfl, rfl, rfl, rfl, rfl, rfl, rfl, rfl⟩ | ⟨rfl, rfl, rfl, rfl, rfl, rfl, rfl, rfl⟩
  · refine ⟨xor_flp 15 (by decide) y h0 h1, ?_⟩
    unfold flp sz
    split <;> (refine ⟨by omega, by omega, by omega, ?_, by omega⟩; split <;> omega)
  · refine ⟨xor_flp 31 (by decide) y h0 h1, ?_⟩
    unfold flp sz
    split <;> (refine ⟨by omega, by omega, by omega, ?_, by omega⟩; split <;> omega)
  · refine ⟨xor_flp 63 (by decide) y h0 h1, ?_⟩
    unfold flp sz
    split <;> (refine ⟨by omega, by omega, by omega, ?_, by omega⟩; split <;> omega)

theorem allB_mk {b : Nat → Bool} {n : Nat} (h : ∀ k, k < n → b k = true) : allB b n = true := by
  induction n with
  | zero => rfl
  | succ n ih => simp only [allB, ih (fun k hk => h k (by omega)), h n (by omega), Bool.and_self]

theorem fgB_congr {b c : Nat → Bool} {n : Nat} (h : ∀ k, k < n → b k = c k) : fgB b n = fgB c n := by
  induction n with
  | zero => rfl
  | succ n ih => simp only [fgB, ih (fun k hk => h k (by omega)), h n (by omega)]

/-- What both sides say first of words that are bits of a form. -/
theorem front_good {f wd p t S D h q : Int} (hF : Frm f wd p t S D h q) (mode : Int) (m1 : 1 ≤ mode) (m5 : mode ≤ 5) (n : Nat) (xs : Nat → Int) (hn : n ≤ 1000) (hx : ∀ k, k < n → 0 ≤ xs k ∧ xs k < 18446744073709551616) (hall : ∀ k, k < n → xs k < D) :
    (∀ W v, Lu W v n xs → Calls Tryd.prog 29 #[.int .i64 f, .int .i64 mode, v] W fun e w' => e = .returned (.bool true) ∧ w' = W) ∧
    (∀ W v, Lu W v n xs → Calls Tryd.prog 30 #[.int .i64 f, v] W fun e w' => e = .returned (.tuple #[.int .u64 ((2 * t + 1) * h + h / 2), .int .i64 (fgB (fun k => sigOf t h S (xs k)) n), .bool (anyB (fun k => decide ((2 * t + 1) * h < sz S (xs k))) n)]) ∧ Below W.heap.size W w') ∧
    (∀ W v, Shp W → Lu W v n xs → Calls Tryd.prog 24 #[.int .i64 f, .int .i64 mode, v] W fun e w' => e = .returned (eaV true (anyB (fun k => decide ((2 * t + 1) * h < sz S (xs k))) n) ((2 * t + 1) * h + h / 2) (fgB (fun k => sigOf t h S (xs k)) n)) ∧ Below W.heap.size W w') := by
  have hlt : ∀ k, k < n → (xs k / D == 0) = true := fun k hk => by
    rw [beq_iff_eq]
    exact Int.ediv_eq_zero_of_lt (hx k hk).1 (hall k hk)
  have hal : allB (fun k => xs k / D == 0) n = true := allB_mk hlt
  have hargs := fun W v (hv : Lu W v n xs) => args_any hv hn f mode (fun k => xs k / D == 0) true (fun k hk w => l1Are_any hF.form (xs k) (hx k hk).1 (hx k hk).2 w) (fun w => mode_yes mode m1 m5 w)
  have hea := fun W v (hs : Shp W) (hv : Lu W v n xs) => early_any hF hv hn mode m1 m5 hs ((2 * t + 1) * h + h / 2) (fun k => xs k / D == 0) (fun k => decide ((2 * t + 1) * h < sz S (xs k))) (fun k => sigOf t h S (xs k))
    (fun k hk w hs => isBits_any hF.form (xs k) w hs) (fun k hk _ w => isNan_any hF (xs k) w (hx k hk).1 (hall k hk)) (fun k hk _ w => isSig_any hF (xs k) w (hx k hk).1 (hall k hk)) (fun w => plainNan_any hF w)
  have hun : ∀ k, ∃ u : Int × Bool × Int × Int, k < n → (∀ w, Calls Tryd.prog 12 #[.int .i64 f, .int .u64 (xs k)] w fun e w' => e = .returned (.agg #[.int .i64 u.1, .bool u.2.1, .int .i64 u.2.2.1, .int .u64 u.2.2.2]) ∧ Below w.heap.size w w') ∧ (u.1 = 3 ↔ (2 * t + 1) * h < sz S (xs k)) := fun k => by
    by_cases hk : k < n
    · obtain ⟨K, E, M, nb, hu, -, -, -, -, h3, -⟩ := unpack_told hF (xs k) (hx k hk).1 (hall k hk)
      exact ⟨⟨K, nb, E, M⟩, fun _ => ⟨hu, h3⟩⟩
    · exact ⟨⟨0, false, 0, 0⟩, fun h => absurd h hk⟩
  obtain ⟨u, hu⟩ := Classical.axiomOfChoice hun
  have hna := fun W v (hv : Lu W v n xs) => nans_any hv hn f ((2 * t + 1) * h + h / 2) (fun k => (u k).1) (fun k => (u k).2.2.1) (fun k => (u k).2.2.2) (fun k => (u k).2.1) (fun k => sigOf t h S (xs k)) (fun k hk w => (hu k hk).1 w) (fun k hk w => signal_any hF (xs k) w (hx k hk).1 (hall k hk)) (fun w => l1Plain_any hF w)
  have hnn : anyB (fun k => (u k).1 == 3) n = anyB (fun k => decide ((2 * t + 1) * h < sz S (xs k))) n := anyB_congr fun k hk => by
    rw [Bool.eq_iff_iff]
    simpa using (hu k hk).2
  rw [hnn] at hna
  refine ⟨fun W v hv => ?_, hna, fun W v hs hv => ?_⟩
  · have := hargs W v hv
    rw [hal] at this
    exact this
  · have := hea W v hs hv
    rw [hal] at this
    exact this

/-- Words that are no arguments, or words of a form. -/
theorem front_or (f mode : Int) (n : Nat) (xs : Nat → Int) (hn : n ≤ 1000) (hn0 : 0 < n) (hx : ∀ k, k < n → 0 ≤ xs k ∧ xs k < 18446744073709551616) :
    ((∀ W v, Lu W v n xs → Calls Tryd.prog 29 #[.int .i64 f, .int .i64 mode, v] W fun e w' => e = .returned (.bool false) ∧ w' = W) ∧
      (∀ W v, Shp W → Lu W v n xs → Calls Tryd.prog 24 #[.int .i64 f, .int .i64 mode, v] W fun e w' => e = .returned (.tuple #[.int .u64 0, .int .i64 0, .bool true]) ∧ Below W.heap.size W w')) ∨
    (∃ wd p t S D h q : Int, Frm f wd p t S D h q ∧ 1 ≤ mode ∧ mode ≤ 5 ∧ ∀ k, k < n → xs k < D) := by
  have hm : ∃ mo : Bool, (∀ w, Calls Tryd.prog 67 #[.int .i64 mode] w fun e w' => e = .returned (.bool mo) ∧ w' = w) ∧ (mo = true ↔ 1 ≤ mode ∧ mode ≤ 5) := by
    by_cases h : 1 ≤ mode ∧ mode ≤ 5
    · exact ⟨true, fun w => mode_yes mode h.1 h.2 w, by simpa using h⟩
    · exact ⟨false, fun w => mode_no mode (by omega) w, by simpa using h⟩
  obtain ⟨mo, hmo, hmi⟩ := hm
  by_cases hf : f < 1 ∨ 3 < f
  · refine Or.inl ⟨fun W v hv => ?_, fun W v _ _ => early_no f mode v (Or.inl hf)⟩
    have := args_any hv hn f mode (fun _ => false) mo (fun k _ w => l1Are_no f _ w hf) hmo
    rw [allB_no hn0 rfl] at this
    exact this
  · obtain ⟨wd, p, t, S, D, h, q, hF⟩ := frm_of f hf
    have hD0 : 0 < D := by rcases hF with ⟨_, _, _, _, _, rfl, _⟩ | ⟨_, _, _, _, _, rfl, _⟩ | ⟨_, _, _, _, _, rfl, _⟩ <;> decide
    have hlt : ∀ k, k < n → (xs k / D == 0) = true → xs k < D := fun k hk hb => by
      have e : xs k / D = 0 := by simpa using hb
      have e1 := Int.emod_lt_of_pos (xs k) hD0
      have e2 := Int.mul_ediv_add_emod (xs k) D
      rw [e] at e2
      simp at e2
      omega
    have hargs := fun W v (hv : Lu W v n xs) => args_any hv hn f mode (fun k => xs k / D == 0) mo (fun k hk w => l1Are_any hF.form (xs k) (hx k hk).1 (hx k hk).2 w) hmo
    cases hmv : mo
    · rw [hmv] at hargs hmi
      refine Or.inl ⟨fun W v hv => ?_, fun W v _ _ => early_no f mode v (Or.inr (by simp at hmi; omega))⟩
      have := hargs W v hv
      rwa [Bool.and_false] at this
    · rw [hmv] at hargs hmi
      have hm5 := hmi.1 rfl
      have hea := fun W v (hs : Shp W) (hv : Lu W v n xs) => early_any hF hv hn mode hm5.1 hm5.2 hs ((2 * t + 1) * h + h / 2) (fun k => xs k / D == 0) (fun k => decide ((2 * t + 1) * h < sz S (xs k))) (fun k => sigOf t h S (xs k))
        (fun k hk w hs => isBits_any hF.form (xs k) w hs) (fun k hk hb w => isNan_any hF (xs k) w (hx k hk).1 (hlt k hk hb)) (fun k hk hb w => isSig_any hF (xs k) w (hx k hk).1 (hlt k hk hb)) (fun w => plainNan_any hF w)
      cases hal : allB (fun k => xs k / D == 0) n
      · refine Or.inl ⟨fun W v hv => ?_, fun W v hs hv => ?_⟩
        · have := hargs W v hv
          rw [hal] at this
          exact this
        · have := hea W v hs hv
          rw [hal] at this
          exact this
      · exact Or.inr ⟨wd, p, t, S, D, h, q, hF, hm5.1, hm5.2, fun k hk => hlt k hk (allB_all hal hk)⟩
end Go.Proofs.YtcpnmcfpnhokgaaDoor

/- What the model's sum of two numbers that are not 0 is, by what the program's is. -/
namespace Go.Proofs.YtcpnmcfpnhokgaaDoor
open Go.RowKit

theorem p120 (k : Nat) (h : 120 < k) : 1329227995784915872903807060280344576 < 2 ^ k := Nat.pow_lt_pow_right (m := 120) (a := 2) (by decide) h

theorem num_fits2 {A B s m k : Nat} (hA : A < 81129638414606681695789005144064) (hB : B < 81129638414606681695789005144064) (hs : s ≤ m) (hk : 120 < k) : A + B * 2 ^ s < 2 ^ k * 2 ^ m := by
  have h1 := Nat.mul_le_mul (Nat.le_of_lt hB) (Nat.pow_le_pow_right (n := 2) (by decide) hs)
  have h2 := p120 k hk
  have h3 : 0 < 2 ^ m := Nat.pow_pos (by decide)
  have h5 := Nat.mul_lt_mul_of_pos_right h2 h3
  omega

theorem num_fitk2 {A B s : Nat} (n m k : Nat) (hn : 32 * n = k + m) (hA : A < 81129638414606681695789005144064) (hB : B < 81129638414606681695789005144064) (hs : s ≤ m) (hk : 120 < k) : A + B * 2 ^ s < 4294967296 ^ n := by
  rw [pw32 n m k hn]
  exact num_fits2 hA hB hs hk

/-- What the model's sum of two numbers that are not 0 is, by what the program's is. -/
theorem sum_glue {f wd p t S D h q : Int} (hF : Frm f wd p t S D h q) (mode ea eb : Int) (na nb : Bool) (A B : Nat) (A0 : 0 < A) (B0 : 0 < B) (hA1 : A < 81129638414606681695789005144064) (hB1 : B < 81129638414606681695789005144064) (a2 : -5000 ≤ ea) (a3 : ea ≤ 5000) (b2 : -5000 ≤ eb) (b3 : eb ≤ 5000)
    {K E : Int} {R : Nat} {n : Bool} (hS : Summed mode (-9000) na nb (A * 2 ^ (ea + 9000).toNat) (B * 2 ^ (eb + 9000).toNat) K E R n) {W : World} {va vb : Value} (hva : Nt W va 5 A) (hvb : Nt W vb 5 B) :
    Calls Tryd.prog 32 #[.int .i64 f, .int .i64 mode, .bool na, va, .int .i64 ea, .bool nb, vb, .int .i64 eb] W fun e w' => e = .returned (.tuple #[.int .u64 (if K = 0 then (if (mode == 5) then S else 0) else rndV p t h S mode (E - 64) n R false), .int .i64 (if K = 0 then 0 else rndF p t h mode (E - 64) n R false)]) ∧ Below W.heap.size W w' := by
  have hp1 : p ≤ 53 := by rcases hF with ⟨_, _, rfl, _⟩ | ⟨_, _, rfl, _⟩ | ⟨_, _, rfl, _⟩ <;> decide
  have hK01 : K = 0 ∨ K = 1 := by
    rcases hS with ⟨_, _, k, _⟩ | ⟨k, _⟩
    · exact Or.inl k
    · exact Or.inr k
  have cases2 : (∃ c : Nat, ∃ P' Q' : Nat, A * 2 ^ (ea + 9000).toNat = P' * 2 ^ c ∧ B * 2 ^ (eb + 9000).toNat = Q' * 2 ^ c ∧ eb < ea ∧ eb - c = -9000 ∧ P' = A * 2 ^ (ea - eb).toNat ∧ Q' = B) ∨
      (∃ c : Nat, ∃ P' Q' : Nat, A * 2 ^ (ea + 9000).toNat = P' * 2 ^ c ∧ B * 2 ^ (eb + 9000).toNat = Q' * 2 ^ c ∧ ea ≤ eb ∧ ea - c = -9000 ∧ P' = A ∧ Q' = B * 2 ^ (eb - ea).toNat) := by
    by_cases hl : eb < ea
    · refine Or.inl ⟨(eb + 9000).toNat, A * 2 ^ (ea - eb).toNat, B, ?_, rfl, hl, by omega, rfl, rfl⟩
      rw [show (ea + 9000).toNat = (ea - eb).toNat + (eb + 9000).toNat by omega, Nat.pow_add, Nat.mul_assoc]
    · refine Or.inr ⟨(ea + 9000).toNat, A, B * 2 ^ (eb - ea).toNat, rfl, ?_, by omega, by omega, rfl, rfl⟩
      rw [show (eb + 9000).toNat = (eb - ea).toNat + (ea + 9000).toNat by omega, Nat.pow_add, Nat.mul_assoc]
  rcases hK01 with hK | hK
  · rw [if_pos hK, if_pos hK]
    rcases cases2 with ⟨c, P', Q', c1, c2, c3, c4, c5, c6⟩ | ⟨c, P', Q', c1, c2, c3, c4, c5, c6⟩
    · refine sum_hi f mode ea eb _ _ na nb (by omega) (by omega) hva hvb c3 (by omega) (by omega) (fun _ _ => ⟨rfl, fun W => l1Sign_any hF.form (mode == 5) W⟩) (fun W' v s R' hd hv => ?_)
      refine absurd ?_ (sum_none (R' := R') hS hK P' Q' c1 c2).1
      subst c5 c6
      rcases hd with ⟨a, _, d⟩ | ⟨a, b, _⟩ | ⟨a, b, _⟩
      · exact Or.inl ⟨a, d⟩
      · exact Or.inr (Or.inl ⟨a, b⟩)
      · exact Or.inr (Or.inr ⟨a, b⟩)
    · refine sum_lo f mode ea eb _ _ na nb (by omega) (by omega) hva hvb c3 (by omega) (by omega) (fun _ _ => ⟨rfl, fun W => l1Sign_any hF.form (mode == 5) W⟩) (fun W' v s R' hd hv => ?_)
      refine absurd ?_ (sum_none (R' := R') hS hK P' Q' c1 c2).1
      subst c5 c6
      rcases hd with ⟨a, _, d⟩ | ⟨a, b, _⟩ | ⟨a, b, _⟩
      · exact Or.inl ⟨a, d⟩
      · exact Or.inr (Or.inl ⟨a, b⟩)
      · exact Or.inr (Or.inr ⟨a, b⟩)
  · have hK0 : K ≠ 0 := by omega
    rw [if_neg hK0, if_neg hK0]
    have hnz : na ≠ nb → A * 2 ^ (ea + 9000).toNat ≠ B * 2 ^ (eb + 9000).toNat := by
      rcases hS with ⟨_, _, k, _⟩ | ⟨_, _, _, _, _, T, hT, _⟩
      · omega
      · intro hne he
        rcases hT with ⟨a, _⟩ | ⟨_, a, _⟩ | ⟨_, a, _⟩
        · exact hne a
        · omega
        · omega
    rcases cases2 with ⟨c, P', Q', c1, c2, c3, c4, c5, c6⟩ | ⟨c, P', Q', c1, c2, c3, c4, c5, c6⟩
    · refine sum_hi f mode ea eb _ _ na nb (by omega) (by omega) hva hvb c3 (by omega) (by omega) (fun hne he => absurd ?_ (hnz hne)) (fun W' v s R' hd hv => ?_)
      · rw [c1, c2, c5, c6, he]
      · have hft := num_fitk2 1000 12000 20000 (by decide) hB1 hA1 (show (ea - eb).toNat ≤ 12000 by omega) (by decide)
        have hA2 : 0 < A * 2 ^ (ea - eb).toNat := Nat.mul_pos A0 (Nat.pow_pos (by decide))
        have hpos : 0 < R' ∧ R' ≤ B + A * 2 ^ (ea - eb).toNat := by
          generalize A * 2 ^ (ea - eb).toNat = z at *
          rcases hd with ⟨_, _, d⟩ | ⟨_, b, _, d⟩ | ⟨_, b, _, d⟩ <;> omega
        obtain ⟨r1, r2, r3⟩ := sum_same (p := p) (t := t) (h := h) (S := S) (e := eb) hp1 hS hK P' Q' c1 c2 c4 (by rw [c5, c6]; exact hd) hpos.1
        subst r1
        rw [← r2, ← r3]
        exact round_any hF mode eb s false (hv.fit (k := 1000) (Nat.lt_of_le_of_lt hpos.2 hft)) hpos.1 (by decide) (by omega) (by omega)
    · refine sum_lo f mode ea eb _ _ na nb (by omega) (by omega) hva hvb c3 (by omega) (by omega) (fun hne he => absurd ?_ (hnz hne)) (fun W' v s R' hd hv => ?_)
      · rw [c1, c2, c5, c6, ← he]
      · have hft := num_fitk2 1000 12000 20000 (by decide) hA1 hB1 (show (eb - ea).toNat ≤ 12000 by omega) (by decide)
        have hB2 : 0 < B * 2 ^ (eb - ea).toNat := Nat.mul_pos B0 (Nat.pow_pos (by decide))
        have hpos : 0 < R' ∧ R' ≤ A + B * 2 ^ (eb - ea).toNat := by
          generalize B * 2 ^ (eb - ea).toNat = z at *
          rcases hd with ⟨_, _, d⟩ | ⟨_, b, _, d⟩ | ⟨_, b, _, d⟩ <;> omega
        obtain ⟨r1, r2, r3⟩ := sum_same (p := p) (t := t) (h := h) (S := S) (e := ea) hp1 hS hK P' Q' c1 c2 c4 (by rw [c5, c6]; exact hd) hpos.1
        subst r1
        rw [← r2, ← r3]
        exact round_any hF mode ea s false (hv.fit (k := 1000) (Nat.lt_of_le_of_lt hpos.2 hft)) hpos.1 (by decide) (by omega) (by omega)
end Go.Proofs.YtcpnmcfpnhokgaaDoor
