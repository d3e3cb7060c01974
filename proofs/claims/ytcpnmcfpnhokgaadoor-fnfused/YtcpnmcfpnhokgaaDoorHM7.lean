/- What both sides say of a list of bits before they reckon: wrong arguments, NaNs, or on. -/
import Derived.Test.YtcpnmcfpnhokgaaDoorT4
import Derived.Test.YtcpnmcfpnhokgaaDoorZ2
import Derived.Test.YtcpnmcfpnhokgaaDoorV1
import Derived.Test.YtcpnmcfpnhokgaaDoorK2
import Derived.Test.YtcpnmcfpnhokgaaDoorHC1
import Derived.Test.YtcpnmcfpnhokgaaDoorM4
import Derived.Test.YtcpnmcfpnhokgaaDoorHM5
import Derived.Test.YtcpnmcfpnhokgaaDoorHJ0
import Derived.Test.YtcpnmcfpnhokgaaDoorR2
namespace Go.Proofs.YtcpnmcfpnhokgaaDoor
open Go.RowKit

theorem allB_all {b : Nat → Bool} {n k : Nat} (h : allB b n = true) (hk : k < n) : b k = true := by
  cases hb : b k
  · rw [allB_no hk hb] at h; cases h
  · rfl

theorem anyB_no {b : Nat → Bool} {n k : Nat} (h : anyB b n = false) (hk : k < n) : b k = false := by
  induction n with
  | zero => omega
  | succ n ih =>
    simp only [anyB, Bool.or_eq_false_iff] at h
    by_cases e : k = n
    · subst e; exact h.2
    · exact ih h.1 (by omega)

theorem anyB_congr {b c : Nat → Bool} {n : Nat} (h : ∀ k, k < n → b k = c k) : anyB b n = anyB c n := by
  induction n with
  | zero => rfl
  | succ n ih => simp only [anyB, ih (fun k hk => h k (by omega)), h n (by omega)]

/-- The three ways: wrong arguments; a NaN; or numbers of one form. -/
theorem front (f mode : Int) (n : Nat) (xs : Nat → Int) (hn : n ≤ 1000) (hn0 : 0 < n) (hx : ∀ k, k < n → 0 ≤ xs k ∧ xs k < 18446744073709551616) :
    ((∀ W v, Lu W v n xs → Calls Tryd.prog 29 #[.int .i64 f, .int .i64 mode, v] W fun e w' => e = .returned (.bool false) ∧ w' = W) ∧
      (∀ W v, Shp W → Lu W v n xs → Calls Tryd.prog 24 #[.int .i64 f, .int .i64 mode, v] W fun e w' => e = .returned (.tuple #[.int .u64 0, .int .i64 0, .bool true]) ∧ Below W.heap.size W w')) ∨
    (∃ pl fl : Int, (∀ W v, Lu W v n xs → Calls Tryd.prog 29 #[.int .i64 f, .int .i64 mode, v] W fun e w' => e = .returned (.bool true) ∧ w' = W) ∧
      (∀ W v, Lu W v n xs → Calls Tryd.prog 30 #[.int .i64 f, v] W fun e w' => e = .returned (.tuple #[.int .u64 pl, .int .i64 fl, .bool true]) ∧ Below W.heap.size W w') ∧
      (∀ W v, Shp W → Lu W v n xs → Calls Tryd.prog 24 #[.int .i64 f, .int .i64 mode, v] W fun e w' => e = .returned (.tuple #[.int .u64 pl, .int .i64 fl, .bool true]) ∧ Below W.heap.size W w')) ∨
    (∃ wd p t S D h q pl fl : Int, Frm f wd p t S D h q ∧ 1 ≤ mode ∧ mode ≤ 5 ∧ (∀ k, k < n → xs k < D ∧ ¬ (2 * t + 1) * h < sz S (xs k)) ∧
      (∀ W v, Lu W v n xs → Calls Tryd.prog 29 #[.int .i64 f, .int .i64 mode, v] W fun e w' => e = .returned (.bool true) ∧ w' = W) ∧
      (∀ W v, Lu W v n xs → Calls Tryd.prog 30 #[.int .i64 f, v] W fun e w' => e = .returned (.tuple #[.int .u64 pl, .int .i64 fl, .bool false]) ∧ Below W.heap.size W w') ∧
      (∀ W v, Shp W → Lu W v n xs → Calls Tryd.prog 24 #[.int .i64 f, .int .i64 mode, v] W fun e w' => e = .returned (.tuple #[.int .u64 0, .int .i64 0, .bool false]) ∧ Below W.heap.size W w')) := by
  have hm : ∃ mo : Bool, (∀ w, Calls Tryd.prog 67 #[.int .i64 mode] w fun e w' => e = .returned (.bool mo) ∧ w' = w) ∧ (mo = true ↔ 1 ≤ mode ∧ mode ≤ 5) := by
    by_cases h : 1 ≤ mode ∧ mode ≤ 5
    · exact ⟨true, fun w => mode_yes mode h.1 h.2 w, by simpa using h⟩
    · exact ⟨false, fun w => mode_no mode (by omega) w, by simpa using h⟩
  obtain ⟨mo, hmo, hmi⟩ := hm
  by_cases hf : f < 1 ∨ 3 < f
  · refine Or.inl ⟨fun W v hv => ?_, fun W v _ _ => early_no f mode v (Or.inl hf)⟩
    have := args_any hv hn f mode (fun _ => false) mo (fun k _ w => l1Are_no f _ w hf) hmo
    rw [allB_no hn0 rfl] at this
    exact this
  · obtain ⟨wd, p, t, S, D, h, q, hF⟩ := frm_of f hf
    have hD0 : 0 < D := by rcases hF with ⟨_, _, _, _, _, rfl, _⟩ | ⟨_, _, _, _, _, rfl, _⟩ | ⟨_, _, _, _, _, rfl, _⟩ <;> decide
    have hlt : ∀ k, k < n → (xs k / D == 0) = true → xs k < D := fun k hk hb => by
      have e : xs k / D = 0 := by simpa using hb
      have e1 := Int.emod_lt_of_pos (xs k) hD0
      have e2 := Int.mul_ediv_add_emod (xs k) D
      rw [e] at e2
      simp at e2
      omega
    have hargs := fun W v (hv : Lu W v n xs) => args_any hv hn f mode (fun k => xs k / D == 0) mo (fun k hk w => l1Are_any hF.form (xs k) (hx k hk).1 (hx k hk).2 w) hmo
    cases hmv : mo
    · rw [hmv] at hargs hmi
      refine Or.inl ⟨fun W v hv => ?_, fun W v _ _ => early_no f mode v (Or.inr (by simp at hmi; omega))⟩
      have := hargs W v hv
      rwa [Bool.and_false] at this
    · rw [hmv] at hargs hmi
      have hm5 := hmi.1 rfl
      have hea := fun W v (hs : Shp W) (hv : Lu W v n xs) => early_any hF hv hn mode hm5.1 hm5.2 hs ((2 * t + 1) * h + h / 2) (fun k => xs k / D == 0) (fun k => decide ((2 * t + 1) * h < sz S (xs k))) (fun k => sigOf t h S (xs k))
        (fun k hk w hs => isBits_any hF.form (xs k) w hs) (fun k hk hb w => isNan_any hF (xs k) w (hx k hk).1 (hlt k hk hb)) (fun k hk hb w => isSig_any hF (xs k) w (hx k hk).1 (hlt k hk hb)) (fun w => plainNan_any hF w)
      cases hal : allB (fun k => xs k / D == 0) n
      · refine Or.inl ⟨fun W v hv => ?_, fun W v hs hv => ?_⟩
        · have := hargs W v hv
          rw [hal] at this
          exact this
        · have := hea W v hs hv
          rw [hal] at this
          exact this
      · have hall : ∀ k, k < n → xs k < D := fun k hk => hlt k hk (allB_all hal hk)
        have hun : ∀ k, ∃ u : Int × Bool × Int × Int, k < n → (∀ w, Calls Tryd.prog 12 #[.int .i64 f, .int .u64 (xs k)] w fun e w' => e = .returned (.agg #[.int .i64 u.1, .bool u.2.1, .int .i64 u.2.2.1, .int .u64 u.2.2.2]) ∧ Below w.heap.size w w') ∧ (u.1 = 3 ↔ (2 * t + 1) * h < sz S (xs k)) := fun k => by
          by_cases hk : k < n
          · obtain ⟨K, E, M, nb, hu, -, -, -, -, h3, -⟩ := unpack_told hF (xs k) (hx k hk).1 (hall k hk)
            exact ⟨⟨K, nb, E, M⟩, fun _ => ⟨hu, h3⟩⟩
          · exact ⟨⟨0, false, 0, 0⟩, fun h => absurd h hk⟩
        obtain ⟨u, hu⟩ := Classical.axiomOfChoice hun
        have hna := fun W v (hv : Lu W v n xs) => nans_any hv hn f ((2 * t + 1) * h + h / 2) (fun k => (u k).1) (fun k => (u k).2.2.1) (fun k => (u k).2.2.2) (fun k => (u k).2.1) (fun k => sigOf t h S (xs k)) (fun k hk w => (hu k hk).1 w) (fun k hk w => signal_any hF (xs k) w (hx k hk).1 (hall k hk)) (fun w => l1Plain_any hF w)
        have hnn : anyB (fun k => (u k).1 == 3) n = anyB (fun k => decide ((2 * t + 1) * h < sz S (xs k))) n := anyB_congr fun k hk => by
          rw [Bool.eq_iff_iff]
          simpa using (hu k hk).2
        rw [hnn] at hna
        have hA : ∀ W v, Lu W v n xs → Calls Tryd.prog 29 #[.int .i64 f, .int .i64 mode, v] W fun e w' => e = .returned (.bool true) ∧ w' = W := fun W v hv => by
          have := hargs W v hv
          rw [hal] at this
          exact this
        cases han : anyB (fun k => decide ((2 * t + 1) * h < sz S (xs k))) n
        · rw [han] at hna
          refine Or.inr (Or.inr ⟨wd, p, t, S, D, h, q, _, _, hF, hm5.1, hm5.2, fun k hk => ⟨hall k hk, by simpa using anyB_no han hk⟩, hA, hna, fun W v hs hv => ?_⟩)
          have := hea W v hs hv
          rw [hal, han] at this
          exact this
        · rw [han] at hna
          refine Or.inr (Or.inl ⟨_, _, hA, hna, fun W v hs hv => ?_⟩)
          have := hea W v hs hv
          rw [hal, han] at this
          exact this
end Go.Proofs.YtcpnmcfpnhokgaaDoor



/- The law of Mul: both sides at every argument. -/
namespace Go.Proofs.YtcpnmcfpnhokgaaDoor
open Go.RowKit

/-- A wide number, made narrow with its lost bits kept as one, is rounded as the wide one. -/
theorem rnd_narrow {p t h S mode e : Int} (neg : Bool) {N : Nat} (hN : 0 < N) (hN1 : N < 340282366920938463463374607431768211456) (hp1 : p ≤ 53) :
    rndV p t h S mode (e + 64 - ((128 - blen N : Nat) : Int)) neg (jam (N * 2 ^ (128 - blen N) / 18446744073709551616) (N * 2 ^ (128 - blen N) % 18446744073709551616)) false = rndV p t h S mode e neg N false ∧
      rndF p t h mode (e + 64 - ((128 - blen N : Nat) : Int)) neg (jam (N * 2 ^ (128 - blen N) / 18446744073709551616) (N * 2 ^ (128 - blen N) % 18446744073709551616)) false = rndF p t h mode e neg N false ∧
      0 < jam (N * 2 ^ (128 - blen N) / 18446744073709551616) (N * 2 ^ (128 - blen N) % 18446744073709551616) ∧ jam (N * 2 ^ (128 - blen N) / 18446744073709551616) (N * 2 ^ (128 - blen N) % 18446744073709551616) < 18446744073709551616 := by
  have hb : blen N ≤ 128 := blen_le (N := N) (L := 128) hN1
  obtain ⟨b0, b1, b2⟩ := blen_pos hN
  have lo : 2 ^ 127 ≤ N * 2 ^ (128 - blen N) := by
    have := Nat.mul_le_mul_right (2 ^ (128 - blen N)) b1
    rwa [← Nat.pow_add, show blen N - 1 + (128 - blen N) = 127 by omega] at this
  have hi : N * 2 ^ (128 - blen N) < 2 ^ 128 := by
    have := Nat.mul_lt_mul_of_pos_right b2 (Nat.pow_pos (n := 128 - blen N) (show 0 < 2 by decide))
    rwa [← Nat.pow_add, show blen N + (128 - blen N) = 128 by omega] at this
  have hQ : 2 ^ 54 ≤ N * 2 ^ (128 - blen N) / 2 ^ 64 := by
    rw [Nat.le_div_iff_mul_le (by decide)]
    exact Nat.le_trans (by decide) lo
  have j := rnd_jam (p := p) (t := t) (h := h) (S := S) (mode := mode) (e := e - ((128 - blen N : Nat) : Int)) neg (N := N * 2 ^ (128 - blen N)) (c := 64) hp1 hQ
  have s := rnd_scale (p := p) (t := t) (h := h) (S := S) (mode := mode) (e := e) neg (N := N) (s := 128 - blen N) hN
  rw [show e - ((128 - blen N : Nat) : Int) + ((64 : Nat) : Int) = e + 64 - ((128 - blen N : Nat) : Int) by omega, s.1, s.2] at j
  refine ⟨j.1, j.2, ?_, ?_⟩
  · show 0 < jam (N * 2 ^ (128 - blen N) / 2 ^ 64) _
    unfold jam
    have : 0 < 2 ^ 54 := by decide
    split <;> omega
  · have hlt : N * 2 ^ (128 - blen N) / 18446744073709551616 < 18446744073709551616 := by
      rw [Nat.div_lt_iff_lt_mul (by decide)]
      exact hi
    unfold jam
    split <;> omega

/-- Both sides of Mul answer the same. -/
theorem mul_both (f mode x y : Int) (hx0 : 0 ≤ x) (hx1 : x < 18446744073709551616) (hy0 : 0 ≤ y) (hy1 : y < 18446744073709551616) :
    ∃ V F : Int, (∀ w, Calls Tryd.prog 18 #[.int .i64 f, .int .i64 mode, .int .u64 x, .int .u64 y] w fun e w' => e = .returned (.tuple #[.int .u64 V, .int .i64 F]) ∧ Below w.heap.size w w') ∧
      (∀ w, Tabs w → Calls Tryd.prog 9 #[.int .i64 f, .int .i64 mode, .int .u64 x, .int .u64 y] w fun e w' => e = .returned (.tuple #[.int .u64 V, .int .i64 F]) ∧ Below w.heap.size w w') := by
  have early : ∀ (v : Value), (∀ W v', Shp W → Lu W v' 2 (fun k => if k = 0 then x else y) → Calls Tryd.prog 24 #[.int .i64 f, .int .i64 mode, v'] W fun e w' => e = .returned v ∧ Below W.heap.size W w') → ∀ w, Tabs w → Calls Tryd.prog 24 #[.int .i64 f, .int .i64 mode, .slice (some ⟨w.heap.size, 0, none⟩) 2 2] (w.alloc (.cells #[.int .u64 x, .int .u64 y] 24)) fun e w' => e = .returned v ∧ Below (w.alloc (.cells #[.int .u64 x, .int .u64 y] 24)).heap.size (w.alloc (.cells #[.int .u64 x, .int .u64 y] 24)) w' :=
    fun v hv w hs => hv _ _ (shp_below hs.shp (shp_pos hs.shp) (below_one _)) (lu_two x y w w.heap.size rfl)
  rcases front f mode 2 (fun k => if k = 0 then x else y) (by decide) (by decide) (fun k _ => by split <;> omega) with ⟨h33, h37⟩ | ⟨pl, fl, h33, h34, h37⟩ | ⟨wd, p, t, S, D, h, q, pl, fl, hF, m1, m5, hk, h33, h34, h37⟩
  · exact ⟨0, 0, fun w => smul_bad f mode x y w h33, fun w hs => imul_early f mode x y 0 0 w (early _ h37 w hs)⟩
  · exact ⟨pl, fl, fun w => smul_nan f mode x y pl fl w h33 h34, fun w hs => imul_early f mode x y pl fl w (early _ h37 w hs)⟩
  · have hp1 : p ≤ 53 := by rcases hF with ⟨_, _, rfl, _⟩ | ⟨_, _, rfl, _⟩ | ⟨_, _, rfl, _⟩ <;> decide
    have kx : x < D ∧ ¬ (2 * t + 1) * h < sz S x := hk 0 (by decide)
    have ky : y < D ∧ ¬ (2 * t + 1) * h < sz S y := hk 1 (by decide)
    obtain ⟨ka, ea, A, na, ua1, ua2, hka, ha1, ha0, ha3, -⟩ := unpack_told hF x hx0 kx.1
    obtain ⟨kb, eb, B, nb, ub1, ub2, hkb, hb1, hb0, hb3, -⟩ := unpack_told hF y hy0 ky.1
    have na3 : ka ≠ 3 := fun e => kx.2 (ha3.1 e)
    have nb3 : kb ≠ 3 := fun e => ky.2 (hb3.1 e)
    by_cases hfin : ka = 1 ∧ kb = 1
    · obtain ⟨rfl, rfl⟩ := hfin
      obtain ⟨A0, A1, a2, a3⟩ := ha1 rfl
      obtain ⟨B0, B1, b2, b3⟩ := hb1 rfl
      have hN : 0 < A * B := Nat.mul_pos A0 B0
      have hN1 : A * B < 340282366920938463463374607431768211456 := Nat.lt_of_lt_of_le (Nat.mul_lt_mul'' A1 B1) (by decide)
      obtain ⟨r1, r2, r3, r4⟩ := rnd_narrow (p := p) (t := t) (h := h) (S := S) (mode := mode) (e := ea + eb) (na != nb) hN hN1 hp1
      have hbl : blen (A * B) ≤ 128 := blen_le (N := A * B) (L := 128) hN1
      refine ⟨rndV p t h S mode (ea + eb) (na != nb) (A * B) false, rndF p t h mode (ea + eb) (na != nb) (A * B) false, fun w => ?_, fun w hs => ?_⟩
      · exact smul_fin f mode x y ea eb _ _ na nb A B w pl fl h33 h34 ua1 ub1 (fun W v hv => round_any hF mode (ea + eb) (na != nb) false hv hN (by decide) (by omega) (by omega)) (by omega) (by omega) (by omega) (by omega) (by omega) (by omega)
      · refine imul_on f mode x y _ _ _ _ _ _ w hs.shp hs.brj (early _ h37 w hs) ua2 ub2 (fun W => mulNums_fin ea eb na nb A B W (by omega) (by omega) (by omega) (by omega) (by omega) (by omega)) (fun W => narrow_yes (ea + eb + 64) (na != nb) (A * B) W hN hN1 (by omega) (by omega)) (fun W hW => ?_)
        have := settle_any hF mode 1 (ea + eb + 64 - ((128 - blen (A * B) : Nat) : Int)) (na != nb) (jam (A * B * 2 ^ (128 - blen (A * B)) / 18446744073709551616) (A * B * 2 ^ (128 - blen (A * B)) % 18446744073709551616)) W hW (fun _ => ⟨r3, r4, by omega, by omega⟩)
        unfold pkV pkF at this
        rw [if_neg (by decide), if_pos rfl, if_neg (by decide), if_pos rfl, r1, r2] at this
        exact this
    · have hka' : ka = 0 ∨ ka = 1 ∨ ka = 2 := by omega
      have hkb' : kb = 0 ∨ kb = 1 ∨ kb = 2 := by omega
      have hK1 : mulK ka kb ≠ 1 := by
        unfold mulK
        repeat' split
        all_goals decide
      refine ⟨_, _, fun w => smul_no hF mode x y ka kb ea eb A B pl fl na nb w hka' hkb' hfin h33 h34 ua1 ub1, fun w hs => ?_⟩
      refine imul_on f mode x y _ _ _ _ _ _ w hs.shp hs.brj (early _ h37 w hs) ua2 ub2 (fun W => mulNums_no ka kb ea eb A B na nb W hka' hkb' hfin) (fun W => narrow_no _ _ _ _ _ W (by simpa using hK1)) (fun W hW => ?_)
      exact settle_any hF mode (mulK ka kb) 0 (mulN ka kb (na != nb)) 0 W hW (fun e => absurd e hK1)

end Go.Proofs.YtcpnmcfpnhokgaaDoor
