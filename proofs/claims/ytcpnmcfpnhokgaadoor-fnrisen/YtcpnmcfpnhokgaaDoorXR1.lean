/- What is greater is not less when it is brought into another form: in plain numbers, and what the calls of the law answer. -/
import Derived.Test.YtcpnmcfpnhokgaaDoorY0
import Derived.Test.YtcpnmcfpnhokgaaDoorU9
import Derived.Test.YtcpnmcfpnhokgaaDoorJ9
import Derived.Test.YtcpnmcfpnhokgaaDoorV9
import Derived.Test.YtcpnmcfpnhokgaaDoorC1m
import Derived.Test.YtcpnmcfpnhokgaaDoorT4
namespace Go.Proofs.YtcpnmcfpnhokgaaDoor
open Go.RowKit

theorem Frm.pow2 {f wd p t S D h q : Int} (hF : Frm f wd p t S D h q) : 1 ≤ p ∧ h = ((2 ^ (p - 1).toNat : Nat) : Int) ∧ 0 < h ∧ 2 ≤ t ∧ 0 < S ∧ (2 * t + 1) * h + h / 2 < S ∧ 0 < (2 * t + 1) * h ∧ 0 < h / 2 ∧ 1 ≤ f ∧ f ≤ 3 ∧ D = 2 * S ∧ D ≤ 18446744073709551616 := by
  rcases hF with ⟨rfl, rfl, rfl, rfl, rfl, rfl, rfl, rfl⟩ | ⟨rfl, rfl, rfl, rfl, rfl, rfl, rfl, rfl⟩ | ⟨rfl, rfl, rfl, rfl, rfl, rfl, rfl, rfl⟩ <;> decide

theorem siz_same {p t h mode e e' : Int} (n : Bool) {N N' s s' : Nat} (hN : 0 < N) (he : e - s = e' - s') (hv : N * 2 ^ s = N' * 2 ^ s') : sizV p t h mode e n N = sizV p t h mode e' n N' := by
  have := (rnd_same (p := p) (t := t) (h := h) (S := 0) (mode := mode) n hN he hv).1
  rw [rnd_siz, rnd_siz] at this
  simpa using this

/-- What a number becomes in a form, without its sign. -/
def ksz (p t h mode K E : Int) (n : Bool) (M : Nat) : Int := if K = 0 then 0 else if K = 1 then sizV p t h mode E n M else (2 * t + 1) * h

theorem pk_siz (p t h S mode K E : Int) (n : Bool) (M : Nat) (hK : K = 0 ∨ K = 1 ∨ K = 2) : pkV p t h S mode K E n M = ksz p t h mode K E n M + (if n then S else 0) := by
  unfold pkV ksz
  rcases hK with rfl | rfl | rfl
  · rw [if_pos rfl, if_pos rfl, Int.zero_add]
  · rw [if_neg (show ¬ (1 : Int) = 0 by decide), if_pos rfl, if_neg (show ¬ (1 : Int) = 0 by decide), if_pos rfl, rnd_siz]
  · rw [if_neg (show ¬ (2 : Int) = 0 by decide), if_neg (show ¬ (2 : Int) = 1 by decide), if_pos rfl, if_neg (show ¬ (2 : Int) = 0 by decide), if_neg (show ¬ (2 : Int) = 1 by decide)]

theorem ksz_range {f wd p t S D h q : Int} (hG : Frm f wd p t S D h q) (mode K E : Int) (n : Bool) (M : Nat) : 0 ≤ ksz p t h mode K E n M ∧ ksz p t h mode K E n M ≤ (2 * t + 1) * h := by
  obtain ⟨p1, hh, h0, t2, S0, hS, hi, -⟩ := hG.pow2
  unfold ksz
  repeat' split
  · omega
  · exact ⟨siz_pos n h0 (by omega), siz_top p t h mode E n M⟩
  · omega

/-- Of two sizes' bits the greater are the greater number. -/
theorem val_mono {h a b : Int} {m m' st st' : Nat} (hm : (m : Int) < 2 * h) (hm' : (m' : Int) < 2 * h) (hor : st = 0 ∨ h ≤ m) (hor' : st' = 0 ∨ h ≤ m') (ha : a = st * h + m) (hb : b = st' * h + m') (hab : a ≤ b) (h0 : 0 < h) : m * 2 ^ st ≤ m' * 2 ^ st' := by
  by_cases e : st = st'
  · subst e
    exact Nat.mul_le_mul_right _ (by omega)
  · by_cases l : st < st'
    · have h1 : h ≤ m' := by rcases hor' with e' | e'; omega; exact e'
      have h2 : m ≤ 2 * m' := by omega
      calc m * 2 ^ st ≤ 2 * m' * 2 ^ st := Nat.mul_le_mul_right _ h2
        _ = m' * 2 ^ (st + 1) := by rw [Nat.pow_succ, Nat.mul_comm 2 m', Nat.mul_assoc, Nat.mul_comm 2]
        _ ≤ m' * 2 ^ st' := Nat.mul_le_mul_left _ (Nat.pow_le_pow_right (by decide) l)
    · exfalso
      have h1 : h ≤ m := by rcases hor with e' | e'; omega; exact e'
      have h2 : ((st' + 1 : Nat) : Int) * h ≤ (st : Int) * h := Int.mul_le_mul_of_nonneg_right (by omega) (by omega)
      have h3 : ((st' + 1 : Nat) : Int) * h = (st' : Int) * h + h := by push_cast; rw [Int.add_mul, Int.one_mul]
      omega

theorem ksz_mono {f wd p t S D h q g wd' p' t' S' D' h' q' : Int} (hF : Frm f wd p t S D h q) (hG : Frm g wd' p' t' S' D' h' q') {x y ka ea kb eb : Int} {A B : Nat} {na nb : Bool} (ux : Up f p t S D h x ka ea A na) (uy : Up f p t S D h y kb eb B nb) (a3 : ka ≠ 3) (b3 : kb ≠ 3) (mode : Int) (n : Bool) (hle : sz S x ≤ sz S y) :
    ksz p' t' h' mode ka ea n A ≤ ksz p' t' h' mode kb eb n B := by
  obtain ⟨p1, hh, h0, t2, S0, hS, hi, -⟩ := hF.pow2
  obtain ⟨p1', hh', h0', t2', S0', hS', hi', -⟩ := hG.pow2
  have r1 := ksz_range hG mode ka ea n A
  have r2 := ksz_range hG mode kb eb n B
  have nx : ¬ (2 * t + 1) * h < sz S x := fun e => a3 (ux.nan.2 e)
  have ny : ¬ (2 * t + 1) * h < sz S y := fun e => b3 (uy.nan.2 e)
  rcases ux.k with rfl | rfl | rfl | rfl
  · show (0 : Int) ≤ _
    exact r2.1
  · obtain ⟨m, st, k, ht, ho, hE, hst, hm, hor, hsz, hlt⟩ := ux.bits rfl
    have hA := (ux.fin rfl).1
    obtain ⟨m, rfl⟩ := Int.eq_ofNat_of_zero_le (show 0 ≤ m by rw [ht.eq]; exact Int.mul_nonneg (Int.natCast_nonneg _) (Int.natCast_nonneg _))
    obtain ⟨st, rfl⟩ := Int.eq_ofNat_of_zero_le hst
    have em : m = A * 2 ^ k := by have := ht.eq; exact_mod_cast this
    have m0 : 0 < m := by rw [em]; exact Nat.mul_pos hA (Nat.pow_pos (by decide))
    rcases uy.k with rfl | rfl | rfl | rfl
    · exfalso
      have := uy.zero rfl
      have := Int.mul_nonneg (show (0 : Int) ≤ st by omega) (Int.le_of_lt h0)
      omega
    · obtain ⟨m', st', k', ht', ho', hE', hst', hm', hor', hsz', hlt'⟩ := uy.bits rfl
      have hB := (uy.fin rfl).1
      obtain ⟨m', rfl⟩ := Int.eq_ofNat_of_zero_le (show 0 ≤ m' by rw [ht'.eq]; exact Int.mul_nonneg (Int.natCast_nonneg _) (Int.natCast_nonneg _))
      obtain ⟨st', rfl⟩ := Int.eq_ofNat_of_zero_le hst'
      have em' : m' = B * 2 ^ k' := by have := ht'.eq; exact_mod_cast this
      have hv := val_mono hm hm' (by omega) (by omega) hsz hsz' hle h0
      have s1 : sizV p' t' h' mode ea n A = sizV p' t' h' mode (2 - t - p) n (m * 2 ^ st) := siz_same n (s := st + k) (s' := 0) hA (by omega) (by rw [em, Nat.pow_zero, Nat.mul_one, Nat.mul_assoc, ← Nat.pow_add, Nat.add_comm st])
      have s2 : sizV p' t' h' mode eb n B = sizV p' t' h' mode (2 - t - p) n (m' * 2 ^ st') := siz_same n (s := st' + k') (s' := 0) hB (by omega) (by rw [em', Nat.pow_zero, Nat.mul_one, Nat.mul_assoc, ← Nat.pow_add, Nat.add_comm st'])
      have := siz_mono (p := p') (t := t') (h := h') (mode := mode) (e := 2 - t - p) n p1' hh' (Nat.mul_pos m0 (Nat.pow_pos (n := st) (by decide))) hv
      unfold ksz
      rw [if_neg (by decide), if_pos rfl, if_neg (by decide), if_pos rfl, s1, s2]
      exact this
    · exact r1.2
    · exact absurd rfl b3
  · have e1 := ux.inf rfl
    have : kb = 2 := by
      rcases uy.k with rfl | rfl | rfl | rfl
      · have := uy.zero rfl; omega
      · obtain ⟨_, _, _, _, _, _, _, _, _, _, hlt⟩ := uy.bits rfl
        omega
      · rfl
      · exact absurd rfl b3
    rw [this]
    exact Int.le_refl _
  · exact absurd rfl a3

theorem rk_val {S x s : Int} {n : Bool} (h0 : 0 ≤ s) (h1 : s < S) (hx : x = s + (if n then S else 0)) : rk S x 0 = (if n then -s else s) ∧ sz S x = s := by
  unfold rk sz
  cases n
  · simp at hx ⊢
    rw [if_pos (by omega), if_pos (by omega)]
    omega
  · simp at hx ⊢
    rw [if_neg (by omega), if_neg (by omega)]
    omega

/-- The lesser is not greater in another form. -/
theorem conv_mono {f wd p t S D h q g wd' p' t' S' D' h' q' : Int} (hF : Frm f wd p t S D h q) (hG : Frm g wd' p' t' S' D' h' q') {x y ka ea kb eb : Int} {A B : Nat} {na nb : Bool} (ux : Up f p t S D h x ka ea A na) (uy : Up f p t S D h y kb eb B nb) (a3 : ka ≠ 3) (b3 : kb ≠ 3) (mode : Int) (hlt : rk S x 0 < rk S y 0) :
    rk S' (pkV p' t' h' S' mode ka ea na A) 0 ≤ rk S' (pkV p' t' h' S' mode kb eb nb B) 0 := by
  obtain ⟨p1, hh, h0, t2, S0, hS, hi, hh2, -⟩ := hF.pow2
  obtain ⟨p1', hh', h0', t2', S0', hS', hi', hh2', -⟩ := hG.pow2
  have nx : ¬ (2 * t + 1) * h < sz S x := fun e => a3 (ux.nan.2 e)
  have ny : ¬ (2 * t + 1) * h < sz S y := fun e => b3 (uy.nan.2 e)
  have zx : 0 ≤ sz S x := by have := ux.x0; unfold sz; split <;> omega
  have zy : 0 ≤ sz S y := by have := uy.x0; unfold sz; split <;> omega
  have r1 := (rk_val zx (by omega) (ux.sgn a3)).1
  have r2 := (rk_val zy (by omega) (uy.sgn b3)).1
  have g1 := ksz_range hG mode ka ea na A
  have g2 := ksz_range hG mode kb eb nb B
  have q1 := (rk_val g1.1 (by omega) (pk_siz p' t' h' S' mode ka ea na A (by have := ux.k; omega))).1
  have q2 := (rk_val g2.1 (by omega) (pk_siz p' t' h' S' mode kb eb nb B (by have := uy.k; omega))).1
  rw [r1, r2] at hlt
  rw [q1, q2]
  cases na <;> cases nb
  · simp at hlt ⊢
    exact ksz_mono hF hG ux uy a3 b3 mode false (by omega)
  · simp at hlt ⊢
    omega
  · simp at hlt ⊢
    omega
  · simp at hlt ⊢
    have := ksz_mono hF hG uy ux b3 a3 mode true (by omega)
    omega

/-- 'Called in any world with the tables, function n answers v and leaves old memory as it was.' -/
def Answ (n : Nat) (args : Array Value) (v : Value) : Prop := ∀ w, Tabs w → Calls Tryd.prog n args w fun e w' => e = .returned v ∧ Below w.heap.size w w'

theorem conv_bad {f g mode x : Int} (hB : ∀ w, Shp w → Calls Tryd.prog 34 #[.int .i64 f, .int .u64 x] w fun e w' => e = .returned (.bool false) ∧ w' = w) : Answ 22 #[.int .i64 f, .int .i64 g, .int .i64 mode, .int .u64 x] (.tuple #[.int .u64 0, .int .i64 0]) :=
  fun w hs => conv_no f g mode x w false (hB w hs.shp) (Or.inr (Or.inr rfl))

theorem rndF_range (p t h mode E : Int) (n : Bool) (M : Nat) (b : Bool) : 0 ≤ rndF p t h mode E n M b ∧ rndF p t h mode E n M b ≤ 100 := by
  unfold rndF fOf
  repeat' split
  all_goals decide

/-- Convert at bits of a form. -/
theorem conv_at {f wd p t S D h q g wd' p' t' S' D' h' q' : Int} (hF : Frm f wd p t S D h q) (hG : Frm g wd' p' t' S' D' h' q') {x K E : Int} {M : Nat} {n : Bool} (u : Up f p t S D h x K E M n) (mode : Int) (m1 : 1 ≤ mode) (m5 : mode ≤ 5) :
    Answ 22 #[.int .i64 f, .int .i64 g, .int .i64 mode, .int .u64 x] (.tuple #[.int .u64 (pkV p' t' h' S' mode K E n M), .int .i64 (if sigOf t h S x then pkF p' t' h' mode K E n M + 16 else pkF p' t' h' mode K E n M)]) := by
  obtain ⟨-, -, -, -, -, -, -, -, g1, g3, -⟩ := hG.pow2
  intro w hs
  have hB : Calls Tryd.prog 34 #[.int .i64 f, .int .u64 x] w fun e w' => e = .returned (.bool true) ∧ w' = w := by
    have := isBits_any hF.form x w hs.shp
    rwa [div_ok u.x0 u.xD] at this
  have hFb : 0 ≤ pkF p' t' h' mode K E n M ∧ pkF p' t' h' mode K E n M ≤ 100 := by
    unfold pkF
    split
    · exact rndF_range _ _ _ _ _ _ _ _
    · decide
  exact conv_yes hF g mode x K E M _ _ n (sigOf t h S x) w hs.shp g1 g3 m1 m5 hB (u.impl w hs.shp hs.brj) (fun w hs => packNum_any hG mode K E n M w hs (fun hk => by have := u.fin hk; omega)) (fun w => isSig_any hF x w u.x0 u.xD) hFb.1 hFb.2

theorem pk_range {g wd' p' t' S' D' h' q' : Int} (hG : Frm g wd' p' t' S' D' h' q') (mode K E : Int) (n : Bool) (M : Nat) (hK : K = 0 ∨ K = 1 ∨ K = 2 ∨ K = 3) :
    0 ≤ pkV p' t' h' S' mode K E n M ∧ pkV p' t' h' S' mode K E n M < D' ∧ (K ≠ 3 → ¬ (2 * t' + 1) * h' < sz S' (pkV p' t' h' S' mode K E n M)) := by
  obtain ⟨p1', hh', h0', t2', S0', hS', hi', hh2', -, -, hD, -⟩ := hG.pow2
  by_cases h3 : K = 3
  · subst h3
    have e : pkV p' t' h' S' mode 3 E n M = (2 * t' + 1) * h' + h' / 2 := by simp [pkV]
    rw [e]
    exact ⟨by omega, by omega, fun h => absurd rfl h⟩
  · have g1 := ksz_range hG mode K E n M
    have e := pk_siz p' t' h' S' mode K E n M (by omega)
    refine ⟨?_, ?_, fun _ => ?_⟩
    · rw [e]; split <;> omega
    · rw [e]; split <;> omega
    · rw [(rk_val g1.1 (by omega) e).2]; omega

theorem cmp3_cases (x y : Int) : (cmp3 x y = -1 ∧ x < y) ∨ (cmp3 x y = 0 ∧ x = y) ∨ (cmp3 x y = 1 ∧ y < x) := by
  unfold cmp3
  repeat' split
  all_goals omega

theorem comp_ans (f x y : Int) (hx0 : 0 ≤ x) (hx1 : x < 18446744073709551616) (hy0 : 0 ≤ y) (hy1 : y < 18446744073709551616) : ∃ r : Int, Answ 19 #[.int .i64 f, .int .u64 x, .int .u64 y] (.int .i64 r) := by
  obtain ⟨r, _, h, _⟩ := compare_both f x y hx0 hx1 hy0 hy1
  exact ⟨r, fun w hs => h w hs.shp⟩

/-- What the law's calls answer in one round. -/
def RndR (f x y c g0 mode : Int) : Prop := ∃ X F Y G c' : Int, Answ 22 #[.int .i64 f, .int .i64 g0, .int .i64 mode, .int .u64 x] (.tuple #[.int .u64 X, .int .i64 F]) ∧ Answ 22 #[.int .i64 f, .int .i64 g0, .int .i64 mode, .int .u64 y] (.tuple #[.int .u64 Y, .int .i64 G]) ∧
  Answ 19 #[.int .i64 g0, .int .u64 X, .int .u64 Y] (.int .i64 c') ∧ ¬ (c = -1 ∧ c' = 1) ∧ ¬ (c = 1 ∧ c' = -1)

/-- What the law's calls answer. -/
def FacR (f x y c : Int) : Prop := Answ 19 #[.int .i64 f, .int .u64 x, .int .u64 y] (.int .i64 c) ∧ (∀ w, Calls Tryd.prog 21 #[.int .i64 f, .int .u64 x, .int .u64 y] w fun e w' => e = .returned (.int .i64 c) ∧ Below w.heap.size w w') ∧
  (c = -1 ∨ c = 0 ∨ c = 1 ∨ c = 2) ∧ ∀ g0 mode : Int, 1 ≤ g0 → g0 ≤ 3 → 1 ≤ mode → mode ≤ 5 → RndR f x y c g0 mode

theorem conv_ex (f x : Int) (hx0 : 0 ≤ x) (hx1 : x < 18446744073709551616) {g wd' p' t' S' D' h' q' : Int} (hG : Frm g wd' p' t' S' D' h' q') (mode : Int) (m1 : 1 ≤ mode) (m5 : mode ≤ 5) : ∃ X F : Int, Answ 22 #[.int .i64 f, .int .i64 g, .int .i64 mode, .int .u64 x] (.tuple #[.int .u64 X, .int .i64 F]) ∧ 0 ≤ X ∧ X < 18446744073709551616 := by
  rcases both_no f x hx0 hx1 with ⟨_, hB⟩ | ⟨wd, p, t, S, D, h, q, hF, hD⟩
  · exact ⟨0, 0, conv_bad hB, by decide, by decide⟩
  · obtain ⟨K, E, M, n, u⟩ := unpack_whole hF x hx0 hD
    have r := pk_range hG mode K E n M u.k
    have hD64 := hG.pow2.2.2.2.2.2.2.2.2.2.2.2
    exact ⟨_, _, conv_at hF hG u mode m1 m5, r.1, by omega⟩

theorem facR_of (f x y : Int) (hx0 : 0 ≤ x) (hx1 : x < 18446744073709551616) (hy0 : 0 ≤ y) (hy1 : y < 18446744073709551616) : ∃ c, FacR f x y c := by
  obtain ⟨c, hs, hi, hc⟩ := compare_both f x y hx0 hx1 hy0 hy1
  have easy : ∀ c : Int, (c = 0 ∨ c = 2) → ∀ g0 mode : Int, 1 ≤ g0 → g0 ≤ 3 → 1 ≤ mode → mode ≤ 5 → RndR f x y c g0 mode := fun c hc g0 mode t1 t3 m1 m5 => by
    obtain ⟨wd', p', t', S', D', h', q', hG⟩ := frm_of g0 (by omega)
    obtain ⟨X, F, a1, a2, a3⟩ := conv_ex f x hx0 hx1 hG mode m1 m5
    obtain ⟨Y, G, b1, b2, b3⟩ := conv_ex f y hy0 hy1 hG mode m1 m5
    obtain ⟨c', k⟩ := comp_ans g0 X Y a2 a3 b2 b3
    exact ⟨X, F, Y, G, c', a1, b1, k, by omega, by omega⟩
  rcases hc with rfl | ⟨wd, p, t, S, D, h, q, hF, xD, yD, nx, ny, rfl⟩
  · exact ⟨2, fun w hs => hi w hs.shp, hs, by omega, easy 2 (by omega)⟩
  · refine ⟨_, fun w hs => hi w hs.shp, hs, ?_, fun g0 mode t1 t3 m1 m5 => ?_⟩
    · rcases cmp3_cases (rk S x 0) (rk S y 0) with e | e | e <;> omega
    · obtain ⟨ka, ea, A, na, ux⟩ := unpack_whole hF x hx0 xD
      obtain ⟨kb, eb, B, nb, uy⟩ := unpack_whole hF y hy0 yD
      have a3 : ka ≠ 3 := fun e => nx (ux.nan.1 e)
      have b3 : kb ≠ 3 := fun e => ny (uy.nan.1 e)
      obtain ⟨wd', p', t', S', D', h', q', hG⟩ := frm_of g0 (by omega)
      have r1 := pk_range hG mode ka ea na A ux.k
      have r2 := pk_range hG mode kb eb nb B uy.k
      have hc : Answ 19 #[.int .i64 g0, .int .u64 (pkV p' t' h' S' mode ka ea na A), .int .u64 (pkV p' t' h' S' mode kb eb nb B)] (.int .i64 (cmp3 (rk S' (pkV p' t' h' S' mode ka ea na A) 0) (rk S' (pkV p' t' h' S' mode kb eb nb B) 0))) := fun w hs => by
        have := compare_yes hG _ _ w hs.shp r1.1 r1.2.1 r2.1 r2.2.1
        rwa [if_neg (fun e => e.elim (r1.2.2 a3) (r2.2.2 b3))] at this
      refine ⟨_, _, _, _, _, conv_at hF hG ux mode m1 m5, conv_at hF hG uy mode m1 m5, hc, ?_, ?_⟩
      · rintro ⟨e1, e2⟩
        have l1 : rk S x 0 < rk S y 0 := by rcases cmp3_cases (rk S x 0) (rk S y 0) with e | e | e <;> omega
        have l2 := conv_mono hF hG ux uy a3 b3 mode l1
        rcases cmp3_cases (rk S' (pkV p' t' h' S' mode ka ea na A) 0) (rk S' (pkV p' t' h' S' mode kb eb nb B) 0) with e | e | e <;> omega
      · rintro ⟨e1, e2⟩
        have l1 : rk S y 0 < rk S x 0 := by rcases cmp3_cases (rk S x 0) (rk S y 0) with e | e | e <;> omega
        have l2 := conv_mono hF hG uy ux b3 a3 mode l1
        rcases cmp3_cases (rk S' (pkV p' t' h' S' mode ka ea na A) 0) (rk S' (pkV p' t' h' S' mode kb eb nb B) 0) with e | e | e <;> omega

/-- 2 to the 16 is too great for a half. -/
theorem last_conv : Answ 22 #[.int .i64 3, .int .i64 1, .int .i64 1, .int .u64 4679240012837945344] (.tuple #[.int .u64 31744, .int .i64 5]) := by
  have hF : Frm 3 64 53 1023 9223372036854775808 18446744073709551616 4503599627370496 2048 := Or.inr (Or.inr ⟨rfl, rfl, rfl, rfl, rfl, rfl, rfl, rfl⟩)
  have hG : Frm 1 16 11 15 32768 65536 1024 32 := Or.inl ⟨rfl, rfl, rfl, rfl, rfl, rfl, rfl, rfl⟩
  obtain ⟨K, E, M, n, u⟩ := unpack_whole hF 4679240012837945344 (by decide) (by decide)
  have hs : sz 9223372036854775808 4679240012837945344 = 4679240012837945344 := by decide
  have hK : K = 1 := by
    rcases u.k with rfl | rfl | rfl | rfl
    · have := u.zero rfl; omega
    · rfl
    · have := u.inf rfl; omega
    · have := u.nan.1 rfl; omega
  subst hK
  obtain ⟨m, st, k, ht, ho, hE, hst, hm, hor, hsz, hlt⟩ := u.bits rfl
  have hst' : st = 1038 ∧ m = 4503599627370496 := by omega
  obtain ⟨rfl, rfl⟩ := hst'
  obtain ⟨hM, hk⟩ := ht.unique (b := 1) (k := 52) ⟨Int.le_refl 1, by decide⟩ ho (by decide)
  have hM' : M = 1 := by omega
  have hE' : E = 16 := by omega
  have hn : n = false := by
    have := u.sgn (by decide)
    rw [hs] at this
    cases n
    · rfl
    · simp at this
  rw [hM', hE', hn] at u
  have := conv_at hF hG u 1 (by decide) (by decide)
  have hb : blen 1 = 1 := blen_at (L := 0) (by decide) (by decide)
  have hz : zOf 11 15 1024 1 16 false 1 false = 31744 := by
    have hr := siz_same (p := 11) (t := 15) (h := 1024) (mode := 1) (e := 16) (e' := 6) false (N := 1) (N' := 1024) (s := 10) (s' := 0) (by decide) (by decide) (by decide)
    have hu : uOf 11 15 16 1 = 6 := by unfold uOf; rw [hb]; decide
    unfold zOf kOf
    rw [hu]
    decide
  have e1 : pkV 11 15 1024 32768 1 1 16 false 1 = 31744 := by
    unfold pkV rndV
    rw [hz]
    decide
  have e2 : pkF 11 15 1024 1 1 16 false 1 = 5 := by
    unfold pkF rndF
    rw [hz]
    decide
  have e3 : sigOf 1023 4503599627370496 9223372036854775808 4679240012837945344 = false := by decide
  rw [e1, e2, e3] at this
  exact this
end Go.Proofs.YtcpnmcfpnhokgaaDoor
