/- What the calls of the law of fused products answer. -/
import Derived.Test.YtcpnmcfpnhokgaaDoorHX4
import Derived.Test.YtcpnmcfpnhokgaaDoorHX2
import Derived.Test.YtcpnmcfpnhokgaaDoorX3
import Derived.Test.YtcpnmcfpnhokgaaDoorHC1m
import Derived.Test.YtcpnmcfpnhokgaaDoorXF3
namespace Go.Proofs.YtcpnmcfpnhokgaaDoor
open Go.RowKit

theorem up_zero {f wd p t S D h q : Int} (hF : Frm f wd p t S D h q) : Up f p t S D h 0 0 0 0 false := by
  obtain ⟨p1, p53, hh, h0, t2, t1, S0, hS, -, f1, f3, hD, hS2⟩ := hF.pow
  obtain ⟨K, E, M, n, u⟩ := unpack_whole hF 0 (by omega) (by omega)
  have hz : sz S 0 = 0 := by unfold sz; rw [if_pos S0]
  have hpos : 0 < (2 * t + 1) * h := Int.mul_pos (by omega) h0
  have hK : K = 0 := by
    rcases u.k with rfl | rfl | rfl | rfl
    · rfl
    · exfalso
      obtain ⟨m, st, k, ht, ho, hE, hst, hm, hor, hsz, hlt⟩ := u.bits rfl
      have hA := (u.fin rfl).1
      have hm0 : 0 < m := by
        rw [ht.eq]
        exact Int.mul_pos (by omega) (by have := Nat.pow_pos (n := k) (show 0 < 2 by decide); omega)
      have := Int.mul_nonneg hst (Int.le_of_lt h0)
      omega
    · have := u.inf rfl
      omega
    · have := u.nan.1 rfl
      omega
  subst hK
  obtain ⟨hM, hE⟩ := u.none (by decide)
  subst hM hE
  have hn : n = false := by
    cases n
    · rfl
    · have := u.sgn (by decide)
      rw [hz, if_pos rfl] at this
      omega
  subst hn
  exact u

theorem one_good {f wd p t S D h q : Int} (hF : Frm f wd p t S D h q) : Ans 15 #[.int .i64 f] (.int .u64 (t * h)) := by
  obtain ⟨F, hp⟩ := pack_one hF
  obtain ⟨O, hO⟩ : ∃ O, O = t * h := ⟨_, rfl⟩
  rw [← hO] at hp ⊢
  clear hO hF
  intro w hs
  have HS : Hid (Tabs w) := hs
  clear hs
  go_enter Tryd.func15, Tryd.ntmps15
  go_wp2_with (go_at_call 13; refine (hp _ HS.out.shp).mono ?_; rintro e w' ⟨rfl, hb⟩)
  go_ret
  exact ⟨rfl, hb⟩

theorem one_bad {f : Int} (hf : f < 1 ∨ 3 < f) : Ans 15 #[.int .i64 f] (.int .u64 0) := by
  have hp := fun w => pack_no f 1 1 0 1 false w (Or.inl hf)
  clear hf
  intro w _
  go_enter Tryd.func15, Tryd.ntmps15
  go_wp2_with (go_at_call 13; refine (hp _).mono ?_; rintro e w' ⟨rfl, hb⟩)
  go_ret
  exact ⟨rfl, hb⟩

theorem sig_not {f p t S D h x K E : Int} {M : Nat} {n : Bool} (u : Up f p t S D h x K E M n) (h3 : K ≠ 3) : sigOf t h S x = false := by
  have n1 : ¬ (2 * t + 1) * h < sz S x := fun e => h3 (u.nan.2 e)
  unfold sigOf
  rw [decide_eq_false n1, Bool.false_and]

theorem nfg3_last {t h S x y z : Int} (hz : sigOf t h S z = false) : nfg3 t h S x y z = nfg t h S x y := by
  unfold nfg3 nfg
  show (bif sigOf t h S z then (16 : Int) else bif sigOf t h S y then 16 else bif sigOf t h S x then 16 else 0) = (bif sigOf t h S y then 16 else bif sigOf t h S x then 16 else 0)
  rw [hz]
  rfl

theorem nfg3_mid {t h S x y z : Int} (hz : sigOf t h S z = false) : nfg3 t h S x z y = nfg t h S x y := by
  unfold nfg3 nfg
  show (bif sigOf t h S y then (16 : Int) else bif sigOf t h S z then 16 else bif sigOf t h S x then 16 else 0) = (bif sigOf t h S y then 16 else bif sigOf t h S x then 16 else 0)
  rw [hz]
  rfl

theorem fm_one (p t h S mode ka ea kc ec : Int) (na nc : Bool) (A C : Nat) : fmV p t h S mode ka ea na A 1 0 false 1 kc ec nc C = addV p t h S mode ka ea na A kc ec nc C ∧ fmF p t h mode ka ea na A 1 0 false 1 kc ec nc C = addF p t h mode ka ea na A kc ec nc C := by
  unfold fmV fmF addV addF
  have e1 : (na != false) = na := by cases na <;> rfl
  rw [e1, Nat.mul_one, Int.add_zero]
  by_cases ha : ka = 2
  · subst ha
    by_cases hc : kc = 2
    · by_cases hn : na = nc
      · simp [hc, hn]
      · have hn2 : ¬ nc = na := fun e => hn e.symm
        simp [hc, hn, hn2]
    · simp [hc]
  · by_cases hc : kc = 2
    · simp [ha, hc]
    · simp [ha, hc]

theorem fm_zero {f wd p t S D h q : Int} (_ : Frm f wd p t S D h q) (mode : Int) {x y ka ea kb eb : Int} {A B : Nat} {na nb : Bool} (ux : Up f p t S D h x ka ea A na) (uy : Up f p t S D h y kb eb B nb) (_ : ka ≠ 3) (_ : kb ≠ 3) :
    fmF p t h mode ka ea na A kb eb nb B 0 0 false 0 = mlF p t h mode ka ea na A kb eb nb B ∧ (fmV p t h S mode ka ea na A kb eb nb B 0 0 false 0 = mlV p t h S mode ka ea na A kb eb nb B ∨
      ((fmV p t h S mode ka ea na A kb eb nb B 0 0 false 0 = 0 ∨ fmV p t h S mode ka ea na A kb eb nb B 0 0 false 0 = S) ∧ (mlV p t h S mode ka ea na A kb eb nb B = 0 ∨ mlV p t h S mode ka ea na A kb eb nb B = S))) := by
  have hka := ux.k
  have hkb := uy.k
  unfold fmV fmF mlV mlF
  by_cases h2 : ka = 2 ∨ kb = 2
  · rw [if_pos h2, if_pos h2, if_neg (show ¬ (ka = 1 ∧ kb = 1) by omega), if_neg (show ¬ (ka = 1 ∧ kb = 1) by omega)]
    by_cases h0 : ka = 0 ∨ kb = 0
    · have eK : mulK ka kb = 3 := by unfold mulK; rw [if_pos ⟨h2, h0⟩]
      rw [eK, if_pos (Or.inl h0), if_pos (Or.inl h0), if_pos rfl]
      exact ⟨rfl, Or.inl rfl⟩
    · have hn : ¬ ((ka = 2 ∨ kb = 2) ∧ (ka = 0 ∨ kb = 0)) := fun e => h0 e.2
      have eK : mulK ka kb = 2 := by unfold mulK; rw [if_neg hn, if_pos h2]
      have eN : mulN ka kb (na != nb) = (na != nb) := by unfold mulN; rw [if_neg hn]
      have hc : ¬ ((ka = 0 ∨ kb = 0) ∨ ((0 : Int) = 2 ∧ false ≠ (na != nb))) := fun e => by rcases e with e | e; exact h0 e; exact absurd e.1 (by decide)
      rw [eK, eN, if_neg hc, if_neg hc, if_neg (show ¬ (2 : Int) = 3 by decide)]
      exact ⟨rfl, Or.inl rfl⟩
  · rw [if_neg h2, if_neg h2, if_neg (show ¬ (0 : Int) = 2 by decide), if_neg (show ¬ (0 : Int) = 2 by decide), Nat.zero_mul]
    by_cases h1 : ka = 1 ∧ kb = 1
    · rw [if_pos h1, if_pos h1]
      have a := ux.fin h1.1
      have b := uy.fin h1.2
      have hAB : 0 < A * B := Nat.mul_pos a.1 b.1
      have r := sm_right p t h S mode (na != nb) false (P := A * B * 2 ^ (ea + eb + 9000).toNat) (Nat.mul_pos hAB (Nat.pow_pos (by decide)))
      have l := rnd_low (p := p) (t := t) (h := h) (S := S) (mode := mode) (e := ea + eb) (na != nb) hAB (by omega)
      rw [r.1, r.2, l.1, l.2]
      exact ⟨rfl, Or.inl rfl⟩
    · rw [if_neg h1, if_neg h1]
      have hAB : A * B = 0 := by
        by_cases k1 : ka = 1
        · rw [(uy.none (by omega)).1, Nat.mul_zero]
        · rw [(ux.none k1).1, Nat.zero_mul]
      have hn : ¬ ((ka = 2 ∨ kb = 2) ∧ (ka = 0 ∨ kb = 0)) := fun e => h2 e.1
      have eK : mulK ka kb = 0 := by unfold mulK; rw [if_neg hn, if_neg h2]
      rw [hAB, Nat.zero_mul, (sm_both p t h S mode (na != nb) false).1, (sm_both p t h S mode (na != nb) false).2, eK, if_neg (show ¬ (0 : Int) = 3 by decide)]
      refine ⟨rfl, Or.inr ⟨?_, ?_⟩⟩
      · split
        · exact Or.inr rfl
        · exact Or.inl rfl
      · show (if mulN ka kb (na != nb) = true then S else 0) = 0 ∨ (if mulN ka kb (na != nb) = true then S else 0) = S
        split
        · exact Or.inr rfl
        · exact Or.inl rfl

theorem cmp_zeros {f wd p t S D h q : Int} (hF : Frm f wd p t S D h q) {X Y : Int} (hX : X = 0 ∨ X = S) (hY : Y = 0 ∨ Y = S) : Ans 19 #[.int .i64 f, .int .u64 X, .int .u64 Y] (.int .i64 0) := by
  obtain ⟨p1, p53, hh, h0, t2, t1, S0, hS, -, f1, f3, hD, hS2⟩ := hF.pow
  have hpos : 0 < (2 * t + 1) * h := Int.mul_pos (by omega) h0
  have key : ∀ Z : Int, Z = 0 ∨ Z = S → sz S Z = 0 ∧ rk S Z 0 = 0 := by
    intro Z hZ
    unfold sz rk
    rcases hZ with rfl | rfl
    · rw [if_pos S0, if_pos S0]
      exact ⟨rfl, rfl⟩
    · rw [if_neg (by omega), if_neg (by omega)]
      omega
  intro w hs
  have := compare_yes hF X Y w hs.shp (by omega) (by omega) (by omega) (by omega)
  rw [(key X hX).1, (key Y hY).1, (key X hX).2, (key Y hY).2, if_neg (by omega)] at this
  exact this

theorem facF_of (f mode x y : Int) (hx0 : 0 ≤ x) (hx1 : x < 18446744073709551616) (hy0 : 0 ≤ y) (hy1 : y < 18446744073709551616) : ∃ X F Y O V G, FacF f mode x y X F Y O V G := by
  by_cases hg : Good2 f mode x y
  · obtain ⟨wd, p, t, S, D, h, q, hF, m1, m5, xD, yD⟩ := hg
    obtain ⟨ka, ea, A, na, ux⟩ := unpack_whole hF x hx0 xD
    obtain ⟨kb, eb, B, nb, uy⟩ := unpack_whole hF y hy0 yD
    have u0 := up_zero hF
    have u1 := up_one hF
    by_cases hn : ka = 3 ∨ kb = 3
    · have a1 := fma_nan hF mode m1 m5 ux uy u0 (hn.elim Or.inl (fun e => Or.inr (Or.inl e)))
      have a2 := fma_nan hF mode m1 m5 ux u1 uy (hn.elim Or.inl (fun e => Or.inr (Or.inr e)))
      have b := mul_nan hF mode m1 m5 ux uy hn
      have d := add_nan hF mode m1 m5 ux uy hn
      rw [nfg3_last (sig_not u0 (by decide))] at a1
      rw [nfg3_mid (sig_not u1 (by decide))] at a2
      exact ⟨_, _, _, _, _, _, a1, b.2, fun w _ => b.1 w, Or.inl rfl, one_good hF, a2, d.2⟩
    · have n1 : ka ≠ 3 := fun e => hn (Or.inl e)
      have n2 : kb ≠ 3 := fun e => hn (Or.inr e)
      have a1 := fma_at hF mode m1 m5 ux uy u0 n1 n2 (by decide)
      have a2 := fma_at hF mode m1 m5 ux u1 uy n1 (by decide) n2
      have b := mul_at hF mode m1 m5 ux uy n1 n2
      have d := add_at hF mode m1 m5 ux uy n1 n2
      obtain ⟨e1, e2⟩ := fm_zero hF mode ux uy n1 n2
      obtain ⟨e3, e4⟩ := fm_one p t h S mode ka ea kb eb na nb A B
      rw [e1] at a1
      rw [e3, e4] at a2
      refine ⟨_, _, _, _, _, _, a1, b.2, fun w _ => b.1 w, ?_, one_good hF, a2, d.2⟩
      rcases e2 with e2 | ⟨hX, hY⟩
      · exact Or.inl e2
      · by_cases he : fmV p t h S mode ka ea na A kb eb nb B 0 0 false 0 = mlV p t h S mode ka ea na A kb eb nb B
        · exact Or.inl he
        · exact Or.inr ⟨he, cmp_zeros hF hX hY⟩
  · have b := mul_bad hx0 hx1 hy0 hy1 hg
    have d := add_bad hx0 hx1 hy0 hy1 hg
    have a1 := fma_bad (mode := mode) (f := f) hx0 hx1 hy0 hy1 (show (0 : Int) ≤ 0 by omega) (by omega) (fun ⟨wd, p, t, S, D, h, q, hF, m1, m5, g1, g2, _⟩ => hg ⟨wd, p, t, S, D, h, q, hF, m1, m5, g1, g2⟩)
    have key : ∀ O : Int, 0 ≤ O → O < 18446744073709551616 → Ans 15 #[.int .i64 f] (.int .u64 O) → ∃ X F Y O V G, FacF f mode x y X F Y O V G := by
      intro O h0 h1 ho
      have a2 := fma_bad (mode := mode) (f := f) hx0 hx1 h0 h1 hy0 hy1 (fun ⟨wd, p, t, S, D, h, q, hF, m1, m5, g1, _, g2⟩ => hg ⟨wd, p, t, S, D, h, q, hF, m1, m5, g1, g2⟩)
      exact ⟨0, 0, 0, O, 0, 0, a1, b.2, fun w _ => b.1 w, Or.inl rfl, ho, a2, d.2⟩
    by_cases hf : f < 1 ∨ 3 < f
    · exact key 0 (by omega) (by omega) (one_bad hf)
    · obtain ⟨wd, p, t, S, D, h, q, hF⟩ := frm_of f hf
      have u1 := up_one hF
      have hD64 : D ≤ 18446744073709551616 := by rcases hF with ⟨_, _, _, _, _, rfl, _⟩ | ⟨_, _, _, _, _, rfl, _⟩ | ⟨_, _, _, _, _, rfl, _⟩ <;> decide
      exact key (t * h) u1.x0 (by have := u1.xD; omega) (one_good hF)

theorem one_half : Ans 15 #[.int .i64 1] (.int .u64 15360) := by
  have := one_good (f := 1) (wd := 16) (p := 11) (t := 15) (S := 32768) (D := 65536) (h := 1024) (q := 32) (Or.inl ⟨rfl, rfl, rfl, rfl, rfl, rfl, rfl, rfl⟩)
  rw [show (15 : Int) * 1024 = 15360 by decide] at this
  exact this

theorem walk_fused {w : World} {a : Option Addr} {len cap : Nat} (hs : Tabs w) (hr : Row w a len) :
    Calls Tryd.prog 4 #[.slice a len cap] w fun e w' => e = .returned (.bool true) ∧ Below w.heap.size w w' :=
  walk_fuse facF_of one_half hs hr
end Go.Proofs.YtcpnmcfpnhokgaaDoor
