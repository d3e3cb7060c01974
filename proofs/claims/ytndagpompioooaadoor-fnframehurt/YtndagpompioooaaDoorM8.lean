/- ZR ZV ZW. -/
import Derived.Test.YtndagpompioooaaDoorM5
import Derived.Test.YtndagpompioooaaDoorUF
import Derived.BigQuiet
import Derived.Deep.RegionWith
namespace Go.Proofs.YtndagpompioooaaDoor
open Go.RowKit

set_option maxRecDepth 20000 in
set_option maxHeartbeats 8000000 in
theorem dpf_x {w : World} {a : Option Addr} {len cap : Nat} (hr : Row w a len) (hl : len ≤ 1048576) :
    Calls Tryd.prog 25 #[.slice a len cap] w fun e w' => ∃ u n xs, e = .returned u ∧ n ≤ 130 ∧ Il w' u n xs ∧ Below w.heap.size w w' := by
  obtain ⟨i0, hi, hz0, hz1, hz2⟩ := info_parts Tryd.info3
  have HR : Hid (Row w a len) := hr
  clear hr
  obtain ⟨c, hcd⟩ : ∃ c, w.heap.size = c := ⟨_, rfl⟩
  have HN : Hid (Calls Tryd.prog 37 #[.slice a len cap] w fun e w' => e = .returned (.pointer (some ⟨c, 0, none⟩)) ∧ Cu w' c a len cap ∧ Below w.heap.size w w') := by have := new_x (cap := cap) HR.out (by omega); rw [← hcd]; exact this
  go_enter Tryd.func25, Tryd.ntmps25
  go_upto_region 4 with (first
    | (go_at_call 37; refine HN.out.mono ?_; rintro e w1 ⟨rfl, hc, hb⟩; have HC : Hid (Cu w1 c a len cap) := hc; have B1 : Hid (Below w.heap.size w w1) := hb; have hcl := hc.lt; clear hc hb)
    | (go_at_call 40; refine (size_x a len cap 30 hl).mono ?_; rintro e w' ⟨sz, rfl, hs0, hs1, hs2, hw⟩; have hs3 := hs2 (by omega); obtain rfl := hw.symm)
    | (go_at_call 53; refine (ddraw_x HC.out sz (by omega)).mono ?_; rintro e w4 ⟨u, n, ys, rfl, hn, ho, hc, hk⟩; obtain ⟨la, lc, h19⟩ := own_slice3 ho; subst h19; have HO4 : Hid (w4.ownsRow w1.heap.size 3 1 (.slice la n lc) n (ils ys n)) := ho; have K4 : Hid (Keep c w1 w4) := hk; have HC4 : Hid (Cu w4 c a len cap) := hc; clear ho hc hk)
    | (go_at_call 64; refine (once_x HC4.out 80).mono ?_; rintro e w5 ⟨bo, rfl, hc, hk⟩; have HC5 : Hid (Cu w5 c a len cap) := hc; have K5 : Hid (Keep c w1 w5) := K4.out.trans hk; have HO5 : Hid (w5.ownsRow w1.heap.size 3 1 (.slice la n lc) n (ils ys n)) := own_keep HO4.out hk hcl; clear hc hk; rcases bo with _ | _))
  · obtain ⟨n9, h9⟩ : ∃ n9, n9 = n := ⟨_, rfl⟩
    obtain ⟨y9, hy9⟩ : ∃ y9, y9 = ys := ⟨_, rfl⟩
    rw [← h9, ← hy9] at HO5
    have hn9 : n9 ≤ 129 := by omega
    have HCL : Hid (Cu w5 c a len cap) := HC5
    have HKL : Hid (Keep c w1 w5) := K5
    have HOL : Hid (w5.ownsRow w1.heap.size 3 1 (.slice la n9 lc) n9 (ils y9 n9)) := HO5
    rw [← h9]
    clear h9 hy9 HC5 K5 HO5 HC4 K4 HO4 HC
    go_upto_region 6 with (first
      | (go_at_call 64; refine (once_x HCL.out 40).mono ?_; rintro e w7 ⟨b2, rfl, hc, hk⟩; have HC7 : Hid (Cu w7 c a len cap) := hc; have K7 : Hid (Keep c w1 w7) := HKL.out.trans hk; have HO7 : Hid (w7.ownsRow w1.heap.size 3 1 (.slice la n9 lc) n9 (ils y9 n9)) := own_keep HOL.out hk hcl; clear hc hk; rcases b2 with _ | _))
    · go_wp2
      go_ret
      exact ⟨_, n9, y9, rfl, by omega, il_of_own HO7.out, Below.keep B1.out K7.out (Nat.le_of_eq hcd)⟩
    · have hb3 := below_one w7 (.cells #[.int .i64 1000000001] 3)
      have HO8 := own_below HO7.out hb3
      have K8 : Hid (Keep c w1 (w7.alloc (.cells #[.int .i64 1000000001] 3))) := K7.out.call hb3
      have hs8 := K8.out.size
      clear hb3
      go_wp2_with (first
        | (at_builtin; refine wpList_append_own _ rfl _ _ 24 rfl w1.heap.size 3 i0 (.int .i64 0) 1 8 Tryd.underlying24 hi hz0 hz1 hz2 rfl (by decide) _ _ _ rfl HO8 ⟨w7.heap.size, 0, none⟩ 1 1 [.int .i64 1000000001] rfl rfl (one_new _ _ _) (by simp [Value.oneCell']) (by unfold maxLen; omega) (by omega) hs8 ?_; intro v9 w9 hown' hgrow _; have HB9 : Hid (Below w1.heap.size (w7.alloc (.cells #[.int .i64 1000000001] 3)) w9) := grown_below (Below.refl w1.heap.size _) hs8 HO8 hgrow; rw [ils_app] at hown'; have HO9 : Hid _ := hown'; clear hown' hgrow HO8))
      go_ret
      exact ⟨_, n9 + 1, _, rfl, by omega, il_of_own HO9.out, Below.keep B1.out (K8.out.below HB9.out) (Nat.le_of_eq hcd)⟩
  · go_upto_region 5 with (first
      | (go_at_call 65; refine (below_x HC5.out 2).mono ?_; rintro e w6 ⟨x0, hx0, _, hx1, rfl, hc, hk⟩; have hx2 := hx1 (by omega); obtain ⟨k, rfl⟩ := Int.eq_ofNat_of_zero_le hx0; obtain ⟨n9, hn9⟩ : ∃ n9, n9 = 128 + k := ⟨_, rfl⟩; have e9 : (128 : Int) + (k : Int) = (n9 : Int) := (by omega); have e8 : Hid ((n9 : Int) = 128 + (k : Int)) := (by show _ = _; omega); have hn8 : 128 ≤ n9 ∧ n9 ≤ 129 := (by omega); obtain ⟨w8, hmk, hrow, hgr⟩ := run_makeSlice_full (P := Tryd.prog) w6 w6.heap.size 24 3 i0 (.int .i64 0) 1 Tryd.underlying24 hi hz0 hz1 .i64 .i64 n9 (by omega) (by rw [hz2]; omega) (by unfold maxLen; omega) (Nat.le_refl _); have hb8 : Below w6.heap.size w6 w8 := (Below.refl _ _).grown hgr (Nat.le_refl _) (fun _ h => by cases h); have K6 : Hid (Keep c w1 w6) := K5.out.trans hk; have HKL : Hid (Keep c w1 w8) := K6.out.call hb8; have HCL : Hid (Cu w8 c a len cap) := hc.call hb8; have HOL : Hid (w8.ownsRow w1.heap.size 3 1 (.slice (some ⟨w6.heap.size, 0, none⟩) n9 n9) n9 (ils (fun _ => 0) n9)) := (by have h9 := own_base hrow K6.out.size; rw [made_ils] at h9; exact h9); clear hc hk hb8 hrow hgr hn9 hx0 hx1))
    clear hmk e9 e8
    obtain ⟨la, hla⟩ : ∃ la : Option Addr, la = some ⟨w6.heap.size, 0, none⟩ := ⟨_, rfl⟩
    obtain ⟨lc, hlc⟩ : ∃ lc : Nat, lc = n9 := ⟨_, rfl⟩
    obtain ⟨y9, hy9⟩ : ∃ y9 : Nat → Int, y9 = fun _ => 0 := ⟨_, rfl⟩
    rw [← hla, ← hy9] at HOL
    rw [← hla]
    clear hla hlc hy9 HC5 K5 HO5 HC4 K4 HO4 HC K6
    go_upto_region 6 with (first
      | (go_at_call 64; refine (once_x HCL.out 40).mono ?_; rintro e w7 ⟨b2, rfl, hc, hk⟩; have HC7 : Hid (Cu w7 c a len cap) := hc; have K7 : Hid (Keep c w1 w7) := HKL.out.trans hk; have HO7 : Hid (w7.ownsRow w1.heap.size 3 1 (.slice la n9 n9) n9 (ils y9 n9)) := own_keep HOL.out hk hcl; clear hc hk; rcases b2 with _ | _))
    · go_wp2
      go_ret
      exact ⟨_, n9, y9, rfl, by omega, il_of_own HO7.out, Below.keep B1.out K7.out (Nat.le_of_eq hcd)⟩
    · have hb3 := below_one w7 (.cells #[.int .i64 1000000001] 3)
      have HO8 := own_below HO7.out hb3
      have K8 : Hid (Keep c w1 (w7.alloc (.cells #[.int .i64 1000000001] 3))) := K7.out.call hb3
      have hs8 := K8.out.size
      clear hb3
      go_wp2_with (first
        | (at_builtin; refine wpList_append_own _ rfl _ _ 24 rfl w1.heap.size 3 i0 (.int .i64 0) 1 8 Tryd.underlying24 hi hz0 hz1 hz2 rfl (by decide) _ _ _ rfl HO8 ⟨w7.heap.size, 0, none⟩ 1 1 [.int .i64 1000000001] rfl rfl (one_new _ _ _) (by simp [Value.oneCell']) (by unfold maxLen; omega) (by omega) hs8 ?_; intro v9 w9 hown' hgrow _; have HB9 : Hid (Below w1.heap.size (w7.alloc (.cells #[.int .i64 1000000001] 3)) w9) := grown_below (Below.refl w1.heap.size _) hs8 HO8 hgrow; rw [ils_app] at hown'; have HO9 : Hid _ := hown'; clear hown' hgrow HO8))
      go_ret
      exact ⟨_, n9 + 1, _, rfl, by omega, il_of_own HO9.out, Below.keep B1.out (K8.out.below HB9.out) (Nat.le_of_eq hcd)⟩
end Go.Proofs.YtndagpompioooaaDoor

namespace Go.Proofs.YtndagpompioooaaDoor
open Go.RowKit

theorem xor_odd (x : Nat) (h : x % 2 = 0) : (x ^^^ 4129) % 2 = 1 := by
  have := Nat.xor_mod_two_pow (a := x) (b := 4129) (n := 1)
  rw [show (2 : Nat) ^ 1 = 2 from rfl, h, show 4129 % 2 = 1 from rfl, Nat.zero_xor] at this
  exact this

theorem xor_back (a b : Nat) : (a ^^^ b) ^^^ b = a := by rw [Nat.xor_assoc, Nat.xor_self, Nat.xor_zero]
theorem xor_front (a b : Nat) : a ^^^ (a ^^^ b) = b := by rw [← Nat.xor_assoc, Nat.xor_self, Nat.zero_xor]

theorem cst_inj {a b : Nat} (ha : a < 65536) (hb : b < 65536) (h : cst a = cst b) : a = b := by
  by_cases h1 : 32768 ≤ a
  · by_cases h2 : 32768 ≤ b
    · rw [cst_high h1, cst_high h2] at h
      have e := congrArg (fun z => z ^^^ 4129) h
      simp only [xor_back] at e
      omega
    · rw [cst_high h1, cst_low h2] at h
      have := xor_odd (2 * a % 65536) (by omega)
      omega
  · by_cases h2 : 32768 ≤ b
    · rw [cst_low h1, cst_high h2] at h
      have := xor_odd (2 * b % 65536) (by omega)
      omega
    · rw [cst_low h1, cst_low h2] at h
      omega

theorem crb_inj (k : Nat) {a b : Nat} (ha : a < 65536) (hb : b < 65536) (h : crb k a = crb k b) : a = b := by
  induction k with
  | zero => exact h
  | succ k ih => exact ih (cst_inj (crb_lt k ha) (crb_lt k hb) h)

/-- Lists that differ in one byte have other numbers. -/
theorem crc_ne {n k : Nat} {xs ys : Nat → Int} (hx : Byt n xs) (hy : Byt n ys) (hk : k < n) (hne : xs k ≠ ys k) (he : ∀ i, i ≠ k → xs i = ys i) : crc xs n ≠ crc ys n := by
  have h0 : ∀ i, i ≤ k → crc xs i = crc ys i := by
    intro i
    induction i with
    | zero => intro _; rfl
    | succ i ih => intro hi; rw [crc_succ, crc_succ, ih (by omega), he i (by omega)]
  have h1 : ∀ j, k + 1 + j ≤ n → crc xs (k + 1 + j) ≠ crc ys (k + 1 + j) := by
    intro j
    induction j with
    | zero =>
      intro _ h
      have a1 := hx k hk
      have a2 := hy k hk
      have c1 := crc_lt hx k (by omega)
      have c2 := crc_lt hy k (by omega)
      rw [Nat.add_zero, crc_succ, crc_succ] at h
      have e := crb_inj 8 (put_lt c1 (by omega)) (put_lt c2 (by omega)) h
      rw [h0 k (Nat.le_refl _)] at e
      have e2 := congrArg (fun z => crc ys k ^^^ z) e
      simp only [xor_front] at e2
      exact hne (by omega)
    | succ j ih =>
      intro hj h
      have a1 := hx (k + 1 + j) (by omega)
      have a2 := hy (k + 1 + j) (by omega)
      have c1 := crc_lt hx (k + 1 + j) (by omega)
      have c2 := crc_lt hy (k + 1 + j) (by omega)
      rw [← Nat.add_assoc, crc_succ, crc_succ] at h
      have e := crb_inj 8 (put_lt c1 (by omega)) (put_lt c2 (by omega)) h
      rw [he (k + 1 + j) (by omega)] at e
      have e2 := congrArg (fun z => z ^^^ 256 * (ys (k + 1 + j)).toNat) e
      simp only [xor_back] at e2
      exact ih (by omega) e2
  have := h1 (n - (k + 1)) (by omega)
  rw [show k + 1 + (n - (k + 1)) = n by omega] at this
  exact this

theorem xor_u8 {a b : Nat} (ha : a < 256) (hb : b < 256) : bits .xor .u8 (a : Int) (b : Int) = ((a ^^^ b : Nat) : Int) := by
  have hx : a ^^^ b < 2 ^ 8 := Nat.xor_lt_two_pow (by omega) (by omega)
  have h1 : (BitVec.ofInt 8 (a : Int)).toNat = a := by rw [BitVec.toNat_ofInt]; omega
  have h2 : (BitVec.ofInt 8 (b : Int)).toNat = b := by rw [BitVec.toNat_ofInt]; omega
  show IntKind.u8.wrap (((BitVec.ofInt 8 (a : Int)) ^^^ (BitVec.ofInt 8 (b : Int))).toNat : Int) = _
  rw [BitVec.toNat_xor, h1, h2, IntKind.wrap_u8']
  omega

theorem rbt_pos {k n : Nat} {xs : Nat → Int} (h : 1 ≤ n) : 1 ≤ rbt k xs n := by
  have h1 := rbt_mono k xs h
  have h2 : rbt k xs 1 = 0 + (zig (xs 0) / 2 ^ k + 1 + k) := rfl
  generalize zig (xs 0) / 2 ^ k = q at h2
  omega
theorem fN_six {n : Nat} {xs : Nat → Int} (h : fok n xs = true) : 6 ≤ fN n xs := by
  obtain ⟨h1, _, o, k, C, _, _, _, hC, _, e, _⟩ := fok_told h
  have := rbt_pos (k := k) (xs := gus o xs) h1.1
  omega

/-- A frame with one byte turned is not taken for one that is as long. -/
theorem frame_hurt {n N K : Nat} {xs y : Nat → Int} {z : Int} (hf : fok n xs = true) (hN : N = fN n xs) (hy : y = fY n xs) (hK : K < N) (hz : 0 ≤ z ∧ z < 256) (hne : z ≠ y K) (hc : (opn N (fun i => if i = K then z else y i) 0).2.2.2 = 0) : (opn N (fun i => if i = K then z else y i) 0).2.2.1 < N := by
  obtain ⟨_, _, o, k, C, ho, hk, hC, hCr, _, eN, eY⟩ := fok_told hf
  obtain ⟨M, hM⟩ : ∃ M, M = 3 + (C + 7) / 8 := ⟨_, rfl⟩
  rw [← hM] at eN eY
  have hb : Byt N y := by rw [hN, hy]; exact fY_byt n xs
  have hb2 : Byt N (fun i => if i = K then z else y i) := fun i hi => by
    by_cases e : i = K
    · show 0 ≤ (if i = K then z else y i) ∧ (if i = K then z else y i) < 256
      rw [if_pos e]; exact hz
    · show 0 ≤ (if i = K then z else y i) ∧ (if i = K then z else y i) < 256
      rw [if_neg e]; exact hb i hi
  have hle := (opn_yes hc).2.1
  obtain ⟨w, h1, h2, h3, h4, h5, _, e⟩ := opn_ok hc
  refine Nat.lt_of_le_of_ne hle (fun h9 => ?_)
  rw [e] at h9
  have h9 : ope 0 w + 2 = N := h9
  have hMN : ope 0 w = M := by omega
  unfold opC at h5
  rw [hMN, Nat.sub_zero] at h5
  obtain ⟨f, hfd⟩ : ∃ f, f = fr0 n o k C (lf (ric k (gus o xs) n)) := ⟨_, rfl⟩
  rw [← hfd] at eY
  have yl : ∀ i, i < M → y i = f i := fun i hi => by rw [hy, eY]; unfold frm; rw [if_pos hi]
  have yM : y M = ((crc f M / 256 : Nat) : Int) := by rw [hy, eY]; unfold frm; rw [if_neg (by omega), if_pos rfl]
  have yM1 : y (M + 1) = ((crc f M % 256 : Nat) : Int) := by rw [hy, eY]; unfold frm; rw [if_neg (by omega), if_neg (by omega)]
  have cy : crc y M = crc f M := crc_congr M yl
  have hcv : crv M (fun i => (fun i => if i = K then z else y i) (0 + i)) = ((crc (fun i => if i = K then z else y i) M : Nat) : Int) := by
    unfold crv
    rw [if_neg (by omega), crc_congr (ys := fun i => if i = K then z else y i) M (fun i _ => by rw [Nat.zero_add])]
  rw [hcv] at h5
  have h5 : ((crc (fun i => if i = K then z else y i) M : Nat) : Int) = (((if M = K then z else y M).toNat : Nat) : Int) * 256 + (((if M + 1 = K then z else y (M + 1)).toNat : Nat) : Int) := h5
  have hbM : Byt M y := fun i hi => hb i (by omega)
  have hbM2 : Byt M (fun i => if i = K then z else y i) := fun i hi => hb2 i (by omega)
  by_cases c : K < M
  · have h6 := crc_ne hbM hbM2 c (show y K ≠ (if K = K then z else y K) by rw [if_pos rfl]; exact fun h => hne h.symm) (fun i hi => by show y i = if i = K then z else y i; rw [if_neg hi])
    rw [if_neg (show ¬ M = K by omega), if_neg (show ¬ M + 1 = K by omega), yM, yM1] at h5
    rw [cy] at h6
    omega
  · have h6 : crc (fun i => if i = K then z else y i) M = crc f M := by
      rw [← cy]
      exact crc_congr M (fun i hi => by show (if i = K then z else y i) = y i; rw [if_neg (by omega)])
    rw [h6] at h5
    by_cases d : M = K
    · rw [if_pos d, if_neg (show ¬ M + 1 = K by omega), yM1] at h5
      rw [← d, yM] at hne
      omega
    · have d2 : M + 1 = K := by omega
      rw [if_neg d, if_pos d2, yM] at h5
      rw [← d2, yM1] at hne
      omega

set_option maxRecDepth 100000 in
theorem atw_0 {w : World} {a : Option Addr} {n : Nat} (cap : Nat) (hr : Row w a n) (hn : n ≤ 1048576) : ∃ m : Nat, m < 256 ∧ ∀ W, Below w.heap.size w W → Calls Tryd.prog 24 #[.slice a n cap, .int .i64 0] W fun e w' => e = .returned (.int .i64 (m : Int)) ∧ w' = W := by
  by_cases h : 0 < n
  · obtain ⟨b, off, z, rfl, hb, hc, hz0, hz1⟩ := hr 0 h
    obtain ⟨m, rfl⟩ : ∃ m : Nat, z = (m : Int) := ⟨z.toNat, by omega⟩
    refine ⟨m, by omega, fun W hW => ?_⟩
    rw [Nat.add_zero] at hc
    replace hc := (hW.cell (p := ⟨b, off, none⟩) hb).trans hc
    clear hr hb hW
    go_enter Tryd.func24, Tryd.ntmps24
    go_wp2
    go_ret
    exact ⟨rfl, rfl⟩
  · clear hr
    refine ⟨(0 + n) % 256, by omega, fun W hW => ?_⟩
    obtain ⟨m, hm⟩ : ∃ m, m = (0 + n) % 256 := ⟨_, rfl⟩
    rw [← hm]
    have e1 : (0 + (n : Int)) % 256 = (m : Int) := by omega
    have e2 : (0 + (n : Int)).tmod 256 = (m : Int) := by rw [Int.tmod_eq_emod_of_nonneg (by omega)]; omega
    have e3 : (n : Int) % 256 = ((m : Nat) : Int) := by omega
    have e4 : (n : Int).tmod 256 = ((m : Nat) : Int) := by rw [Int.tmod_eq_emod_of_nonneg (by omega)]; omega
    clear hm hW
    go_enter Tryd.func24, Tryd.ntmps24
    go_wp2
    go_ret
    exact ⟨rfl, rfl⟩

set_option maxRecDepth 100000 in
theorem atw_1 {w : World} {a : Option Addr} {n : Nat} (cap : Nat) (hr : Row w a n) (hn : n ≤ 1048576) : ∃ m : Nat, m < 256 ∧ ∀ W, Below w.heap.size w W → Calls Tryd.prog 24 #[.slice a n cap, .int .i64 1] W fun e w' => e = .returned (.int .i64 (m : Int)) ∧ w' = W := by
  by_cases h : 1 < n
  · obtain ⟨b, off, z, rfl, hb, hc, hz0, hz1⟩ := hr 1 h
    obtain ⟨m, rfl⟩ : ∃ m : Nat, z = (m : Int) := ⟨z.toNat, by omega⟩
    refine ⟨m, by omega, fun W hW => ?_⟩
    skip
    replace hc := (hW.cell (p := ⟨b, off + 1, none⟩) hb).trans hc
    clear hr hb hW
    go_enter Tryd.func24, Tryd.ntmps24
    go_wp2
    go_ret
    exact ⟨rfl, rfl⟩
  · clear hr
    refine ⟨(7 + n) % 256, by omega, fun W hW => ?_⟩
    obtain ⟨m, hm⟩ : ∃ m, m = (7 + n) % 256 := ⟨_, rfl⟩
    rw [← hm]
    have e1 : (7 + (n : Int)) % 256 = (m : Int) := by omega
    have e2 : (7 + (n : Int)).tmod 256 = (m : Int) := by rw [Int.tmod_eq_emod_of_nonneg (by omega)]; omega
    have e3 : (n : Int) % 256 = (((n % 256 : Nat) : Nat) : Int) := by omega
    have e4 : (n : Int).tmod 256 = (((n % 256 : Nat) : Nat) : Int) := by rw [Int.tmod_eq_emod_of_nonneg (by omega)]; omega
    clear hm hW
    go_enter Tryd.func24, Tryd.ntmps24
    go_wp2
    go_ret
    exact ⟨rfl, rfl⟩

set_option maxRecDepth 100000 in
theorem atw_2 {w : World} {a : Option Addr} {n : Nat} (cap : Nat) (hr : Row w a n) (hn : n ≤ 1048576) : ∃ m : Nat, m < 256 ∧ ∀ W, Below w.heap.size w W → Calls Tryd.prog 24 #[.slice a n cap, .int .i64 2] W fun e w' => e = .returned (.int .i64 (m : Int)) ∧ w' = W := by
  by_cases h : 2 < n
  · obtain ⟨b, off, z, rfl, hb, hc, hz0, hz1⟩ := hr 2 h
    obtain ⟨m, rfl⟩ : ∃ m : Nat, z = (m : Int) := ⟨z.toNat, by omega⟩
    refine ⟨m, by omega, fun W hW => ?_⟩
    skip
    replace hc := (hW.cell (p := ⟨b, off + 2, none⟩) hb).trans hc
    clear hr hb hW
    go_enter Tryd.func24, Tryd.ntmps24
    go_wp2
    go_ret
    exact ⟨rfl, rfl⟩
  · clear hr
    refine ⟨(14 + n) % 256, by omega, fun W hW => ?_⟩
    obtain ⟨m, hm⟩ : ∃ m, m = (14 + n) % 256 := ⟨_, rfl⟩
    rw [← hm]
    have e1 : (14 + (n : Int)) % 256 = (m : Int) := by omega
    have e2 : (14 + (n : Int)).tmod 256 = (m : Int) := by rw [Int.tmod_eq_emod_of_nonneg (by omega)]; omega
    have e3 : (n : Int) % 256 = (((n % 256 : Nat) : Nat) : Int) := by omega
    have e4 : (n : Int).tmod 256 = (((n % 256 : Nat) : Nat) : Int) := by rw [Int.tmod_eq_emod_of_nonneg (by omega)]; omega
    clear hm hW
    go_enter Tryd.func24, Tryd.ntmps24
    go_wp2
    go_ret
    exact ⟨rfl, rfl⟩

theorem three_told : fN 1 (fun _ => 3) = 6 ∧ fok 1 (fun _ => 3) = true := by decide +kernel

theorem three_any : ∀ W u, Il W u 1 (fun _ => 3) → Calls Tryd.prog 20 #[u] W fun e w' => Psb W w' e 6 (fY 1 (fun _ => 3)) true := by
  have h9 := (frame_told (n := 1) (xs := fun _ => 3) (by omega)).2.2
  rw [three_told.1, three_told.2] at h9
  exact h9
end Go.Proofs.YtndagpompioooaaDoor

namespace Go.Proofs.YtndagpompioooaaDoor
open Go.RowKit

set_option maxRecDepth 20000 in
set_option maxHeartbeats 16000000 in
theorem walk_hurt {w : World} {a : Option Addr} {len cap : Nat} (hg : Eg w) (hr : Row w a len) (hl : len ≤ 9223372036854775807) : Calls Tryd.prog 6 #[.slice a len cap] w fun e w' => e = .returned (.bool true) ∧ Below w.heap.size w w' := by
  have hB := big_x (w := w) a len cap hl
  rcases Nat.lt_or_ge 1048576 len with h | h
  · rw [decide_eq_true (by omega)] at hB
    clear hr hg
    go_enter Tryd.func6, Tryd.ntmps6
    go_wp2_with (first | (go_at_call 9; (with_reducible refine (hB).mono ?_); rintro e w' ⟨rfl, hw⟩; obtain rfl := hw.symm))
    go_ret
    exact ⟨rfl, Below.refl _ _⟩
  · rw [decide_eq_false (by omega)] at hB
    have HEG : Hid (∀ W, Below w.heap.size w W → Eg W) := fun W hW => keepc hW hg
    have HD : Hid (Calls Tryd.prog 25 #[.slice a len cap] w fun e w' => ∃ u n xs, e = .returned u ∧ n ≤ 130 ∧ Il w' u n xs ∧ Below w.heap.size w w') := dpf_x hr h
    have HP3 : Hid (∀ W u, Il W u 1 (fun _ => 3) → Calls Tryd.prog 20 #[u] W fun e w' => Psb W w' e 6 (fY 1 (fun _ => 3)) true) := three_any
    obtain ⟨m0, hm0, j0⟩ := atw_0 cap hr h
    obtain ⟨m1, hm1, j1⟩ := atw_1 cap hr h
    obtain ⟨m2, hm2, j2⟩ := atw_2 cap hr h
    have J0 : Hid _ := j0
    have J1 : Hid _ := j1
    have J2 : Hid _ := j2
    clear hr hg j0 j1 j2
    go_enter Tryd.func6, Tryd.ntmps6
    go_upto_region 4 with (first | (go_at_call 9; (with_reducible refine (hB).mono ?_); rintro e w' ⟨rfl, hw⟩; obtain rfl := hw.symm) | (go_at_call 25; refine HD.out.mono ?_; rintro e w1 ⟨u, n, xs, rfl, hn, hu, hb⟩; have HU : Hid (Il w1 u n xs) := hu; have BW : Hid (Below w.heap.size w w1) := hb; obtain ⟨ua, uc, hu9, huc, _⟩ := hu; subst hu9; clear hb))
    clear hB HD
    obtain ⟨_, hS, hI⟩ := frame_told (n := n) (xs := xs) (by omega)
    obtain ⟨N1, hN1⟩ : ∃ N1, N1 = fN n xs := ⟨_, rfl⟩
    obtain ⟨y1, hy1⟩ : ∃ y1, y1 = fY n xs := ⟨_, rfl⟩
    obtain ⟨ok, hok⟩ : ∃ ok, ok = fok n xs := ⟨_, rfl⟩
    rw [← hN1, ← hy1, ← hok] at hS hI
    have HI : Hid _ := hI
    have HS : Hid _ := hS
    have HNY : Hid (ok = fok n xs ∧ N1 = fN n xs ∧ y1 = fY n xs) := ⟨hok, hN1, hy1⟩
    have hkk : (ok != ok) = false := by simp
    clear hS hI hN1 hy1 hok
    go_upto_region 6 with (first
      | (go_at_call 20; refine (HI.out _ _ HU.out).mono ?_; rintro e w2 ⟨x2, rfl, ho, hb⟩; obtain ⟨ba, bc, hb9⟩ := own_sliceb ho; subst hb9; have HBO : Hid (w2.ownsRow w.heap.size 5 1 (.slice ba N1 bc) N1 (bls y1 N1)) := own_base ho BW.out.size; have HU : Hid (Il w2 (.slice ua n uc) n xs) := HU.out.below hb; have BW : Hid (Below w.heap.size w w2) := bstep BW.out hb; clear ho hb)
      | (go_at_call 26; refine (HS.out _ _ HU.out).mono ?_; rintro e w3 ⟨x3, rfl, ho, hb⟩; obtain ⟨ca, cc3, hb9⟩ := own_sliceb ho; subst hb9; have HBO : Hid (w3.ownsRow w.heap.size 5 1 (.slice ba N1 bc) N1 (bls y1 N1)) := own_below HBO.out hb; have BW : Hid (Below w.heap.size w w3) := bstep BW.out hb; clear ho hb))
    clear HI HS HU hkk
    cases ok with
    | true =>
      obtain ⟨N, hN9⟩ : ∃ N, N = N1 := ⟨_, rfl⟩
      obtain ⟨y, hy9⟩ : ∃ y, y = y1 := ⟨_, rfl⟩
      obtain ⟨nn, hnn⟩ : ∃ nn, nn = n := ⟨_, rfl⟩
      obtain ⟨xx, hxx⟩ : ∃ xx, xx = xs := ⟨_, rfl⟩
      rw [← hN9, ← hy9] at HBO
      have HFK : Hid (fok nn xx = true ∧ N = fN nn xx ∧ y = fY nn xx) := by rw [hnn, hxx, hN9, hy9]; exact ⟨HNY.out.1.symm, HNY.out.2.1, HNY.out.2.2⟩
      rw [← hN9]
      have hnn9 : nn ≤ 130 := by omega
      clear hN9 hy9 hnn hxx HNY
      have HYB : Hid (Byt N y) := by rw [HFK.out.2.1, HFK.out.2.2]; exact fY_byt _ _
      have hN6 : 6 ≤ N := by rw [HFK.out.2.1]; exact fN_six HFK.out.1
      have hN12 : N ≤ 12600 := by rw [HFK.out.2.1]; exact (frame_told (n := nn) (xs := xx) (by omega)).1
      have hN6i : ¬ ((N : Int) < 6) := by omega
      obtain ⟨D3, hD3⟩ : ∃ D3, D3 = N - 3 := ⟨_, rfl⟩
      have d1 : (N : Int) - 3 = (D3 : Int) := by omega
      have d2 : (D3 : Int) ≠ 0 := by omega
      obtain ⟨r0, hr0⟩ : ∃ r0, r0 = (m0 * 256 + m1) % D3 := ⟨_, rfl⟩
      have hr0l : r0 < D3 := by rw [hr0]; exact Nat.mod_lt _ (by omega)
      have d4 : ((m0 : Int) * 256 + (m1 : Int)) % (D3 : Int) = (r0 : Int) := by rw [hr0, Int.natCast_emod, Int.natCast_add, Int.natCast_mul]; rfl
      have d3 : ((m0 : Int) * 256 + (m1 : Int)).tmod (D3 : Int) = (r0 : Int) := by rw [Int.tmod_eq_emod_of_nonneg (by omega)]; exact d4
      obtain ⟨K, hKd⟩ : ∃ K, K = 3 + r0 := ⟨_, rfl⟩
      have d5 : (3 : Int) + (r0 : Int) = (K : Int) := by omega
      have hKN : K < N := by omega
      have HKN : Hid (K = 3 + r0 ∧ D3 = N - 3) := ⟨hKd, hD3⟩
      clear hr0 hKd hD3
      go_upto_region 13 with (first
        | (go_at_call 24; (fail_if_success have := M7); refine (J0.out _ BW.out).mono ?_; rintro e w' ⟨rfl, hw⟩; obtain rfl := hw.symm; have M7 : Hid True := trivial)
        | (go_at_call 24; have Z := M7; refine (J1.out _ BW.out).mono ?_; rintro e w' ⟨rfl, hw⟩; obtain rfl := hw.symm))
      obtain ⟨g, hg6, hbg⟩ : ∃ g, ba = some ⟨g, 0, none⟩ ∧ w.heap.size ≤ g := by
        rcases HBO.out.2 with ⟨h9, _⟩ | ⟨g, c, cur, h9, h10, _⟩
        · injection h9 with _ h11 _; omega
        · injection h9 with h11 _ h12; exact ⟨g, h11, h10⟩
      subst hg6
      have byK := HYB.out K hKN
      obtain ⟨y0, hy0⟩ : ∃ y0 : Nat, y K = (y0 : Int) := ⟨(y K).toNat, by omega⟩
      have hy2 : y0 < 256 := by omega
      have c00 := World.ownsRow.cellAt HBO.out K (by omega)
      rw [bls_get hKN, hy0] at c00
      have c0 : w3.drew.cell? ⟨g, K, none⟩ = some (.int .u8 (y0 : Int)) := c00
      have f0 := World.ownsRow.frozenAt HBO.out K
      have j2 := J2.out w3.drew BW.out.drew
      obtain ⟨r, hr⟩ : ∃ r : Nat, r = m2 % 255 := ⟨_, rfl⟩
      have r1 : (m2 : Int) % 255 = (r : Int) := by omega
      have r2 : (m2 : Int).tmod 255 = (r : Int) := by rw [Int.tmod_eq_emod_of_nonneg (by omega)]; exact r1
      obtain ⟨D, hD⟩ : ∃ D : Nat, D = 1 + r := ⟨_, rfl⟩
      have r3 : 1 + (r : Int) = (D : Int) := by omega
      have hD1 : 1 ≤ D ∧ D < 256 := by omega
      have r4 : IntKind.u8.wrap (D : Int) = (D : Int) := by rw [IntKind.wrap_u8']; omega
      have r6 : IntKind.i64.wrap (D : Int) = (D : Int) := by rw [IntKind.wrap_i64]; omega
      obtain ⟨z, hz⟩ : ∃ z : Nat, z = y0 ^^^ D := ⟨_, rfl⟩
      have r5 : bits .xor .u8 (y0 : Int) (D : Int) = (z : Int) := by rw [xor_u8 hy2 hD1.2, hz]
      have hz2 : z < 256 := by rw [hz]; exact Nat.xor_lt_two_pow (n := 8) hy2 hD1.2
      have hzy : z ≠ y0 := by
        intro e
        have e2 := congrArg (fun q => y0 ^^^ q) (hz.symm.trans e)
        simp only [xor_front, Nat.xor_self] at e2
        omega
      obtain ⟨y', hy'⟩ : ∃ y' : Nat → Int, y' = fun i => if i = K then (z : Int) else y i := ⟨_, rfl⟩
      have HHU : Hid ((opn N y' 0).2.2.2 = 0 → (opn N y' 0).2.2.1 < N) := fun h9 => by
        rw [hy'] at h9 ⊢
        exact frame_hurt HFK.out.1 HFK.out.2.1 HFK.out.2.2 hKN (by omega) (by rw [hy0]; omega) h9
      have BY2 : Byt N y' := fun i hi => by
        rw [hy']
        by_cases e : i = K
        · subst e; simp; omega
        · simp [e]; exact HYB.out i hi
      have st := (World.ownsRow.stored HBO.out K (.int .u8 (z : Int))).1
      rw [bls_put, ← hy'] at st
      have OP := own_below st (Below.refl _ (w3.setCell ⟨g, K, none⟩ (.int .u8 (z : Int)))).drew
      have ON := (Only.refl g w3).put K (.int .u8 (z : Int))
      have BW9 : Hid (Below w.heap.size w (w3.setCell ⟨g, K, none⟩ (.int .u8 (z : Int))).drew) := (Below.only BW.out ON hbg).drew
      obtain ⟨Nf, hNf⟩ : ∃ Nf, Nf = (opn N y' 0).1 := ⟨_, rfl⟩
      obtain ⟨Yf, hYf⟩ : ∃ Yf, Yf = (opn N y' 0).2.1 := ⟨_, rfl⟩
      obtain ⟨X, hX⟩ : ∃ X, X = (opn N y' 0).2.2.1 := ⟨_, rfl⟩
      obtain ⟨C, hC⟩ : ∃ C, C = (opn N y' 0).2.2.2 := ⟨_, rfl⟩
      have hno : C ≠ 0 → Nf = 0 ∧ X = 0 := fun h9 => by
        have h8 := opn_no (n := N) (y := y') (a := 0) (by rw [← hC]; exact h9)
        rw [← hNf, ← hX] at h8
        exact ⟨h8.1, h8.2.1⟩
      have hyes : C = 0 → X < N := fun h9 => by rw [hX]; exact HHU.out (by rw [← hC]; exact h9)
      have HO9 : Hid (Calls Tryd.prog 27 #[.slice (some ⟨g, 0, none⟩) N bc, .int .i64 0] (w3.setCell ⟨g, K, none⟩ (.int .u8 (z : Int))).drew fun e w' => Pof (w3.setCell ⟨g, K, none⟩ (.int .u8 (z : Int))).drew w' e Nf Yf (X : Int) (C : Int)) := by
        have h9 := (opn_told (n := N) (y := y') (by omega) BY2 0 (by decide)).1 _ (.slice (some ⟨g, 0, none⟩) N bc) (HEG.out _ BW9.out) (bl_of_own OP)
        rw [← hNf, ← hYf, ← hX, ← hC] at h9
        exact h9
      clear hNf hYf hX hC BY2 OP st ON hz hr hD hy0 byK c00 hy' HHU HFK HYB HBO HKN d1 d2 d3 d4 d5 hr0l J0 J1 J2 hm0 hm1
      go_region_with (first | (go_at_call 24; (with_reducible refine (j2).mono ?_); rintro e w' ⟨rfl, hw⟩; obtain rfl := hw.symm))
      all_goals
        generalize (w3.setCell ⟨g, K, none⟩ (.int .u8 (z : Int))).drew = W9 at HO9 BW9 ⊢
        by_cases hc0 : C = 0
        · have hx := hyes hc0
          subst hc0
          clear hno hyes j2 c0 f0
          go_wp2_with (first | (go_at_call 27; refine HO9.out.mono ?_; rintro e w8 ⟨x8, rfl, ho, hb⟩; obtain ⟨xa, xc, hx9⟩ := own_slice3 ho; subst hx9; have BW8 : Hid (Below w.heap.size w w8) := bstep BW9.out hb; clear ho hb))
          go_ret
          exact ⟨rfl, BW8.out⟩
        · obtain ⟨e1, e2⟩ := hno hc0
          subst e1 e2
          have hc1 : ¬ ((C : Int) = 0) := by omega
          clear hno hyes j2 c0 f0
          go_wp2_with (first | (go_at_call 27; refine HO9.out.mono ?_; rintro e w8 ⟨x8, rfl, ho, hb⟩; obtain ⟨xa, xc, hx9⟩ := own_slice3 ho; subst hx9; have BW8 : Hid (Below w.heap.size w w8) := bstep BW9.out hb; clear ho hb))
          go_ret
          exact ⟨rfl, BW8.out⟩
    | false =>
      go_upto_region 10 with (first
        | (go_at_call 20; refine (HP3.out _ _ (il_new _ 3)).mono ?_; rintro e w4 ⟨x4, rfl, ho, hb⟩; obtain ⟨ba, bc, hb9⟩ := own_sliceb ho; subst hb9; have HBO6 : Hid (w4.ownsRow w.heap.size 5 1 (.slice ba 6 bc) 6 (bls (fY 1 (fun _ => 3)) 6)) := own_base ho (Nat.le_trans BW.out.size (below_one _ _).size); have BW : Hid (Below w.heap.size w w4) := bstep (bstep BW.out (below_one _ _)) hb; clear ho hb))
      obtain ⟨N, hN9⟩ : ∃ N, N = 6 := ⟨_, rfl⟩
      obtain ⟨y, hy9⟩ : ∃ y, y = fY 1 (fun _ => 3) := ⟨_, rfl⟩
      obtain ⟨nn, hnn⟩ : ∃ nn, nn = 1 := ⟨_, rfl⟩
      obtain ⟨xx, hxx⟩ : ∃ xx : Nat → Int, xx = fun _ => 3 := ⟨_, rfl⟩
      have HBO : Hid (w4.ownsRow w.heap.size 5 1 (.slice ba N bc) N (bls y N)) := by rw [hN9, hy9]; exact HBO6.out
      have HFK : Hid (fok nn xx = true ∧ N = fN nn xx ∧ y = fY nn xx) := by rw [hnn, hxx, hN9, hy9]; exact ⟨three_told.2, three_told.1.symm, rfl⟩
      rw [← hN9]
      have hnn9 : nn ≤ 130 := by omega
      clear hN9 hy9 hnn hxx HNY HBO6
      have HYB : Hid (Byt N y) := by rw [HFK.out.2.1, HFK.out.2.2]; exact fY_byt _ _
      have hN6 : 6 ≤ N := by rw [HFK.out.2.1]; exact fN_six HFK.out.1
      have hN12 : N ≤ 12600 := by rw [HFK.out.2.1]; exact (frame_told (n := nn) (xs := xx) (by omega)).1
      have hN6i : ¬ ((N : Int) < 6) := by omega
      obtain ⟨D3, hD3⟩ : ∃ D3, D3 = N - 3 := ⟨_, rfl⟩
      have d1 : (N : Int) - 3 = (D3 : Int) := by omega
      have d2 : (D3 : Int) ≠ 0 := by omega
      obtain ⟨r0, hr0⟩ : ∃ r0, r0 = (m0 * 256 + m1) % D3 := ⟨_, rfl⟩
      have hr0l : r0 < D3 := by rw [hr0]; exact Nat.mod_lt _ (by omega)
      have d4 : ((m0 : Int) * 256 + (m1 : Int)) % (D3 : Int) = (r0 : Int) := by rw [hr0, Int.natCast_emod, Int.natCast_add, Int.natCast_mul]; rfl
      have d3 : ((m0 : Int) * 256 + (m1 : Int)).tmod (D3 : Int) = (r0 : Int) := by rw [Int.tmod_eq_emod_of_nonneg (by omega)]; exact d4
      obtain ⟨K, hKd⟩ : ∃ K, K = 3 + r0 := ⟨_, rfl⟩
      have d5 : (3 : Int) + (r0 : Int) = (K : Int) := by omega
      have hKN : K < N := by omega
      have HKN : Hid (K = 3 + r0 ∧ D3 = N - 3) := ⟨hKd, hD3⟩
      clear hr0 hKd hD3
      go_upto_region 13 with (first
        | (go_at_call 24; (fail_if_success have := M7); refine (J0.out _ BW.out).mono ?_; rintro e w' ⟨rfl, hw⟩; obtain rfl := hw.symm; have M7 : Hid True := trivial)
        | (go_at_call 24; have Z := M7; refine (J1.out _ BW.out).mono ?_; rintro e w' ⟨rfl, hw⟩; obtain rfl := hw.symm))
      obtain ⟨g, hg6, hbg⟩ : ∃ g, ba = some ⟨g, 0, none⟩ ∧ w.heap.size ≤ g := by
        rcases HBO.out.2 with ⟨h9, _⟩ | ⟨g, c, cur, h9, h10, _⟩
        · injection h9 with _ h11 _; omega
        · injection h9 with h11 _ h12; exact ⟨g, h11, h10⟩
      subst hg6
      have byK := HYB.out K hKN
      obtain ⟨y0, hy0⟩ : ∃ y0 : Nat, y K = (y0 : Int) := ⟨(y K).toNat, by omega⟩
      have hy2 : y0 < 256 := by omega
      have c00 := World.ownsRow.cellAt HBO.out K (by omega)
      rw [bls_get hKN, hy0] at c00
      have c0 : w4.drew.cell? ⟨g, K, none⟩ = some (.int .u8 (y0 : Int)) := c00
      have f0 := World.ownsRow.frozenAt HBO.out K
      have j2 := J2.out w4.drew BW.out.drew
      obtain ⟨r, hr⟩ : ∃ r : Nat, r = m2 % 255 := ⟨_, rfl⟩
      have r1 : (m2 : Int) % 255 = (r : Int) := by omega
      have r2 : (m2 : Int).tmod 255 = (r : Int) := by rw [Int.tmod_eq_emod_of_nonneg (by omega)]; exact r1
      obtain ⟨D, hD⟩ : ∃ D : Nat, D = 1 + r := ⟨_, rfl⟩
      have r3 : 1 + (r : Int) = (D : Int) := by omega
      have hD1 : 1 ≤ D ∧ D < 256 := by omega
      have r4 : IntKind.u8.wrap (D : Int) = (D : Int) := by rw [IntKind.wrap_u8']; omega
      have r6 : IntKind.i64.wrap (D : Int) = (D : Int) := by rw [IntKind.wrap_i64]; omega
      obtain ⟨z, hz⟩ : ∃ z : Nat, z = y0 ^^^ D := ⟨_, rfl⟩
      have r5 : bits .xor .u8 (y0 : Int) (D : Int) = (z : Int) := by rw [xor_u8 hy2 hD1.2, hz]
      have hz2 : z < 256 := by rw [hz]; exact Nat.xor_lt_two_pow (n := 8) hy2 hD1.2
      have hzy : z ≠ y0 := by
        intro e
        have e2 := congrArg (fun q => y0 ^^^ q) (hz.symm.trans e)
        simp only [xor_front, Nat.xor_self] at e2
        omega
      obtain ⟨y', hy'⟩ : ∃ y' : Nat → Int, y' = fun i => if i = K then (z : Int) else y i := ⟨_, rfl⟩
      have HHU : Hid ((opn N y' 0).2.2.2 = 0 → (opn N y' 0).2.2.1 < N) := fun h9 => by
        rw [hy'] at h9 ⊢
        exact frame_hurt HFK.out.1 HFK.out.2.1 HFK.out.2.2 hKN (by omega) (by rw [hy0]; omega) h9
      have BY2 : Byt N y' := fun i hi => by
        rw [hy']
        by_cases e : i = K
        · subst e; simp; omega
        · simp [e]; exact HYB.out i hi
      have st := (World.ownsRow.stored HBO.out K (.int .u8 (z : Int))).1
      rw [bls_put, ← hy'] at st
      have OP := own_below st (Below.refl _ (w4.setCell ⟨g, K, none⟩ (.int .u8 (z : Int)))).drew
      have ON := (Only.refl g w4).put K (.int .u8 (z : Int))
      have BW9 : Hid (Below w.heap.size w (w4.setCell ⟨g, K, none⟩ (.int .u8 (z : Int))).drew) := (Below.only BW.out ON hbg).drew
      obtain ⟨Nf, hNf⟩ : ∃ Nf, Nf = (opn N y' 0).1 := ⟨_, rfl⟩
      obtain ⟨Yf, hYf⟩ : ∃ Yf, Yf = (opn N y' 0).2.1 := ⟨_, rfl⟩
      obtain ⟨X, hX⟩ : ∃ X, X = (opn N y' 0).2.2.1 := ⟨_, rfl⟩
      obtain ⟨C, hC⟩ : ∃ C, C = (opn N y' 0).2.2.2 := ⟨_, rfl⟩
      have hno : C ≠ 0 → Nf = 0 ∧ X = 0 := fun h9 => by
        have h8 := opn_no (n := N) (y := y') (a := 0) (by rw [← hC]; exact h9)
        rw [← hNf, ← hX] at h8
        exact ⟨h8.1, h8.2.1⟩
      have hyes : C = 0 → X < N := fun h9 => by rw [hX]; exact HHU.out (by rw [← hC]; exact h9)
      have HO9 : Hid (Calls Tryd.prog 27 #[.slice (some ⟨g, 0, none⟩) N bc, .int .i64 0] (w4.setCell ⟨g, K, none⟩ (.int .u8 (z : Int))).drew fun e w' => Pof (w4.setCell ⟨g, K, none⟩ (.int .u8 (z : Int))).drew w' e Nf Yf (X : Int) (C : Int)) := by
        have h9 := (opn_told (n := N) (y := y') (by omega) BY2 0 (by decide)).1 _ (.slice (some ⟨g, 0, none⟩) N bc) (HEG.out _ BW9.out) (bl_of_own OP)
        rw [← hNf, ← hYf, ← hX, ← hC] at h9
        exact h9
      clear hNf hYf hX hC BY2 OP st ON hz hr hD hy0 byK c00 hy' HHU HFK HYB HBO HKN d1 d2 d3 d4 d5 hr0l J0 J1 J2 hm0 hm1
      go_region_with (first | (go_at_call 24; (with_reducible refine (j2).mono ?_); rintro e w' ⟨rfl, hw⟩; obtain rfl := hw.symm))
      all_goals
        generalize (w4.setCell ⟨g, K, none⟩ (.int .u8 (z : Int))).drew = W9 at HO9 BW9 ⊢
        by_cases hc0 : C = 0
        · have hx := hyes hc0
          subst hc0
          clear hno hyes j2 c0 f0
          go_wp2_with (first | (go_at_call 27; refine HO9.out.mono ?_; rintro e w8 ⟨x8, rfl, ho, hb⟩; obtain ⟨xa, xc, hx9⟩ := own_slice3 ho; subst hx9; have BW8 : Hid (Below w.heap.size w w8) := bstep BW9.out hb; clear ho hb))
          go_ret
          exact ⟨rfl, BW8.out⟩
        · obtain ⟨e1, e2⟩ := hno hc0
          subst e1 e2
          have hc1 : ¬ ((C : Int) = 0) := by omega
          clear hno hyes j2 c0 f0
          go_wp2_with (first | (go_at_call 27; refine HO9.out.mono ?_; rintro e w8 ⟨x8, rfl, ho, hb⟩; obtain ⟨xa, xc, hx9⟩ := own_slice3 ho; subst hx9; have BW8 : Hid (Below w.heap.size w w8) := bstep BW9.out hb; clear ho hb))
          go_ret
          exact ⟨rfl, BW8.out⟩
end Go.Proofs.YtndagpompioooaaDoor
