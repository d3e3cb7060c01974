/- Bits that are stirred: both sides. -/
import Derived.Test.YtgahjkijmihmdaaDI
import Derived.Test.YtgahjkijmihmdaaBT
import Derived.Laws.BitsAllLaws
import Derived.WalkMore
import Derived.ScopeJumps
namespace Go.Proofs.Ytgahjkijmihmdaa
open Go.RowKit

theorem own_slice {w : World} {B n : Nat} {v : Value} {L : List Value} (h : w.ownsRow B 3 1 v n L) : ∃ a c, v = .slice a n c := by
  rcases h.2 with ⟨rfl, rfl⟩ | ⟨g, cap, cur, rfl, _⟩
  · exact ⟨none, 0, rfl⟩
  · exact ⟨_, _, rfl⟩

/-- A register of sixteen bits. -/
abbrev Rgs (x : Int) : Prop := 0 ≤ x ∧ x ≤ 65535

/-- The register that is stirred, behind k bits. -/
def rst (t s : Nat) : Nat → Nat
  | 0 => s
  | k + 1 => if rst t s k % 2 = 1 then (rst t s k / 2) ^^^ t else rst t s k / 2

theorem rst_lt {t s : Nat} (ht : t < 65536) (hs : s < 65536) (k : Nat) : rst t s k < 65536 := by
  induction k with
  | zero => exact hs
  | succ k ih =>
    rw [rst]
    split
    · exact Nat.xor_lt_two_pow (n := 16) (by omega) (by omega)
    · omega

/-- What Stir tells. -/
def stv (t s : Nat) (xs : Nat → Int) (k : Nat) : Int := xb (xs k) ((rst t s k % 2 : Nat) : Int)

/-- Good for Stir. -/
abbrev GSt (n : Nat) (xs : Nat → Int) (t s : Int) : Prop := Bts n xs ∧ (1 ≤ t ∧ t ≤ 65535) ∧ (1 ≤ s ∧ s ≤ 65535)

theorem u16_and_one {r : Nat} (h : r < 65536) : bits .and .u16 (r : Int) 1 = ((r % 2 : Nat) : Int) := by
  have h1 : bits .and .u16 (r : Int) ((1 : Nat) : Int) = ((r &&& 1 : Nat) : Int) := u16_and_nat r 1 h (by omega)
  rw [Nat.and_one_is_mod] at h1
  exact h1

theorem reg_any (x : Int) (w : World) : Calls Try.prog 24 #[.int .i64 x] w fun e w' => e = .returned (.bool (decide (Rgs x))) ∧ w' = w := by
  go_enter Try.func24, Try.ntmps24
  by_cases h : 0 ≤ x
  · by_cases h1 : x ≤ 65535
    · go_wp2
      go_ret
      exact ⟨by simp [h, h1], rfl⟩
    · go_wp2
      go_ret
      exact ⟨by simp [h1], rfl⟩
  · go_wp2
    go_ret
    exact ⟨by simp; omega, rfl⟩

def lenOf : Value → Nat
  | .slice _ n _ => n
  | _ => 0

set_option maxHeartbeats 8000000 in
theorem sStir_good {w : World} {v : Value} {n t s : Nat} {xs : Nat → Int} (hv : Il w v n xs) (h : GSt n xs (t : Int) (s : Int)) :
    Calls Try.prog 18 #[v, .int .i64 (t : Int), .int .i64 (s : Int)] w fun e w' => Pst w w' e n (stv t s xs) true := by
  obtain ⟨i0, hi, hz0, hz1, hz2⟩ := info_parts Try.info3
  obtain ⟨h, ht, hs⟩ := h
  have h5 := h.1
  have HBT : Hid (∀ k, k < n → Bit (xs k)) := h.2
  have i1 := sBits_any (hv.below (below_one w (.cells #[] 3))) (by omega)
  rw [decide_eq_true h] at i1
  have i2 := in_any (t : Int) 1 65535
  rw [decide_eq_true (by omega)] at i2
  have i3 := in_any (s : Int) 1 65535
  rw [decide_eq_true (by omega)] at i3
  have OW : Hid ((w.alloc (.cells #[] 3)).ownsRow w.heap.size 3 1 (.slice (some ⟨w.heap.size, 0, none⟩) 0 0) 0 (ils (stv t s xs) 0)) := own_empty w 3 1
  have BL : Hid (Below w.heap.size w (w.alloc (.cells #[] 3))) := below_one _ _
  obtain ⟨ao, cap, rfl, hcap, hc⟩ := hv
  have HC : Hid (0 < n → ∃ b off, ao = some ⟨b, off, none⟩ ∧ b < w.heap.size ∧ ∀ k, k < n → w.cell? ⟨b, off + k, none⟩ = some (.int .i64 (xs k))) := hc
  clear hc h
  go_enter Try.func18, Try.ntmps18
  go_wp2_with (first | (go_at_call 6; (with_reducible refine (i1).mono ?_); rintro e w' ⟨rfl, hw⟩; obtain rfl := hw.symm) | (go_at_call 22; (with_reducible refine (i2 _).mono ?_); rintro e w' ⟨rfl, hw⟩; obtain rfl := hw.symm) | (go_at_call 22; (with_reducible refine (i3 _).mono ?_); rintro e w' ⟨rfl, hw⟩; obtain rfl := hw.symm))
  clear i1 i2 i3
  generalize w.alloc (.cells #[] 3) = W at *
  go_loopw [8, 9, 10, 11] (fun o a i _ wr => ∃ (k r : Nat), i = .int .i64 k ∧ a = .int .i64 (r : Int) ∧ k ≤ n ∧ Hid (r = rst t s k ∧ wr.ownsRow w.heap.size 3 1 o k (ils (stv t s xs) k) ∧ Below w.heap.size w wr)) (fun _ _ i _ _ => n - (intOf i).toNat)
  case atStart => exact ⟨0, s, rfl, rfl, by omega, rfl, OW.out, BL.out⟩
  case round =>
    obtain ⟨k, r, rfl, rfl, hk, hrel⟩ := hrel
    by_cases h1 : k < n
    · obtain ⟨b, off, rfl, hlt, hcell⟩ := HC.out (by omega)
      have c := (hrel.out.2.2.cell (p := ⟨b, off + k, none⟩) hlt).trans (hcell k h1)
      have HSV : Hid (r = rst t s k) := hrel.out.1
      have HO := hrel.out.2.1
      have HB := hrel.out.2.2
      have hr : r < 65536 := by rw [hrel.out.1]; exact rst_lt (by omega) (by omega) k
      have hb1 : Bit (xs k) := HBT.out k h1
      obtain ⟨x, hx⟩ : ∃ x, x = xs k := ⟨_, rfl⟩
      rw [← hx] at c hb1
      obtain ⟨q, hq⟩ : ∃ q : Nat, q = r / 2 := ⟨_, rfl⟩
      have e1 : (r : Int) / 2 = (q : Int) := by omega
      have e3 : (r : Int).tdiv 2 = (q : Int) := by rw [Int.tdiv_eq_ediv_of_nonneg (by omega)]; omega
      obtain ⟨y, hy⟩ : ∃ y : Nat, y = q ^^^ t := ⟨_, rfl⟩
      have hqb : q < 65536 := by omega
      have hyb : y < 65536 := by rw [hy]; exact Nat.xor_lt_two_pow (n := 16) (by omega) (by omega)
      have e4 : bits .xor .i64 (q : Int) (t : Int) = (y : Int) := by rw [xor_nat (by omega) (by omega), hy]
      by_cases hp : r % 2 = 1
      · have hl : r % 2 = 1 := by omega
        have e2 : (r : Int) % 2 = 1 := by omega
        have e7 : (r : Int).tmod 2 = 1 := by rw [Int.tmod_eq_emod_of_nonneg (by omega)]; omega
        have hxx : bits .xor .i64 x 1 = xb x 1 := xor_bit hb1 (by simp [Bit])
        obtain ⟨z, hz⟩ : ∃ z, z = xb x 1 := ⟨_, rfl⟩
        rw [← hz] at hxx
        have HZ : Hid (z = stv t s xs k) := by rw [hz, hx]; unfold stv; rw [← HSV.out, hl]; rfl
        have HR : Hid (y = rst t s (k + 1)) := by show _ = if rst t s k % 2 = 1 then _ else _; rw [← HSV.out, if_pos hp, ← hq]; exact hy
        skip
        clear hx hz hcell hrel hb1 hq hy hl hp
        have hb3 := below_one wr (.cells #[.int .i64 z] 3)
        have HO3 := own_below HO hb3
        have HB3 := bstep HB hb3
        clear hb3
        go_wp2_with (first | (at_builtin; refine wpList_append_own _ rfl _ _ 24 rfl w.heap.size 3 i0 (.int .i64 0) 1 8 Try.underlying24 hi hz0 hz1 hz2 rfl (by decide) _ _ _ rfl HO3 ⟨wr.heap.size, 0, none⟩ 1 1 [.int .i64 z] rfl rfl (one_new _ _ _) (by simp [Value.oneCell']) (by unfold maxLen; omega) (by omega) HB3.size ?_))
        intro v' w4 hown' hgrow _
        have HB4 : Hid (Below w.heap.size w w4) := grown_below HB3 (Nat.le_refl _) HO3 hgrow
        rw [show Value.int .i64 z = .int .i64 (stv t s xs k) from congrArg _ HZ.out, ← ils_snoc (stv t s xs) k] at hown'
        have HO4 : Hid (w4.ownsRow w.heap.size 3 1 v' (k + 1) (ils (stv t s xs) (k + 1))) := hown'
        clear hown' hgrow HB3 HO3
        skip
        go_wp2
        go_roundw
        case rel => exact ⟨k + 1, _, by go_num, rfl, by omega, HR.out, HO4.out, HB4.out⟩
        case measure => simp [intOf]; omega
      · have hl : r % 2 = 0 := by omega
        have e2 : (r : Int) % 2 = 0 := by omega
        have e7 : (r : Int).tmod 2 = 0 := by rw [Int.tmod_eq_emod_of_nonneg (by omega)]; omega
        have hxx : bits .xor .i64 x 0 = xb x 0 := xor_bit hb1 (by simp [Bit])
        obtain ⟨z, hz⟩ : ∃ z, z = xb x 0 := ⟨_, rfl⟩
        rw [← hz] at hxx
        have HZ : Hid (z = stv t s xs k) := by rw [hz, hx]; unfold stv; rw [← HSV.out, hl]; rfl
        have HR : Hid (q = rst t s (k + 1)) := by show _ = if rst t s k % 2 = 1 then _ else _; rw [← HSV.out, if_neg hp]; exact hq
        skip
        clear hx hz hcell hrel hb1 hq hy hl hp
        have hb3 := below_one wr (.cells #[.int .i64 z] 3)
        have HO3 := own_below HO hb3
        have HB3 := bstep HB hb3
        clear hb3
        go_wp2_with (first | (at_builtin; refine wpList_append_own _ rfl _ _ 24 rfl w.heap.size 3 i0 (.int .i64 0) 1 8 Try.underlying24 hi hz0 hz1 hz2 rfl (by decide) _ _ _ rfl HO3 ⟨wr.heap.size, 0, none⟩ 1 1 [.int .i64 z] rfl rfl (one_new _ _ _) (by simp [Value.oneCell']) (by unfold maxLen; omega) (by omega) HB3.size ?_))
        intro v' w4 hown' hgrow _
        have HB4 : Hid (Below w.heap.size w w4) := grown_below HB3 (Nat.le_refl _) HO3 hgrow
        rw [show Value.int .i64 z = .int .i64 (stv t s xs k) from congrArg _ HZ.out, ← ils_snoc (stv t s xs) k] at hown'
        have HO4 : Hid (w4.ownsRow w.heap.size 3 1 v' (k + 1) (ils (stv t s xs) (k + 1))) := hown'
        clear hown' hgrow HB3 HO3
        skip
        go_wp2
        go_roundw
        case rel => exact ⟨k + 1, _, by go_num, rfl, by omega, HR.out, HO4.out, HB4.out⟩
        case measure => simp [intOf]; omega
    · obtain rfl : n = k := by omega
      go_wp2
      go_ret2
      exact ⟨_, rfl, hrel.out.2.1, hrel.out.2.2⟩

set_option maxHeartbeats 2000000 in
theorem sStir_bad {w : World} {v : Value} {n : Nat} {xs : Nat → Int} {t s : Int} (hv : Il w v n xs) (hn : n ≤ 1048576) (h : ¬ GSt n xs t s) (ys : Nat → Int) :
    Calls Try.prog 18 #[v, .int .i64 t, .int .i64 s] w fun e w' => Pst w w' e 0 ys false := by
  have i1 := sBits_any (hv.below (below_one w (.cells #[] 3))) hn
  have i2 := in_any t 1 65535
  have i3 := in_any s 1 65535
  obtain ⟨ao, cap, rfl, hcap, hc⟩ := hv
  clear hc
  by_cases c1 : Bts n xs
  · rw [decide_eq_true c1] at i1
    by_cases c2 : 1 ≤ t ∧ t ≤ 65535
    · rw [decide_eq_true c2] at i2
      rw [decide_eq_false (fun c3 => h ⟨c1, c2, c3⟩)] at i3
      clear h c1
      go_enter Try.func18, Try.ntmps18
      go_wp2_with (first | (go_at_call 6; (with_reducible refine (i1).mono ?_); rintro e w' ⟨rfl, hw⟩; obtain rfl := hw.symm) | (go_at_call 22; (with_reducible refine (i2 _).mono ?_); rintro e w' ⟨rfl, hw⟩; obtain rfl := hw.symm) | (go_at_call 22; (with_reducible refine (i3 _).mono ?_); rintro e w' ⟨rfl, hw⟩; obtain rfl := hw.symm))
      go_ret2
      exact ⟨_, rfl, own_empty w 3 1, below_one _ _⟩
    · rw [decide_eq_false c2] at i2
      clear h c1
      clear i3
      go_enter Try.func18, Try.ntmps18
      go_wp2_with (first | (go_at_call 6; (with_reducible refine (i1).mono ?_); rintro e w' ⟨rfl, hw⟩; obtain rfl := hw.symm) | (go_at_call 22; (with_reducible refine (i2 _).mono ?_); rintro e w' ⟨rfl, hw⟩; obtain rfl := hw.symm))
      go_ret2
      exact ⟨_, rfl, own_empty w 3 1, below_one _ _⟩
  · rw [decide_eq_false c1] at i1
    clear h c1
    clear i2 i3
    go_enter Try.func18, Try.ntmps18
    go_wp2_with (first | (go_at_call 6; (with_reducible refine (i1).mono ?_); rintro e w' ⟨rfl, hw⟩; obtain rfl := hw.symm))
    go_ret2
    exact ⟨_, rfl, own_empty w 3 1, below_one _ _⟩
set_option maxHeartbeats 8000000 in
theorem iStir_good {w : World} {v : Value} {n t s : Nat} {xs : Nat → Int} (hv : Il w v n xs) (h : GSt n xs (t : Int) (s : Int)) :
    Calls Try.prog 17 #[v, .int .i64 (t : Int), .int .i64 (s : Int)] w fun e w' => Pst w w' e n (stv t s xs) true := by
  obtain ⟨i0, hi, hz0, hz1, hz2⟩ := info_parts Try.info3
  obtain ⟨h, ht, hs⟩ := h
  have h5 := h.1
  have HBT : Hid (∀ k, k < n → Bit (xs k)) := h.2
  have i1 := iBits_any (hv.below (below_one w (.cells #[] 3))) (by omega)
  rw [decide_eq_true h] at i1
  have i2 := reg_any (t : Int)
  rw [decide_eq_true (by omega)] at i2
  have i3 := reg_any (s : Int)
  rw [decide_eq_true (by omega)] at i3
  have q1 : ((t : Int) == 0) = false := by simp; omega
  have q2 : ((s : Int) == 0) = false := by simp; omega
  have q3 : IntKind.u16.wrap (s : Int) = (s : Int) := by rw [IntKind.wrap_u16]; omega
  have q4 : IntKind.u16.wrap (t : Int) = (t : Int) := by rw [IntKind.wrap_u16]; omega
  have OW : Hid ((w.alloc (.cells #[] 3)).ownsRow w.heap.size 3 1 (.slice (some ⟨w.heap.size, 0, none⟩) 0 0) 0 (ils (stv t s xs) 0)) := own_empty w 3 1
  have BL : Hid (Below w.heap.size w (w.alloc (.cells #[] 3))) := below_one _ _
  obtain ⟨ao, cap, rfl, hcap, hc⟩ := hv
  have HC : Hid (0 < n → ∃ b off, ao = some ⟨b, off, none⟩ ∧ b < w.heap.size ∧ ∀ k, k < n → w.cell? ⟨b, off + k, none⟩ = some (.int .i64 (xs k))) := hc
  clear hc h
  go_enter Try.func17, Try.ntmps17
  go_wp2
  refine wp_scope_jumps 0 (fun a' w' => ∃ (k r : Nat) (al : Option Addr) (cl : Nat) (u10 u11 u12 u13 u14 u15 u16 u17 u18 u19 u20 u21 u22 u23 u24 u25 u26 u27 u28 u29 u30 u31 u32 u33 u34 u35 u36 u37 u38 u39 u40 u41 u42 u43 u44 u45 u46 u47 u48 u49 u50 u51 u52 u53 u54 u55 u56 u57 u58 u59 u60 u61 u62 : Value), a' = { tmps := #[.slice ao n cap, .int .i64 (t : Int), .int .i64 (s : Int), undef, undef, undef, .slice none 0 0, .bool false, .slice al k cl, .int .u16 (r : Int), u10, u11, u12, u13, u14, u15, u16, u17, u18, u19, u20, u21, u22, u23, u24, u25, u26, u27, u28, u29, u30, u31, u32, u33, u34, u35, u36, u37, u38, u39, u40, u41, u42, u43, u44, u45, u46, u47, u48, u49, u50, u51, u52, u53, u54, u55, u56, u57, u58, u59, u60, u61, u62], defers := [] } ∧ k ≤ n ∧ Hid (r = rst t s k ∧ w'.ownsRow w.heap.size 3 1 (.slice al k cl) k (ils (stv t s xs) k) ∧ Below w.heap.size w w')) (fun a' _ => n - lenOf (a'.tmps.getD 8 undef)) rfl ?_ ?_
  · go_wp2_with (first | (go_at_call 23; (with_reducible refine (i1).mono ?_); rintro e w' ⟨rfl, hw⟩; obtain rfl := hw.symm) | (go_at_call 24; (with_reducible refine (i2 _).mono ?_); rintro e w' ⟨rfl, hw⟩; obtain rfl := hw.symm) | (go_at_call 24; (with_reducible refine (i3 _).mono ?_); rintro e w' ⟨rfl, hw⟩; obtain rfl := hw.symm))
    clear i1 i2 i3
    generalize w.alloc (.cells #[] 3) = W at *
    go_step3
    go_wp2
    go_loopw [8, 9, 10] (fun o a _ wr => ∃ (k r : Nat) (al : Option Addr) (cl : Nat), o = .slice al k cl ∧ a = .int .u16 (r : Int) ∧ 0 ≤ k ∧ k ≤ n ∧ Hid (r = rst t s k ∧ wr.ownsRow w.heap.size 3 1 (.slice al k cl) k (ils (stv t s xs) k) ∧ Below w.heap.size w wr)) (fun o _ _ _ => n - lenOf o)
    case atStart => exact ⟨0, s, _, _, rfl, rfl, by omega, by omega, rfl, OW.out, BL.out⟩
    case round =>
      obtain ⟨k, r, al, cl, rfl, rfl, hk0, hk, hrel⟩ := hrel
      by_cases h1 : k < n
      · obtain ⟨b, off, rfl, hlt, hcell⟩ := HC.out (by omega)
        have c := (hrel.out.2.2.cell (p := ⟨b, off + k, none⟩) hlt).trans (hcell k h1)
        have HSV : Hid (r = rst t s k) := hrel.out.1
        have HO := hrel.out.2.1
        have HB := hrel.out.2.2
        have hr : r < 65536 := by rw [hrel.out.1]; exact rst_lt (by omega) (by omega) k
        have hb1 : Bit (xs k) := HBT.out k h1
        obtain ⟨x, hx⟩ : ∃ x, x = xs k := ⟨_, rfl⟩
        rw [← hx] at c hb1
        obtain ⟨q, hq⟩ : ∃ q : Nat, q = r / 2 := ⟨_, rfl⟩
        have e1 : (r : Int) / 2 = (q : Int) := by omega
        obtain ⟨y, hy⟩ : ∃ y : Nat, y = q ^^^ t := ⟨_, rfl⟩
        have hqb : q < 65536 := by omega
        have hyb : y < 65536 := by rw [hy]; exact Nat.xor_lt_two_pow (n := 16) (by omega) (by omega)
        have e5 : bits .xor .u16 (q : Int) (t : Int) = (y : Int) := by rw [u16_xor_nat q t (by omega) (by omega), hy]
        have e6 := u16_and_one hr
        by_cases hp : r % 2 = 1
        · have hl : r % 2 = 1 := by omega
          have hxx : bits .xor .i64 x 1 = xb x 1 := xor_bit hb1 (by simp [Bit])
          obtain ⟨z, hz⟩ : ∃ z, z = xb x 1 := ⟨_, rfl⟩
          rw [← hz] at hxx
          have HZ : Hid (z = stv t s xs k) := by rw [hz, hx]; unfold stv; rw [← HSV.out, hl]; rfl
          have HR : Hid (y = rst t s (k + 1)) := by show _ = if rst t s k % 2 = 1 then _ else _; rw [← HSV.out, if_pos hp, ← hq]; exact hy
          rw [hl] at e6
          clear hx hz hcell hrel hb1 hq hy hl hp
          have hb3 := below_one wr (.cells #[.int .i64 z] 3)
          have HO3 := own_below HO hb3
          have HB3 := bstep HB hb3
          clear hb3
          go_wp2_with (first | (at_builtin; refine wpList_append_own _ rfl _ _ 24 rfl w.heap.size 3 i0 (.int .i64 0) 1 8 Try.underlying24 hi hz0 hz1 hz2 rfl (by decide) _ _ _ rfl HO3 ⟨wr.heap.size, 0, none⟩ 1 1 [.int .i64 z] rfl rfl (one_new _ _ _) (by simp [Value.oneCell']) (by unfold maxLen; omega) (by omega) HB3.size ?_))
          intro v' w4 hown' hgrow _
          have HB4 : Hid (Below w.heap.size w w4) := grown_below HB3 (Nat.le_refl _) HO3 hgrow
          rw [show Value.int .i64 z = .int .i64 (stv t s xs k) from congrArg _ HZ.out, ← ils_snoc (stv t s xs) k] at hown'
          have HO4 : Hid (w4.ownsRow w.heap.size 3 1 v' (k + 1) (ils (stv t s xs) (k + 1))) := hown'
          clear hown' hgrow HB3 HO3
          obtain ⟨al', cl', rfl⟩ := own_slice HO4.out
          go_wp2
          go_roundw
          case rel => exact ⟨k + 1, _, _, _, rfl, rfl, by omega, by omega, HR.out, HO4.out, HB4.out⟩
          case measure => simp [lenOf]; omega
        · have hl : r % 2 = 0 := by omega
          have hxx : bits .xor .i64 x 0 = xb x 0 := xor_bit hb1 (by simp [Bit])
          obtain ⟨z, hz⟩ : ∃ z, z = xb x 0 := ⟨_, rfl⟩
          rw [← hz] at hxx
          have HZ : Hid (z = stv t s xs k) := by rw [hz, hx]; unfold stv; rw [← HSV.out, hl]; rfl
          have HR : Hid (q = rst t s (k + 1)) := by show _ = if rst t s k % 2 = 1 then _ else _; rw [← HSV.out, if_neg hp]; exact hq
          rw [hl] at e6
          clear hx hz hcell hrel hb1 hq hy hl hp
          have hb3 := below_one wr (.cells #[.int .i64 z] 3)
          have HO3 := own_below HO hb3
          have HB3 := bstep HB hb3
          clear hb3
          go_wp2_with (first | (at_builtin; refine wpList_append_own _ rfl _ _ 24 rfl w.heap.size 3 i0 (.int .i64 0) 1 8 Try.underlying24 hi hz0 hz1 hz2 rfl (by decide) _ _ _ rfl HO3 ⟨wr.heap.size, 0, none⟩ 1 1 [.int .i64 z] rfl rfl (one_new _ _ _) (by simp [Value.oneCell']) (by unfold maxLen; omega) (by omega) HB3.size ?_))
          intro v' w4 hown' hgrow _
          have HB4 : Hid (Below w.heap.size w w4) := grown_below HB3 (Nat.le_refl _) HO3 hgrow
          rw [show Value.int .i64 z = .int .i64 (stv t s xs k) from congrArg _ HZ.out, ← ils_snoc (stv t s xs) k] at hown'
          have HO4 : Hid (w4.ownsRow w.heap.size 3 1 v' (k + 1) (ils (stv t s xs) (k + 1))) := hown'
          clear hown' hgrow HB3 HO3
          obtain ⟨al', cl', rfl⟩ := own_slice HO4.out
          go_wp2
          go_step3
          exact ⟨rfl, k + 1, _, _, _, _, _, _, _, _, _, _, _, _, _, _, _, _, _, _, _, _, _, _, _, _, _, _, _, _, _, _, _, _, _, _, _, _, _, _, _, _, _, _, _, _, _, _, _, _, _, _, _, _, _, _, _, _, rfl, by omega, HR.out, HO4.out, HB4.out⟩
      · obtain rfl : n = k := by omega
        go_wp2
        simp only [Exit.jump]
        go_ret2
        exact ⟨_, rfl, hrel.out.2.1, hrel.out.2.2⟩
  · rintro a' w' ⟨k0, r0, al0, cl0, u10, u11, u12, u13, u14, u15, u16, u17, u18, u19, u20, u21, u22, u23, u24, u25, u26, u27, u28, u29, u30, u31, u32, u33, u34, u35, u36, u37, u38, u39, u40, u41, u42, u43, u44, u45, u46, u47, u48, u49, u50, u51, u52, u53, u54, u55, u56, u57, u58, u59, u60, u61, u62, rfl, hk0, hrel0⟩
    have HREL : Hid (r0 = rst t s k0 ∧ w'.ownsRow w.heap.size 3 1 (.slice al0 k0 cl0) k0 (ils (stv t s xs) k0) ∧ Below w.heap.size w w') := hrel0.out
    clear i1 i2 i3 OW BL hrel0
    go_wp2
    go_loopw [8, 9, 10] (fun o a _ wr => ∃ (k r : Nat) (al : Option Addr) (cl : Nat), o = .slice al k cl ∧ a = .int .u16 (r : Int) ∧ k0 ≤ k ∧ k ≤ n ∧ Hid (r = rst t s k ∧ wr.ownsRow w.heap.size 3 1 (.slice al k cl) k (ils (stv t s xs) k) ∧ Below w.heap.size w wr)) (fun o _ _ _ => n - lenOf o)
    case atStart => exact ⟨k0, r0, _, _, rfl, rfl, by omega, by omega, HREL.out⟩
    case round =>
      obtain ⟨k, r, al, cl, rfl, rfl, hk0, hk, hrel⟩ := hrel
      by_cases h1 : k < n
      · obtain ⟨b, off, rfl, hlt, hcell⟩ := HC.out (by omega)
        have c := (hrel.out.2.2.cell (p := ⟨b, off + k, none⟩) hlt).trans (hcell k h1)
        have HSV : Hid (r = rst t s k) := hrel.out.1
        have HO := hrel.out.2.1
        have HB := hrel.out.2.2
        have hr : r < 65536 := by rw [hrel.out.1]; exact rst_lt (by omega) (by omega) k
        have hb1 : Bit (xs k) := HBT.out k h1
        obtain ⟨x, hx⟩ : ∃ x, x = xs k := ⟨_, rfl⟩
        rw [← hx] at c hb1
        obtain ⟨q, hq⟩ : ∃ q : Nat, q = r / 2 := ⟨_, rfl⟩
        have e1 : (r : Int) / 2 = (q : Int) := by omega
        obtain ⟨y, hy⟩ : ∃ y : Nat, y = q ^^^ t := ⟨_, rfl⟩
        have hqb : q < 65536 := by omega
        have hyb : y < 65536 := by rw [hy]; exact Nat.xor_lt_two_pow (n := 16) (by omega) (by omega)
        have e5 : bits .xor .u16 (q : Int) (t : Int) = (y : Int) := by rw [u16_xor_nat q t (by omega) (by omega), hy]
        have e6 := u16_and_one hr
        by_cases hp : r % 2 = 1
        · have hl : r % 2 = 1 := by omega
          have hxx : bits .xor .i64 x 1 = xb x 1 := xor_bit hb1 (by simp [Bit])
          obtain ⟨z, hz⟩ : ∃ z, z = xb x 1 := ⟨_, rfl⟩
          rw [← hz] at hxx
          have HZ : Hid (z = stv t s xs k) := by rw [hz, hx]; unfold stv; rw [← HSV.out, hl]; rfl
          have HR : Hid (y = rst t s (k + 1)) := by show _ = if rst t s k % 2 = 1 then _ else _; rw [← HSV.out, if_pos hp, ← hq]; exact hy
          rw [hl] at e6
          clear hx hz hcell hrel hb1 hq hy hl hp
          have hb3 := below_one wr (.cells #[.int .i64 z] 3)
          have HO3 := own_below HO hb3
          have HB3 := bstep HB hb3
          clear hb3
          go_wp2_with (first | (at_builtin; refine wpList_append_own _ rfl _ _ 24 rfl w.heap.size 3 i0 (.int .i64 0) 1 8 Try.underlying24 hi hz0 hz1 hz2 rfl (by decide) _ _ _ rfl HO3 ⟨wr.heap.size, 0, none⟩ 1 1 [.int .i64 z] rfl rfl (one_new _ _ _) (by simp [Value.oneCell']) (by unfold maxLen; omega) (by omega) HB3.size ?_))
          intro v' w4 hown' hgrow _
          have HB4 : Hid (Below w.heap.size w w4) := grown_below HB3 (Nat.le_refl _) HO3 hgrow
          rw [show Value.int .i64 z = .int .i64 (stv t s xs k) from congrArg _ HZ.out, ← ils_snoc (stv t s xs) k] at hown'
          have HO4 : Hid (w4.ownsRow w.heap.size 3 1 v' (k + 1) (ils (stv t s xs) (k + 1))) := hown'
          clear hown' hgrow HB3 HO3
          obtain ⟨al', cl', rfl⟩ := own_slice HO4.out
          go_wp2
          go_roundw
          case rel => exact ⟨k + 1, _, _, _, rfl, rfl, by omega, by omega, HR.out, HO4.out, HB4.out⟩
          case measure => simp [lenOf]; omega
        · have hl : r % 2 = 0 := by omega
          have hxx : bits .xor .i64 x 0 = xb x 0 := xor_bit hb1 (by simp [Bit])
          obtain ⟨z, hz⟩ : ∃ z, z = xb x 0 := ⟨_, rfl⟩
          rw [← hz] at hxx
          have HZ : Hid (z = stv t s xs k) := by rw [hz, hx]; unfold stv; rw [← HSV.out, hl]; rfl
          have HR : Hid (q = rst t s (k + 1)) := by show _ = if rst t s k % 2 = 1 then _ else _; rw [← HSV.out, if_neg hp]; exact hq
          rw [hl] at e6
          clear hx hz hcell hrel hb1 hq hy hl hp
          have hb3 := below_one wr (.cells #[.int .i64 z] 3)
          have HO3 := own_below HO hb3
          have HB3 := bstep HB hb3
          clear hb3
          go_wp2_with (first | (at_builtin; refine wpList_append_own _ rfl _ _ 24 rfl w.heap.size 3 i0 (.int .i64 0) 1 8 Try.underlying24 hi hz0 hz1 hz2 rfl (by decide) _ _ _ rfl HO3 ⟨wr.heap.size, 0, none⟩ 1 1 [.int .i64 z] rfl rfl (one_new _ _ _) (by simp [Value.oneCell']) (by unfold maxLen; omega) (by omega) HB3.size ?_))
          intro v' w4 hown' hgrow _
          have HB4 : Hid (Below w.heap.size w w4) := grown_below HB3 (Nat.le_refl _) HO3 hgrow
          rw [show Value.int .i64 z = .int .i64 (stv t s xs k) from congrArg _ HZ.out, ← ils_snoc (stv t s xs) k] at hown'
          have HO4 : Hid (w4.ownsRow w.heap.size 3 1 v' (k + 1) (ils (stv t s xs) (k + 1))) := hown'
          clear hown' hgrow HB3 HO3
          obtain ⟨al', cl', rfl⟩ := own_slice HO4.out
          go_wp2
          go_step3
          exact ⟨rfl, ⟨k + 1, _, _, _, _, _, _, _, _, _, _, _, _, _, _, _, _, _, _, _, _, _, _, _, _, _, _, _, _, _, _, _, _, _, _, _, _, _, _, _, _, _, _, _, _, _, _, _, _, _, _, _, _, _, _, _, _, rfl, by omega, HR.out, HO4.out, HB4.out⟩, by show n - (k + 1) < n - k0; omega⟩
      · obtain rfl : n = k := by omega
        go_wp2
        simp only [Exit.jump]
        go_ret2
        exact ⟨_, rfl, hrel.out.2.1, hrel.out.2.2⟩

set_option maxHeartbeats 2000000 in
theorem iStir_bad {w : World} {v : Value} {n : Nat} {xs : Nat → Int} {t s : Int} (hv : Il w v n xs) (hn : n ≤ 1048576) (h : ¬ GSt n xs t s) (ys : Nat → Int) :
    Calls Try.prog 17 #[v, .int .i64 t, .int .i64 s] w fun e w' => Pst w w' e 0 ys false := by
  have i1 := iBits_any (hv.below (below_one w (.cells #[] 3))) hn
  have i2 := reg_any t
  have i4 := reg_any s
  obtain ⟨ao, cap, rfl, hcap, hc⟩ := hv
  clear hc
  by_cases c1 : Bts n xs
  · rw [decide_eq_true c1] at i1
    by_cases c2 : Rgs t
    · rw [decide_eq_true c2] at i2
      by_cases c3 : (t == 0) = false
      · skip
        by_cases c4 : Rgs s
        · rw [decide_eq_true c4] at i4
          have c5 : ¬ ((s == 0) = false) := fun c5 => h ⟨c1, by simp at c3; omega, by simp at c5; omega⟩
          clear h c1
          go_enter Try.func17, Try.ntmps17
          go_wp2; go_step3; go_wp2_with (first | (go_at_call 23; (with_reducible refine (i1).mono ?_); rintro e w' ⟨rfl, hw⟩; obtain rfl := hw.symm) | (go_at_call 24; (with_reducible refine (i2 _).mono ?_); rintro e w' ⟨rfl, hw⟩; obtain rfl := hw.symm) | (go_at_call 24; (with_reducible refine (i4 _).mono ?_); rintro e w' ⟨rfl, hw⟩; obtain rfl := hw.symm))
          try rw [Exit.noGoto_ret]; go_ret2
          exact ⟨_, rfl, own_empty w 3 1, below_one _ _⟩
        · rw [decide_eq_false c4] at i4
          clear h c1
          go_enter Try.func17, Try.ntmps17
          go_wp2; go_step3; go_wp2_with (first | (go_at_call 23; (with_reducible refine (i1).mono ?_); rintro e w' ⟨rfl, hw⟩; obtain rfl := hw.symm) | (go_at_call 24; (with_reducible refine (i2 _).mono ?_); rintro e w' ⟨rfl, hw⟩; obtain rfl := hw.symm) | (go_at_call 24; (with_reducible refine (i4 _).mono ?_); rintro e w' ⟨rfl, hw⟩; obtain rfl := hw.symm))
          try rw [Exit.noGoto_ret]; go_ret2
          exact ⟨_, rfl, own_empty w 3 1, below_one _ _⟩
      · skip
        clear h c1
        clear i4
        go_enter Try.func17, Try.ntmps17
        go_wp2; go_step3; go_wp2_with (first | (go_at_call 23; (with_reducible refine (i1).mono ?_); rintro e w' ⟨rfl, hw⟩; obtain rfl := hw.symm) | (go_at_call 24; (with_reducible refine (i2 _).mono ?_); rintro e w' ⟨rfl, hw⟩; obtain rfl := hw.symm))
        try rw [Exit.noGoto_ret]; go_ret2
        exact ⟨_, rfl, own_empty w 3 1, below_one _ _⟩
    · rw [decide_eq_false c2] at i2
      clear h c1
      clear i4
      go_enter Try.func17, Try.ntmps17
      go_wp2; go_step3; go_wp2_with (first | (go_at_call 23; (with_reducible refine (i1).mono ?_); rintro e w' ⟨rfl, hw⟩; obtain rfl := hw.symm) | (go_at_call 24; (with_reducible refine (i2 _).mono ?_); rintro e w' ⟨rfl, hw⟩; obtain rfl := hw.symm))
      try rw [Exit.noGoto_ret]; go_ret2
      exact ⟨_, rfl, own_empty w 3 1, below_one _ _⟩
  · rw [decide_eq_false c1] at i1
    clear h c1
    clear i2 i4
    go_enter Try.func17, Try.ntmps17
    go_wp2; go_step3; go_wp2_with (first | (go_at_call 23; (with_reducible refine (i1).mono ?_); rintro e w' ⟨rfl, hw⟩; obtain rfl := hw.symm))
    try rw [Exit.noGoto_ret]; go_ret2
    exact ⟨_, rfl, own_empty w 3 1, below_one _ _⟩
end Go.Proofs.Ytgahjkijmihmdaa
