/- Decide: the document's bits of a level. -/
import Derived.Test.YtjnhhlpaeeifeaaDO
namespace Go.Proofs.Ytjnhhlpaeeifeaa
open Go.RowKit

set_option maxHeartbeats 8000000 in
theorem sBits_of {h : Nat} (hh : Hlf h) {x : Int} (hx : Smp x) (w : World) : Calls Try.prog 15 #[.int .i64 (h : Int), .int .i64 x] w fun e w' => ∃ u, e = .returned u ∧ w'.ownsRow w.heap.size 3 1 u h (ils (bfn (glv h x) h) h) ∧ Below w.heap.size w w' := by
  obtain ⟨i0, hi, hz0, hz1, hz2⟩ := info_parts Try.info3
  have h4 : h ≤ 4 ∧ 1 ≤ h := by rcases hh with rfl | rfl | rfl | rfl <;> omega
  have hp := top_in hh
  have hnl := nlv_in hh x
  have hgl := glv_lt hh x
  obtain ⟨z, hz⟩ : ∃ z, z = nlv h x := ⟨_, rfl⟩
  have hg : glv h x = gry z.toNat := by rw [hz]; rfl
  rw [← hz] at hnl
  unfold nlv at hz
  obtain ⟨p, hp2⟩ : ∃ p : Int, p = 2 ^ h - 1 := ⟨_, rfl⟩
  have e1 : (2 : Int) ^ h = p + 1 := by rw [hp2]; omega
  rw [← hp2] at hp hz hnl
  have e2 : IntKind.u64.wrap (h : Int) = (h : Int) := by rw [IntKind.wrap_u64]; omega
  have i2 := sRound_any (x + p) 2
  obtain ⟨u, hu⟩ : ∃ u, u = rdV (x + p) 2 := ⟨_, rfl⟩
  rw [← hu] at i2 hz
  have hub : -600000000 ≤ u ∧ u ≤ 600000000 := by
    rw [hu]
    unfold rdV rdv
    rw [if_pos (by omega)]
    split <;> omega
  have i3 := sGry_yes (n := z.toNat) (by omega)
  rw [show ((z.toNat : Nat) : Int) = z by omega, ← hg] at i3
  obtain ⟨g, hgg⟩ : ∃ g : Nat, g = glv h x := ⟨_, rfl⟩
  rw [← hgg] at i3 hgl ⊢
  have OW : Hid ((w.alloc (.cells #[] 3)).ownsRow w.heap.size 3 1 (.slice (some ⟨w.heap.size, 0, none⟩) 0 0) 0 (ils (bfn g h) 0)) := own_empty w 3 1
  have BL : Hid (Below w.heap.size w (w.alloc (.cells #[] 3))) := below_one _ _
  clear hp2 hu hg hgg hh
  by_cases c1 : u < 0
  · rw [if_pos c1] at hz
    subst hz
    go_enter Try.func15, Try.ntmps15
    go_wp2_with (first | (go_at_call 24; (with_reducible refine (i2 _).mono ?_); rintro e w' ⟨rfl, hw⟩; obtain rfl := hw.symm) | (go_at_call 25; (with_reducible refine (i3 _).mono ?_); rintro e w' ⟨rfl, hw⟩; obtain rfl := hw.symm))
    clear i2 i3
    generalize w.alloc (.cells #[] 3) = W at *
    go_loopw [8, 9] (fun o i wr => ∃ (k : Nat) (d : Int), i = .int .i64 d ∧ d = (h : Int) - 1 - (k : Int) ∧ k ≤ h ∧ Hid (wr.ownsRow w.heap.size 3 1 o k (ils (bfn g h) k) ∧ Below w.heap.size w wr)) (fun _ i _ => (intOf i + 1).toNat)
    case atStart => exact ⟨0, (h : Int) - 1, rfl, by omega, by omega, OW.out, BL.out⟩
    case round =>
      obtain ⟨k, d0, rfl, hd0, hk, hrel⟩ := hrel
      by_cases h1 : k < h
      · obtain ⟨d, rfl⟩ : ∃ d : Nat, d0 = (d : Int) := ⟨d0.toNat, by omega⟩
        have hdd : d = h - 1 - k := by omega
        obtain ⟨y, hy⟩ : ∃ y : Nat, y = g / 2 ^ d := ⟨_, rfl⟩
        have hyb : y ≤ g := by rw [hy]; exact Nat.div_le_self _ _
        have f1 : (g : Int) / 2 ^ d = (y : Int) := by rw [hy, Int.natCast_ediv, Int.natCast_pow]; rfl
        have f2 : IntKind.u64.wrap (d : Int) = (d : Int) := by rw [IntKind.wrap_u64]; omega
        obtain ⟨q, hq⟩ : ∃ q : Int, q = ((y % 2 : Nat) : Int) := ⟨_, rfl⟩
        have f3 : (y : Int) % 2 = q := by rw [hq]; omega
        have f4 : (y : Int).tmod 2 = q := by rw [Int.tmod_eq_emod_of_nonneg (by omega)]; exact f3
        have hqq : q = bfn g h k := by unfold bfn; rw [hq, hy, hdd]
        have HZ : Hid (q = bfn g h k) := hqq
        have HO := hrel.out.1
        have HB := hrel.out.2
        have HDK : Hid ((d : Int) = (h : Int) - 1 - (k : Int)) := hd0
        have hd4 : d ≤ 4 := by omega
        clear hy hq hqq hdd hd0 hrel
        have hb3 := below_one wr (.cells #[.int .i64 q] 3)
        have HO3 := own_below HO hb3
        have HB3 := bstep HB hb3
        clear hb3
        go_wp2_with (first | (at_builtin; refine wpList_append_own _ rfl _ _ 24 rfl w.heap.size 3 i0 (.int .i64 0) 1 8 Try.underlying24 hi hz0 hz1 hz2 rfl (by decide) _ _ _ rfl HO3 ⟨wr.heap.size, 0, none⟩ 1 1 [.int .i64 q] rfl rfl (one_new _ _ _) (by simp [Value.oneCell']) (by unfold maxLen; omega) (by omega) HB3.size ?_))
        intro v' w4 hown' hgrow _
        have HB4 : Hid (Below w.heap.size w w4) := grown_below HB3 (Nat.le_refl _) HO3 hgrow
        rw [show Value.int .i64 q = .int .i64 (bfn g h k) from congrArg _ HZ.out, ← ils_snoc (bfn g h) k] at hown'
        have HO4 : Hid (w4.ownsRow w.heap.size 3 1 v' (k + 1) (ils (bfn g h) (k + 1))) := hown'
        clear hown' hgrow HB3 HO3
        go_wp2
        go_roundw
        case rel => exact ⟨k + 1, (d : Int) - 1, rfl, by have := HDK.out; omega, by omega, HO4.out, HB4.out⟩
        case measure => first | (simp [intOf]; done) | (simp [intOf]; omega)
      · obtain rfl : h = k := by omega
        have hdm : d0 = -1 := by omega
        subst hdm
        go_wp2
        go_ret
        exact ⟨_, rfl, hrel.out⟩
  · rw [if_neg c1] at hz
    by_cases c2 : p < u
    · rw [if_pos c2] at hz
      subst hz
      go_enter Try.func15, Try.ntmps15
      go_wp2_with (first | (go_at_call 24; (with_reducible refine (i2 _).mono ?_); rintro e w' ⟨rfl, hw⟩; obtain rfl := hw.symm) | (go_at_call 25; (with_reducible refine (i3 _).mono ?_); rintro e w' ⟨rfl, hw⟩; obtain rfl := hw.symm))
      clear i2 i3
      generalize w.alloc (.cells #[] 3) = W at *
      go_loopw [8, 9] (fun o i wr => ∃ (k : Nat) (d : Int), i = .int .i64 d ∧ d = (h : Int) - 1 - (k : Int) ∧ k ≤ h ∧ Hid (wr.ownsRow w.heap.size 3 1 o k (ils (bfn g h) k) ∧ Below w.heap.size w wr)) (fun _ i _ => (intOf i + 1).toNat)
      case atStart => exact ⟨0, (h : Int) - 1, rfl, by omega, by omega, OW.out, BL.out⟩
      case round =>
        obtain ⟨k, d0, rfl, hd0, hk, hrel⟩ := hrel
        by_cases h1 : k < h
        · obtain ⟨d, rfl⟩ : ∃ d : Nat, d0 = (d : Int) := ⟨d0.toNat, by omega⟩
          have hdd : d = h - 1 - k := by omega
          obtain ⟨y, hy⟩ : ∃ y : Nat, y = g / 2 ^ d := ⟨_, rfl⟩
          have hyb : y ≤ g := by rw [hy]; exact Nat.div_le_self _ _
          have f1 : (g : Int) / 2 ^ d = (y : Int) := by rw [hy, Int.natCast_ediv, Int.natCast_pow]; rfl
          have f2 : IntKind.u64.wrap (d : Int) = (d : Int) := by rw [IntKind.wrap_u64]; omega
          obtain ⟨q, hq⟩ : ∃ q : Int, q = ((y % 2 : Nat) : Int) := ⟨_, rfl⟩
          have f3 : (y : Int) % 2 = q := by rw [hq]; omega
          have f4 : (y : Int).tmod 2 = q := by rw [Int.tmod_eq_emod_of_nonneg (by omega)]; exact f3
          have hqq : q = bfn g h k := by unfold bfn; rw [hq, hy, hdd]
          have HZ : Hid (q = bfn g h k) := hqq
          have HO := hrel.out.1
          have HB := hrel.out.2
          have HDK : Hid ((d : Int) = (h : Int) - 1 - (k : Int)) := hd0
          have hd4 : d ≤ 4 := by omega
          clear hy hq hqq hdd hd0 hrel
          have hb3 := below_one wr (.cells #[.int .i64 q] 3)
          have HO3 := own_below HO hb3
          have HB3 := bstep HB hb3
          clear hb3
          go_wp2_with (first | (at_builtin; refine wpList_append_own _ rfl _ _ 24 rfl w.heap.size 3 i0 (.int .i64 0) 1 8 Try.underlying24 hi hz0 hz1 hz2 rfl (by decide) _ _ _ rfl HO3 ⟨wr.heap.size, 0, none⟩ 1 1 [.int .i64 q] rfl rfl (one_new _ _ _) (by simp [Value.oneCell']) (by unfold maxLen; omega) (by omega) HB3.size ?_))
          intro v' w4 hown' hgrow _
          have HB4 : Hid (Below w.heap.size w w4) := grown_below HB3 (Nat.le_refl _) HO3 hgrow
          rw [show Value.int .i64 q = .int .i64 (bfn g h k) from congrArg _ HZ.out, ← ils_snoc (bfn g h) k] at hown'
          have HO4 : Hid (w4.ownsRow w.heap.size 3 1 v' (k + 1) (ils (bfn g h) (k + 1))) := hown'
          clear hown' hgrow HB3 HO3
          go_wp2
          go_roundw
          case rel => exact ⟨k + 1, (d : Int) - 1, rfl, by have := HDK.out; omega, by omega, HO4.out, HB4.out⟩
          case measure => first | (simp [intOf]; done) | (simp [intOf]; omega)
        · obtain rfl : h = k := by omega
          have hdm : d0 = -1 := by omega
          subst hdm
          go_wp2
          go_ret
          exact ⟨_, rfl, hrel.out⟩
    · rw [if_neg c2] at hz
      subst hz
      go_enter Try.func15, Try.ntmps15
      go_wp2_with (first | (go_at_call 24; (with_reducible refine (i2 _).mono ?_); rintro e w' ⟨rfl, hw⟩; obtain rfl := hw.symm) | (go_at_call 25; (with_reducible refine (i3 _).mono ?_); rintro e w' ⟨rfl, hw⟩; obtain rfl := hw.symm))
      clear i2 i3
      generalize w.alloc (.cells #[] 3) = W at *
      go_loopw [8, 9] (fun o i wr => ∃ (k : Nat) (d : Int), i = .int .i64 d ∧ d = (h : Int) - 1 - (k : Int) ∧ k ≤ h ∧ Hid (wr.ownsRow w.heap.size 3 1 o k (ils (bfn g h) k) ∧ Below w.heap.size w wr)) (fun _ i _ => (intOf i + 1).toNat)
      case atStart => exact ⟨0, (h : Int) - 1, rfl, by omega, by omega, OW.out, BL.out⟩
      case round =>
        obtain ⟨k, d0, rfl, hd0, hk, hrel⟩ := hrel
        by_cases h1 : k < h
        · obtain ⟨d, rfl⟩ : ∃ d : Nat, d0 = (d : Int) := ⟨d0.toNat, by omega⟩
          have hdd : d = h - 1 - k := by omega
          obtain ⟨y, hy⟩ : ∃ y : Nat, y = g / 2 ^ d := ⟨_, rfl⟩
          have hyb : y ≤ g := by rw [hy]; exact Nat.div_le_self _ _
          have f1 : (g : Int) / 2 ^ d = (y : Int) := by rw [hy, Int.natCast_ediv, Int.natCast_pow]; rfl
          have f2 : IntKind.u64.wrap (d : Int) = (d : Int) := by rw [IntKind.wrap_u64]; omega
          obtain ⟨q, hq⟩ : ∃ q : Int, q = ((y % 2 : Nat) : Int) := ⟨_, rfl⟩
          have f3 : (y : Int) % 2 = q := by rw [hq]; omega
          have f4 : (y : Int).tmod 2 = q := by rw [Int.tmod_eq_emod_of_nonneg (by omega)]; exact f3
          have hqq : q = bfn g h k := by unfold bfn; rw [hq, hy, hdd]
          have HZ : Hid (q = bfn g h k) := hqq
          have HO := hrel.out.1
          have HB := hrel.out.2
          have HDK : Hid ((d : Int) = (h : Int) - 1 - (k : Int)) := hd0
          have hd4 : d ≤ 4 := by omega
          clear hy hq hqq hdd hd0 hrel
          have hb3 := below_one wr (.cells #[.int .i64 q] 3)
          have HO3 := own_below HO hb3
          have HB3 := bstep HB hb3
          clear hb3
          go_wp2_with (first | (at_builtin; refine wpList_append_own _ rfl _ _ 24 rfl w.heap.size 3 i0 (.int .i64 0) 1 8 Try.underlying24 hi hz0 hz1 hz2 rfl (by decide) _ _ _ rfl HO3 ⟨wr.heap.size, 0, none⟩ 1 1 [.int .i64 q] rfl rfl (one_new _ _ _) (by simp [Value.oneCell']) (by unfold maxLen; omega) (by omega) HB3.size ?_))
          intro v' w4 hown' hgrow _
          have HB4 : Hid (Below w.heap.size w w4) := grown_below HB3 (Nat.le_refl _) HO3 hgrow
          rw [show Value.int .i64 q = .int .i64 (bfn g h k) from congrArg _ HZ.out, ← ils_snoc (bfn g h) k] at hown'
          have HO4 : Hid (w4.ownsRow w.heap.size 3 1 v' (k + 1) (ils (bfn g h) (k + 1))) := hown'
          clear hown' hgrow HB3 HO3
          go_wp2
          go_roundw
          case rel => exact ⟨k + 1, (d : Int) - 1, rfl, by have := HDK.out; omega, by omega, HO4.out, HB4.out⟩
          case measure => first | (simp [intOf]; done) | (simp [intOf]; omega)
        · obtain rfl : h = k := by omega
          have hdm : d0 = -1 := by omega
          subst hdm
          go_wp2
          go_ret
          exact ⟨_, rfl, hrel.out⟩
end Go.Proofs.Ytjnhhlpaeeifeaa
