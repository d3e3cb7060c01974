/- Rows drawn. -/
import Derived.Test.YtabdondefoldaaaDoorTA
import Derived.Test.YtabdondefoldaaaDoorGD
namespace Go.Proofs.YtabdondefoldaaaDoor
open Go.RowKit

theorem hide {p : Prop} (h : p) : Hid p := h

theorem own_slc {w : World} {B s n : Nat} {e : TypeId} {v : Value} {L : List Value} (h : w.ownsRow B e s v n L) : ∃ a c, v = .slice a n c := by
  rcases h.2 with ⟨rfl, rfl⟩ | ⟨g, cap, cur, rfl, _⟩
  · exact ⟨none, 0, rfl⟩
  · exact ⟨_, _, rfl⟩

theorem pow_small {j : Nat} (h : j < 4) : ∃ P : Nat, wrap64 ((2 : Int) ^ j) = (P : Int) ∧ 1 ≤ P ∧ P ≤ 8 ∧ (j < 3 → P ≤ 4) := by
  have : j = 0 ∨ j = 1 ∨ j = 2 ∨ j = 3 := by omega
  rcases this with rfl | rfl | rfl | rfl
  · exact ⟨1, by unfold wrap64; omega, by omega, by omega, by omega⟩
  · exact ⟨2, by unfold wrap64; omega, by omega, by omega, by omega⟩
  · exact ⟨4, by unfold wrap64; omega, by omega, by omega, by omega⟩
  · exact ⟨8, by unfold wrap64; omega, by omega, by omega, by omega⟩

theorem u64w {x : Nat} (h : x < 18446744073709551616) : IntKind.u64.wrap (x : Int) = (x : Int) := by rw [IntKind.wrap_u64]; omega

set_option maxRecDepth 20000 in
set_option maxHeartbeats 8000000 in
theorem ddft2_x {w : World} {a : Option Addr} {len cap : Nat} (hr : Row w a len) (hl : len ≤ 1048576) :
    Calls Tryd.prog 5 #[.slice a len cap] w fun e w' => ∃ u n ms T p b, e = .returned (.tuple #[u, .int .i64 p, .bool b]) ∧ n ≤ 4 ∧ (∀ i, i < n → ms i ≤ 9) ∧ Ipp w' u n ms T ∧ Below w.heap.size w w' := by
  obtain ⟨i0, hi, hz0, hz1, hz2⟩ := info_parts Tryd.info3
  have HR : Hid (Row w a len) := hr
  clear hr
  obtain ⟨c, hcd⟩ : ∃ c, w.heap.size = c := ⟨_, rfl⟩
  have HN : Hid (Calls Tryd.prog 10 #[.slice a len cap] w fun e w' => e = .returned (.pointer (some ⟨c, 0, none⟩)) ∧ Cu w' c a len cap ∧ Below w.heap.size w w') := by have := new_x (cap := cap) HR.out (by omega); rw [← hcd]; exact this
  go_enter Tryd.func5, Tryd.ntmps5
  go_wp2_with (first
    | (go_at_call 10; refine HN.out.mono ?_; rintro e w1 ⟨rfl, hc, hb⟩; have HC1 : Hid (Cu w1 c a len cap) := hc; have B1 : Hid (Below w.heap.size w w1) := hb; clear hc hb)
    | (go_at_call 11; refine (dprime_x HC1.out).mono ?_; rintro e w2 ⟨x2, rfl, hc, hk⟩; have bl2 := below_one w2 (.cells #[] 29); have HC2 : Hid (Cu w2 c a len cap) := hc; have K2 : Hid (Keep c w1 w2) := hk; have HCB : Hid (c < w2.heap.size) := hc.lt; have HCX : Hid (Cu (w2.alloc (.cells #[] 29)) c a len cap) := hc.call bl2; have KX : Hid (Keep c w2 (w2.alloc (.cells #[] 29))) := (Keep.refl _ _).call bl2; have HRX : Hid (Rgv (w2.alloc (.cells #[] 29)) w2.heap.size (.slice (some ⟨w2.heap.size, 0, none⟩) 0 0) 0 (fun _ => .slice none 0 0) (fun _ => 0) (fun _ _ => 0)) := Rgv.start w2 _ _ _; clear hc hk bl2)
    | (go_at_call 12; (fail_if_success have := M3); (with_reducible refine (below_x HCX.out 3).mono ?_); rintro e w3 ⟨x3, hx30, _, hx31, rfl, hc, hk⟩; have M3 : Hid True := trivial; have hx32 := hx31 (by omega); obtain ⟨j3, rfl⟩ := Int.eq_ofNat_of_zero_le hx30; obtain ⟨P3, hP3, hP30, hP31, hP32⟩ := pow_small (j := j3) (by omega); have hP33 := hP32 (by omega); have hu3 := u64w (x := j3) (by omega); have HRX := hide (HRX.out.kept hk HCB.out); have KX : Hid (Keep c w2 w3) := KX.out.trans hk; have HCX : Hid (Cu w3 c a len cap) := hc; clear hc hk hx31 hP32)
    | (go_at_call 12; (fail_if_success have := M4); (with_reducible refine (below_x HCX.out 4).mono ?_); rintro e w4 ⟨x4, hx40, _, hx41, rfl, hc, hk⟩; have M4 : Hid True := trivial; have hx42 := hx41 (by omega); obtain ⟨j4, rfl⟩ := Int.eq_ofNat_of_zero_le hx40; obtain ⟨m, hP4, hP40, hP41, _⟩ := pow_small (j := j4) (by omega); have hu4 := u64w (x := j4) (by omega); have HRX := hide (HRX.out.kept hk HCB.out); have KX : Hid (Keep c w2 w4) := KX.out.trans hk; have HCX : Hid (Cu w4 c a len cap) := hc; clear hc hk hx41)
    | (go_at_call 13; (with_reducible refine (once_x HCX.out 20).mono ?_); rintro e w5 ⟨x5, rfl, hc, hk⟩; have HRX := hide (HRX.out.kept hk HCB.out); have KX : Hid (Keep c w2 w5) := KX.out.trans hk; have HCX : Hid (Cu w5 c a len cap) := hc; clear hc hk; cases x5)
    | (go_at_call 12; have Z := M4; (with_reducible refine (below_x HCX.out 4).mono ?_); rintro e w6 ⟨x6, hx60, _, hx61, rfl, hc, hk⟩; have hx62 := hx61 (by omega); obtain ⟨n6, rfl⟩ := Int.eq_ofNat_of_zero_le hx60; have HRX := hide (HRX.out.kept hk HCB.out); have KX : Hid (Keep c w2 w6) := KX.out.trans hk; have HCX : Hid (Cu w6 c a len cap) := hc; clear hc hk hx61))
  · go_loopw [7, 10, 11, 12] (fun o i _ _ wr => ∃ q : Nat, i = .int .i64 (q : Int) ∧ q ≤ P3 ∧ Hid ((∃ R ms T, Rgv wr w2.heap.size o q R ms T ∧ ∀ i, i < q → ms i ≤ 9) ∧ Cu wr c a len cap ∧ Keep c w2 wr)) (fun _ i _ _ _ => P3 - (intOf i).toNat)
    case atStart => exact ⟨0, rfl, by omega, ⟨_, _, _, HRX.out, fun i hi => by omega⟩, HCX.out, KX.out⟩
    case round =>
      clear HRX HCX KX
      obtain ⟨q, rfl, hq, hrel⟩ := hrel
      have HL := hide hrel.out
      clear hrel
      by_cases h1 : q < P3
      · have HDR : Hid (Cu (wr.alloc (.cells #[] 3)) c a len cap) := HL.out.2.1.call (below_one _ _)
        have HSR : Hid (w2.heap.size ≤ wr.heap.size) := HL.out.2.2.size
        go_wp2
        go_loopw [11, 12] (fun o k w3 => ∃ t : Nat, k = .int .i64 (t : Int) ∧ t ≤ m ∧ Hid ((∃ ys, w3.ownsRow wr.heap.size 3 1 o t (ils ys t)) ∧ Cu w3 c a len cap ∧ Keep c wr w3)) (fun _ k _ => m - (intOf k).toNat)
        case atStart => exact ⟨0, rfl, by omega, ⟨fun _ => 0, own_empty wr 3 1⟩, HDR.out, (Keep.refl _ _).call (below_one _ _)⟩
        case round =>
          rename World => w3
          clear HDR
          obtain ⟨t, rfl, ht, hcur⟩ := hrel
          obtain ⟨ys, ho⟩ := hcur.out.1
          have HO : Hid (w3.ownsRow wr.heap.size 3 1 _ t (ils ys t)) := ho
          have hcl : c < wr.heap.size := HL.out.2.1.lt
          obtain ⟨al, cl, hv⟩ := own_slc ho
          subst hv
          clear ho
          by_cases h2 : t < m
          · go_wp2_with (first | (go_at_call 14; refine (dres_x x2 hcur.out.2.1).mono ?_; rintro e w4 ⟨x4, rfl, hc, hk⟩; have hb5 := below_one w4 (.cells #[.int .i64 x4] 3); have HO5 := own_below (own_keep HO.out hk hcl) hb5; have K5 : Hid (Keep c wr (w4.alloc (.cells #[.int .i64 x4] 3))) := (hcur.out.2.2.trans hk).call hb5; have HC5 : Hid (Cu (w4.alloc (.cells #[.int .i64 x4] 3)) c a len cap) := hc.call hb5; have hs5 := K5.out.size; clear hc hk hb5) | (at_builtin; refine wpList_append_own _ rfl _ _ 29 rfl wr.heap.size 3 i0 (.int .i64 0) 1 8 Tryd.underlying29 hi hz0 hz1 hz2 rfl (by decide) _ _ _ rfl HO5 ⟨w4.heap.size, 0, none⟩ 1 1 [.int .i64 x4] rfl rfl (one_new _ _ _) (by simp [Value.oneCell']) (by unfold maxLen; omega) (by omega) hs5 ?_))
            intro v6 w6 hown' hgrow _
            have HB6 : Hid (Below wr.heap.size (w4.alloc (.cells #[.int .i64 x4] 3)) w6) := grown_below (Below.refl wr.heap.size _) hs5 HO5 hgrow
            rw [ils_app] at hown'
            have HO6 : Hid _ := hown'
            clear hown' hgrow HO5
            go_wp2
            go_roundw
            case rel => exact ⟨t + 1, by go_num, by omega, ⟨_, HO6.out⟩, HL.out.2.1.grow HC5.out K5.out HB6.out, K5.out.below HB6.out⟩
            case measure => simp [intOf]; omega
          · obtain rfl : m = t := by omega
            obtain ⟨R, ms, T, hR, hms⟩ := HL.out.1
            have HRR : Hid (Rgv wr w2.heap.size _ q R ms T) := hR
            have HMS : Hid (∀ i, i < q → ms i ≤ 9) := hms
            obtain ⟨oo, oc, hoo, _⟩ := hR.open
            subst hoo
            have hcB : c < w2.heap.size := HCB.out
            have APP : Hid (∀ (W : World) (u : Value) (k : Nat) (F : Nat → Int), W.ownsRow wr.heap.size 3 1 u k (ils F k) → u.oneCell' = true → k ≤ 9 → Cu W c a len cap → Keep c wr W → ∃ v' w', (Builtin.append_ #[24, 24] 24 #[.slice oo q oc, .slice (some ⟨W.heap.size, 0, none⟩) 1 1]).run Tryd.prog (W.alloc (.cells #[u] 29)) = .ok v' w' ∧ ((∃ R ms T, Rgv w' w2.heap.size v' (q + 1) R ms T ∧ ∀ i, i < q + 1 → ms i ≤ 9) ∧ Cu w' c a len cap ∧ Keep c w2 w')) := fun W u k F hu h1c hk9 hcu hke => by
              obtain ⟨v', w', h1, h2, h3⟩ := Rgv.app (HRR.out.kept hke hcB) (own_base hu HSR.out) h1c (by omega) (Nat.le_trans HSR.out hke.size)
              refine ⟨v', w', h1, ⟨_, _, _, h2, fun i hi => ?_⟩, HC2.out.grow hcu (HL.out.2.2.trans hke) h3, (HL.out.2.2.trans hke).below h3⟩
              by_cases e : i = q
              · simp only [if_pos e]; exact hk9
              · simp only [if_neg e]; exact HMS.out i (by omega)
            clear hR hms
            go_wp2_with (first
              | (go_at_call 13; refine (once_x hcur.out.2.1 60).mono ?_; rintro e w7 ⟨x7, rfl, hc, hk⟩; have HC7 : Hid (Cu w7 c a len cap) := hc; have K7 : Hid (Keep c wr w7) := hcur.out.2.2.trans hk; have HO7 : Hid (w7.ownsRow wr.heap.size 3 1 (.slice al m cl) m (ils ys m)) := own_keep HO.out hk hcl; clear hc hk; cases x7)
              | (at_builtin; (fail_if_success have := MA); have hb8 := below_one w7 (.cells #[.int .i64 1] 3); have HO8 := own_below HO7.out hb8; have hs8 := Nat.le_trans K7.out.size hb8.size; refine wpList_append_own _ rfl _ _ 29 rfl wr.heap.size 3 i0 (.int .i64 0) 1 8 Tryd.underlying29 hi hz0 hz1 hz2 rfl (by decide) _ _ _ rfl HO8 ⟨w7.heap.size, 0, none⟩ 1 1 [.int .i64 1] rfl rfl (one_new _ _ _) (by simp [Value.oneCell']) (by unfold maxLen; omega) (by omega) hs8 ?_; intro v9 w9 hown' hgrow _; have HB9 := grown_below (Below.refl wr.heap.size _) hs8 HO8 hgrow; rw [ils_app] at hown'; have K9 : Hid (Keep c wr w9) := (K7.out.call hb8).below HB9; have HC9 : Hid (Cu w9 c a len cap) := HL.out.2.1.grow (HC7.out.call hb8) (K7.out.call hb8) HB9; obtain ⟨al9, cl9, hv9⟩ := own_slc hown'; subst hv9; obtain ⟨vA, wA, ha, hA⟩ := APP.out w9 _ _ _ hown' rfl (by omega) HC9.out K9.out; have HAA : Hid _ := hA; have HRUN : Hid _ := ha; have MA : Hid True := trivial; clear hown' hgrow HB9 hb8 HO8 hA ha)
              | (at_builtin; have Z := MA; refine wpList_appr rfl _ _ rfl rfl rfl rfl HRUN.out ?_)
              | (at_builtin; (fail_if_success have := MA); obtain ⟨vA, wA, ha, hA⟩ := APP.out w7 _ _ _ HO7.out rfl (by omega) HC7.out K7.out; have HAA : Hid _ := hA; refine wpList_appr rfl _ _ rfl rfl rfl rfl ha ?_))
            all_goals
              refine ⟨⟨q + 1, by go_num, by omega, HAA.out⟩, ?_⟩
              simp [intOf]
              omega
      · obtain rfl : P3 = q := by omega
        obtain ⟨R, ms, T, hR, hms⟩ := HL.out.1
        have HRR := hide hR
        have HMS : Hid (∀ i, i < P3 → ms i ≤ 9) := hms
        obtain ⟨oo, oc, hoo, _⟩ := hR.open
        subst hoo
        clear hR hms
        go_wp2_with (first | (go_at_call 13; refine (once_x HL.out.2.1 2).mono ?_; rintro e w8 ⟨x8, rfl, hc, hk⟩; have HR8 := hide (HRR.out.kept hk HCB.out); have K8 : Hid (Keep c w1 w8) := (K2.out.trans HL.out.2.2).trans hk; clear hc hk))
        go_ret3
        exact ⟨_, P3, ms, T, _, _, rfl, by omega, HMS.out, HR8.out.ipp, Below.keep B1.out K8.out (Nat.le_of_eq hcd)⟩

  · go_loopw [7, 10, 11, 12] (fun o i _ _ wr => ∃ q : Nat, i = .int .i64 (q : Int) ∧ q ≤ n6 ∧ Hid ((∃ R ms T, Rgv wr w2.heap.size o q R ms T ∧ ∀ i, i < q → ms i ≤ 9) ∧ Cu wr c a len cap ∧ Keep c w2 wr)) (fun _ i _ _ _ => n6 - (intOf i).toNat)
    case atStart => exact ⟨0, rfl, by omega, ⟨_, _, _, HRX.out, fun i hi => by omega⟩, HCX.out, KX.out⟩
    case round =>
      clear HRX HCX KX
      obtain ⟨q, rfl, hq, hrel⟩ := hrel
      have HL := hide hrel.out
      clear hrel
      by_cases h1 : q < n6
      · have HDR : Hid (Cu (wr.alloc (.cells #[] 3)) c a len cap) := HL.out.2.1.call (below_one _ _)
        have HSR : Hid (w2.heap.size ≤ wr.heap.size) := HL.out.2.2.size
        go_wp2
        go_loopw [11, 12] (fun o k w3 => ∃ t : Nat, k = .int .i64 (t : Int) ∧ t ≤ m ∧ Hid ((∃ ys, w3.ownsRow wr.heap.size 3 1 o t (ils ys t)) ∧ Cu w3 c a len cap ∧ Keep c wr w3)) (fun _ k _ => m - (intOf k).toNat)
        case atStart => exact ⟨0, rfl, by omega, ⟨fun _ => 0, own_empty wr 3 1⟩, HDR.out, (Keep.refl _ _).call (below_one _ _)⟩
        case round =>
          rename World => w3
          clear HDR
          obtain ⟨t, rfl, ht, hcur⟩ := hrel
          obtain ⟨ys, ho⟩ := hcur.out.1
          have HO : Hid (w3.ownsRow wr.heap.size 3 1 _ t (ils ys t)) := ho
          have hcl : c < wr.heap.size := HL.out.2.1.lt
          obtain ⟨al, cl, hv⟩ := own_slc ho
          subst hv
          clear ho
          by_cases h2 : t < m
          · go_wp2_with (first | (go_at_call 14; refine (dres_x x2 hcur.out.2.1).mono ?_; rintro e w4 ⟨x4, rfl, hc, hk⟩; have hb5 := below_one w4 (.cells #[.int .i64 x4] 3); have HO5 := own_below (own_keep HO.out hk hcl) hb5; have K5 : Hid (Keep c wr (w4.alloc (.cells #[.int .i64 x4] 3))) := (hcur.out.2.2.trans hk).call hb5; have HC5 : Hid (Cu (w4.alloc (.cells #[.int .i64 x4] 3)) c a len cap) := hc.call hb5; have hs5 := K5.out.size; clear hc hk hb5) | (at_builtin; refine wpList_append_own _ rfl _ _ 29 rfl wr.heap.size 3 i0 (.int .i64 0) 1 8 Tryd.underlying29 hi hz0 hz1 hz2 rfl (by decide) _ _ _ rfl HO5 ⟨w4.heap.size, 0, none⟩ 1 1 [.int .i64 x4] rfl rfl (one_new _ _ _) (by simp [Value.oneCell']) (by unfold maxLen; omega) (by omega) hs5 ?_))
            intro v6 w6 hown' hgrow _
            have HB6 : Hid (Below wr.heap.size (w4.alloc (.cells #[.int .i64 x4] 3)) w6) := grown_below (Below.refl wr.heap.size _) hs5 HO5 hgrow
            rw [ils_app] at hown'
            have HO6 : Hid _ := hown'
            clear hown' hgrow HO5
            go_wp2
            go_roundw
            case rel => exact ⟨t + 1, by go_num, by omega, ⟨_, HO6.out⟩, HL.out.2.1.grow HC5.out K5.out HB6.out, K5.out.below HB6.out⟩
            case measure => simp [intOf]; omega
          · obtain rfl : m = t := by omega
            obtain ⟨R, ms, T, hR, hms⟩ := HL.out.1
            have HRR : Hid (Rgv wr w2.heap.size _ q R ms T) := hR
            have HMS : Hid (∀ i, i < q → ms i ≤ 9) := hms
            obtain ⟨oo, oc, hoo, _⟩ := hR.open
            subst hoo
            have hcB : c < w2.heap.size := HCB.out
            have APP : Hid (∀ (W : World) (u : Value) (k : Nat) (F : Nat → Int), W.ownsRow wr.heap.size 3 1 u k (ils F k) → u.oneCell' = true → k ≤ 9 → Cu W c a len cap → Keep c wr W → ∃ v' w', (Builtin.append_ #[24, 24] 24 #[.slice oo q oc, .slice (some ⟨W.heap.size, 0, none⟩) 1 1]).run Tryd.prog (W.alloc (.cells #[u] 29)) = .ok v' w' ∧ ((∃ R ms T, Rgv w' w2.heap.size v' (q + 1) R ms T ∧ ∀ i, i < q + 1 → ms i ≤ 9) ∧ Cu w' c a len cap ∧ Keep c w2 w')) := fun W u k F hu h1c hk9 hcu hke => by
              obtain ⟨v', w', h1, h2, h3⟩ := Rgv.app (HRR.out.kept hke hcB) (own_base hu HSR.out) h1c (by omega) (Nat.le_trans HSR.out hke.size)
              refine ⟨v', w', h1, ⟨_, _, _, h2, fun i hi => ?_⟩, HC2.out.grow hcu (HL.out.2.2.trans hke) h3, (HL.out.2.2.trans hke).below h3⟩
              by_cases e : i = q
              · simp only [if_pos e]; exact hk9
              · simp only [if_neg e]; exact HMS.out i (by omega)
            clear hR hms
            go_wp2_with (first
              | (go_at_call 13; refine (once_x hcur.out.2.1 60).mono ?_; rintro e w7 ⟨x7, rfl, hc, hk⟩; have HC7 : Hid (Cu w7 c a len cap) := hc; have K7 : Hid (Keep c wr w7) := hcur.out.2.2.trans hk; have HO7 : Hid (w7.ownsRow wr.heap.size 3 1 (.slice al m cl) m (ils ys m)) := own_keep HO.out hk hcl; clear hc hk; cases x7)
              | (at_builtin; (fail_if_success have := MA); have hb8 := below_one w7 (.cells #[.int .i64 1] 3); have HO8 := own_below HO7.out hb8; have hs8 := Nat.le_trans K7.out.size hb8.size; refine wpList_append_own _ rfl _ _ 29 rfl wr.heap.size 3 i0 (.int .i64 0) 1 8 Tryd.underlying29 hi hz0 hz1 hz2 rfl (by decide) _ _ _ rfl HO8 ⟨w7.heap.size, 0, none⟩ 1 1 [.int .i64 1] rfl rfl (one_new _ _ _) (by simp [Value.oneCell']) (by unfold maxLen; omega) (by omega) hs8 ?_; intro v9 w9 hown' hgrow _; have HB9 := grown_below (Below.refl wr.heap.size _) hs8 HO8 hgrow; rw [ils_app] at hown'; have K9 : Hid (Keep c wr w9) := (K7.out.call hb8).below HB9; have HC9 : Hid (Cu w9 c a len cap) := HL.out.2.1.grow (HC7.out.call hb8) (K7.out.call hb8) HB9; obtain ⟨al9, cl9, hv9⟩ := own_slc hown'; subst hv9; obtain ⟨vA, wA, ha, hA⟩ := APP.out w9 _ _ _ hown' rfl (by omega) HC9.out K9.out; have HAA : Hid _ := hA; have HRUN : Hid _ := ha; have MA : Hid True := trivial; clear hown' hgrow HB9 hb8 HO8 hA ha)
              | (at_builtin; have Z := MA; refine wpList_appr rfl _ _ rfl rfl rfl rfl HRUN.out ?_)
              | (at_builtin; (fail_if_success have := MA); obtain ⟨vA, wA, ha, hA⟩ := APP.out w7 _ _ _ HO7.out rfl (by omega) HC7.out K7.out; have HAA : Hid _ := hA; refine wpList_appr rfl _ _ rfl rfl rfl rfl ha ?_))
            all_goals
              refine ⟨⟨q + 1, by go_num, by omega, HAA.out⟩, ?_⟩
              simp [intOf]
              omega
      · obtain rfl : n6 = q := by omega
        obtain ⟨R, ms, T, hR, hms⟩ := HL.out.1
        have HRR := hide hR
        have HMS : Hid (∀ i, i < n6 → ms i ≤ 9) := hms
        obtain ⟨oo, oc, hoo, _⟩ := hR.open
        subst hoo
        clear hR hms
        go_wp2_with (first | (go_at_call 13; refine (once_x HL.out.2.1 2).mono ?_; rintro e w8 ⟨x8, rfl, hc, hk⟩; have HR8 := hide (HRR.out.kept hk HCB.out); have K8 : Hid (Keep c w1 w8) := (K2.out.trans HL.out.2.2).trans hk; clear hc hk))
        go_ret3
        exact ⟨_, n6, ms, T, _, _, rfl, by omega, HMS.out, HR8.out.ipp, Below.keep B1.out K8.out (Nat.le_of_eq hcd)⟩
end Go.Proofs.YtabdondefoldaaaDoor
