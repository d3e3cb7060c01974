/- ZN ZO. -/
import Derived.Test.YtndagpompioooaaDoorM5
import Derived.BigQuiet
namespace Go.Proofs.YtndagpompioooaaDoor
open Go.RowKit

set_option maxRecDepth 100000 in
theorem atw_0 {w : World} {a : Option Addr} {n : Nat} (cap : Nat) (hr : Row w a n) (hn : n ≤ 1048576) : ∃ m : Nat, m < 256 ∧ ∀ W, Below w.heap.size w W → Calls Tryd.prog 24 #[.slice a n cap, .int .i64 0] W fun e w' => e = .returned (.int .i64 (m : Int)) ∧ w' = W := by
  by_cases h : 0 < n
  · obtain ⟨b, off, z, rfl, hb, hc, hz0, hz1⟩ := hr 0 h
    obtain ⟨m, rfl⟩ : ∃ m : Nat, z = (m : Int) := ⟨z.toNat, by omega⟩
    refine ⟨m, by omega, fun W hW => ?_⟩
    rw [Nat.add_zero] at hc
    replace hc := (hW.cell (p := ⟨b, off, none⟩) hb).trans hc
    clear hr hb hW
    go_enter Tryd.func24, Tryd.ntmps24
    go_wp2
    go_ret
    exact ⟨rfl, rfl⟩
  · clear hr
    refine ⟨(0 + n) % 256, by omega, fun W hW => ?_⟩
    obtain ⟨m, hm⟩ : ∃ m, m = (0 + n) % 256 := ⟨_, rfl⟩
    rw [← hm]
    have e1 : (0 + (n : Int)) % 256 = (m : Int) := by omega
    have e2 : (0 + (n : Int)).tmod 256 = (m : Int) := by rw [Int.tmod_eq_emod_of_nonneg (by omega)]; omega
    have e3 : (n : Int) % 256 = ((m : Nat) : Int) := by omega
    have e4 : (n : Int).tmod 256 = ((m : Nat) : Int) := by rw [Int.tmod_eq_emod_of_nonneg (by omega)]; omega
    clear hm hW
    go_enter Tryd.func24, Tryd.ntmps24
    go_wp2
    go_ret
    exact ⟨rfl, rfl⟩

set_option maxRecDepth 100000 in
theorem atw_1 {w : World} {a : Option Addr} {n : Nat} (cap : Nat) (hr : Row w a n) (hn : n ≤ 1048576) : ∃ m : Nat, m < 256 ∧ ∀ W, Below w.heap.size w W → Calls Tryd.prog 24 #[.slice a n cap, .int .i64 1] W fun e w' => e = .returned (.int .i64 (m : Int)) ∧ w' = W := by
  by_cases h : 1 < n
  · obtain ⟨b, off, z, rfl, hb, hc, hz0, hz1⟩ := hr 1 h
    obtain ⟨m, rfl⟩ : ∃ m : Nat, z = (m : Int) := ⟨z.toNat, by omega⟩
    refine ⟨m, by omega, fun W hW => ?_⟩
    skip
    replace hc := (hW.cell (p := ⟨b, off + 1, none⟩) hb).trans hc
    clear hr hb hW
    go_enter Tryd.func24, Tryd.ntmps24
    go_wp2
    go_ret
    exact ⟨rfl, rfl⟩
  · clear hr
    refine ⟨(7 + n) % 256, by omega, fun W hW => ?_⟩
    obtain ⟨m, hm⟩ : ∃ m, m = (7 + n) % 256 := ⟨_, rfl⟩
    rw [← hm]
    have e1 : (7 + (n : Int)) % 256 = (m : Int) := by omega
    have e2 : (7 + (n : Int)).tmod 256 = (m : Int) := by rw [Int.tmod_eq_emod_of_nonneg (by omega)]; omega
    have e3 : (n : Int) % 256 = (((n % 256 : Nat) : Nat) : Int) := by omega
    have e4 : (n : Int).tmod 256 = (((n % 256 : Nat) : Nat) : Int) := by rw [Int.tmod_eq_emod_of_nonneg (by omega)]; omega
    clear hm hW
    go_enter Tryd.func24, Tryd.ntmps24
    go_wp2
    go_ret
    exact ⟨rfl, rfl⟩

set_option maxRecDepth 100000 in
theorem atw_2 {w : World} {a : Option Addr} {n : Nat} (cap : Nat) (hr : Row w a n) (hn : n ≤ 1048576) : ∃ m : Nat, m < 256 ∧ ∀ W, Below w.heap.size w W → Calls Tryd.prog 24 #[.slice a n cap, .int .i64 2] W fun e w' => e = .returned (.int .i64 (m : Int)) ∧ w' = W := by
  by_cases h : 2 < n
  · obtain ⟨b, off, z, rfl, hb, hc, hz0, hz1⟩ := hr 2 h
    obtain ⟨m, rfl⟩ : ∃ m : Nat, z = (m : Int) := ⟨z.toNat, by omega⟩
    refine ⟨m, by omega, fun W hW => ?_⟩
    skip
    replace hc := (hW.cell (p := ⟨b, off + 2, none⟩) hb).trans hc
    clear hr hb hW
    go_enter Tryd.func24, Tryd.ntmps24
    go_wp2
    go_ret
    exact ⟨rfl, rfl⟩
  · clear hr
    refine ⟨(14 + n) % 256, by omega, fun W hW => ?_⟩
    obtain ⟨m, hm⟩ : ∃ m, m = (14 + n) % 256 := ⟨_, rfl⟩
    rw [← hm]
    have e1 : (14 + (n : Int)) % 256 = (m : Int) := by omega
    have e2 : (14 + (n : Int)).tmod 256 = (m : Int) := by rw [Int.tmod_eq_emod_of_nonneg (by omega)]; omega
    have e3 : (n : Int) % 256 = (((n % 256 : Nat) : Nat) : Int) := by omega
    have e4 : (n : Int).tmod 256 = (((n % 256 : Nat) : Nat) : Int) := by rw [Int.tmod_eq_emod_of_nonneg (by omega)]; omega
    clear hm hW
    go_enter Tryd.func24, Tryd.ntmps24
    go_wp2
    go_ret
    exact ⟨rfl, rfl⟩

theorem pair_told : (∀ t, t < 2 → fok (pcn 2 1 t) (pcx 1 (fun i => [(1 : Int), 2].getD i 0) t) = true) ∧ (pal 2 1 (fun i => [(1 : Int), 2].getD i 0) 2).length = 12 := by decide +kernel
theorem pair_any : ∀ W u, Il W u 2 (fun i => [(1 : Int), 2].getD i 0) → Calls Tryd.prog 18 #[u, .int .i64 1] W fun e w' => Psb W w' e 12 (lf (pal 2 1 (fun i => [(1 : Int), 2].getD i 0) 2)) true := fun W u hu => by
  have hs : Sig 2 (fun i => [(1 : Int), 2].getD i 0) := ⟨by omega, fun k hk => by match k, hk with | 0, _ => decide | 1, _ => decide⟩
  have hp : Pgd 2 1 2 (fun i => [(1 : Int), 2].getD i 0) := ⟨pair_told.1, by rw [pair_told.2]; decide⟩
  exact iAll_good (s := 1) (P := 2) hu hs ⟨by omega, by omega⟩ (by decide) true (decide_eq_true hp).symm 12 (by rw [if_pos rfl, pair_told.2])

theorem bl_cut {w : World} {a : Option Addr} {N M c : Nat} {y : Nat → Int} (h : Bl w (.slice a N c) N y) (hM : M ≤ N) : Bl w (.slice a M c) M y := by
  obtain ⟨ao, cap, e, hcap, hc⟩ := h
  injection e with e1 e2 e3
  subst e1 e3
  exact ⟨a, c, rfl, by omega, fun h0 => by
    obtain ⟨b, off, h1, h2, h3⟩ := hc (by omega)
    exact ⟨b, off, h1, h2, fun k hk => h3 k (by omega)⟩⟩
theorem il_cut9 {w : World} {a : Option Addr} {N M c : Nat} {y : Nat → Int} (h : Il w (.slice a N c) N y) (hM : M ≤ N) : Il w (.slice a M c) M y := by
  obtain ⟨ao, cap, e, hcap, hc⟩ := h
  injection e with e1 e2 e3
  subst e1 e3
  exact ⟨a, c, rfl, by omega, fun h0 => by
    obtain ⟨b, off, h1, h2, h3⟩ := hc (by omega)
    exact ⟨b, off, h1, h2, fun k hk => h3 k (by omega)⟩⟩
end Go.Proofs.YtndagpompioooaaDoor

namespace Go.Proofs.YtndagpompioooaaDoor
open Go.RowKit

set_option maxRecDepth 20000 in
set_option maxHeartbeats 16000000 in
theorem walk_cut {w : World} {a : Option Addr} {len cap : Nat} (hg : Eg w) (hr : Row w a len) (hl : len ≤ 9223372036854775807) : Calls Tryd.prog 5 #[.slice a len cap] w fun e w' => e = .returned (.bool true) ∧ Below w.heap.size w w' := by
  have hB := big_x (w := w) a len cap hl
  rcases Nat.lt_or_ge 1048576 len with h | h
  · rw [decide_eq_true (by omega)] at hB
    clear hr hg
    go_enter Tryd.func5, Tryd.ntmps5
    go_wp2_with (first | (go_at_call 9; (with_reducible refine (hB).mono ?_); rintro e w' ⟨rfl, hw⟩; obtain rfl := hw.symm))
    go_ret
    exact ⟨rfl, Below.refl _ _⟩
  · rw [decide_eq_false (by omega)] at hB
    have HEG : Hid (∀ W, Below w.heap.size w W → Eg W) := fun W hW => keepc hW hg
    have HD : Hid (Calls Tryd.prog 17 #[.slice a len cap] w fun e w' => ∃ u n xs s, e = .returned (.tuple #[u, .int .i64 s]) ∧ n ≤ 61 ∧ (0 ≤ s ∧ s ≤ 129) ∧ Il w' u n xs ∧ Below w.heap.size w w') := dpa_x hr h
    obtain ⟨m0, hm0, j0⟩ := atw_0 cap hr h
    obtain ⟨m1, hm1, j1⟩ := atw_1 cap hr h
    obtain ⟨m2, hm2, j2⟩ := atw_2 cap hr h
    have J0 : Hid _ := j0
    have J1 : Hid _ := j1
    have J2 : Hid _ := j2
    clear hr hg j0 j1 j2
    go_enter Tryd.func5, Tryd.ntmps5
    go_upto_region 4 with (first | (go_at_call 9; (with_reducible refine (hB).mono ?_); rintro e w' ⟨rfl, hw⟩; obtain rfl := hw.symm) | (go_at_call 17; refine HD.out.mono ?_; rintro e w1 ⟨u, n, xs, s0, rfl, hn, hs, hu, hb⟩; have HU : Hid (Il w1 u n xs) := hu; have BW : Hid (Below w.heap.size w w1) := hb; obtain ⟨ua, uc, hu9, huc, _⟩ := hu; subst hu9; clear hb))
    clear hB HD hs
    have i0 := J0.out _ BW.out
    obtain ⟨sz, hsz⟩ : ∃ sz, sz = 1 + m0 % 9 := ⟨_, rfl⟩
    have e0 : (1 : Int) + (m0 : Int).tmod 9 = (sz : Int) := by rw [Int.tmod_eq_emod_of_nonneg (by omega), hsz]; omega
    have e1 : (1 : Int) + (m0 : Int) % 9 = (sz : Int) := by rw [hsz]; omega
    have hsz9 : 1 ≤ sz ∧ sz ≤ 9 := by omega
    obtain ⟨N, y, ok, hok, hno, hI, hS⟩ := packall_both (n := n) (xs := xs) (by omega) (s := sz)
    have HIA : Hid _ := hI
    have HSA : Hid _ := hS
    have HOK : Hid _ := hok
    have hkk : (ok != ok) = false := by simp
    clear hI hS hok J0 hsz
    go_upto_region 9 with (first
      | (go_at_call 24; (with_reducible refine (i0).mono ?_); rintro e w' ⟨rfl, hw⟩; obtain rfl := hw.symm)
      | (go_at_call 18; refine (HIA.out _ _ HU.out).mono ?_; rintro e w2 ⟨x2, rfl, ho, hb⟩; obtain ⟨ba, bc, hb9⟩ := own_sliceb ho; subst hb9; have HBY : Hid (Bl w2 (.slice ba N bc) N y) := bl_of_own ho; have HU : Hid (Il w2 (.slice ua n uc) n xs) := HU.out.below hb; have BW : Hid (Below w.heap.size w w2) := bstep BW.out hb; clear ho hb)
      | (go_at_call 19; refine (HSA.out _ _ HU.out).mono ?_; rintro e w3 ⟨x3, rfl, ho, hb⟩; obtain ⟨ca, cc3, hb9⟩ := own_sliceb ho; subst hb9; have HBY : Hid (Bl w3 (.slice ba N bc) N y) := HBY.out.below hb; have HU : Hid (Il w3 (.slice ua n uc) n xs) := HU.out.below hb; have BW : Hid (Below w.heap.size w w3) := bstep BW.out hb; clear ho hb))
    obtain ⟨w4, hw4⟩ : ∃ w4, w4 = w3 := ⟨_, rfl⟩
    clear HIA HSA hkk i0 e0 e1 hm0
    have E12 : Hid (∀ W : World, Il (W.alloc (.cells #[.int .i64 1, .int .i64 2] 3)) (.slice (some ⟨W.heap.size, 0, none⟩) 2 2) 2 (fun i => [(1 : Int), 2].getD i 0)) := fun W => lit_il W [1, 2]
    have HPA : Hid (∀ W u, Il W u 2 (fun i => [(1 : Int), 2].getD i 0) → Calls Tryd.prog 18 #[u, .int .i64 1] W fun e w' => Psb W w' e 12 (lf (pal 2 1 (fun i => [(1 : Int), 2].getD i 0) 2)) true) := pair_any
    by_cases hcnd : ok = true ∧ n ≠ 0 ∧ n ≤ 40
    rotate_left
    · clear HOK hno
      have key : ok = false ∨ (ok = true ∧ n = 0) ∨ (ok = true ∧ ¬ n = 0 ∧ 40 < n) := by
        cases ok
        · exact .inl rfl
        · by_cases c : n = 0
          · exact .inr (.inl ⟨rfl, c⟩)
          · exact .inr (.inr ⟨rfl, c, Nat.lt_of_not_le (fun c2 => hcnd ⟨rfl, c, c2⟩)⟩)
      clear hcnd
      rcases key with rfl | ⟨rfl, rfl⟩ | ⟨rfl, h7, h8⟩
      all_goals
        go_wp2_with (first
          | (go_at_call 18; refine (HPA.out _ _ (E12.out _)).mono ?_; rintro e w5 ⟨x5, rfl, ho, hb⟩; obtain ⟨da, dc, hb9⟩ := own_sliceb ho; subst hb9; have BW : Hid (Below w.heap.size w w5) := bstep (bstep BW.out (below_one _ _)) hb; clear ho hb))
        go_ret
        exact ⟨rfl, BW.out⟩
    · obtain ⟨rfl, hn0, hn40⟩ := hcnd
      obtain ⟨hsig, hszb, hpg, hNe, hye⟩ := HOK.out rfl
      obtain ⟨P, hP⟩ : ∃ P, P = (n + sz - 1) / sz := ⟨_, rfl⟩
      rw [← hP] at hpg hNe hye
      have hN2 : N ≤ 20000 := by rw [hNe]; exact hpg.2
      have hPn := blocks_lt hszb.1 hP
      have HYB : Hid (Byt N y) := fun k hk => by rw [hye]; exact pal_byt P k (by rw [← hNe]; exact hk)
      obtain ⟨ht1, ht2⟩ := whole_tot (M := N) hpg.1 hNe
      rw [← hye] at ht1 ht2
      have hP0 : 0 < P := (hPn 0).2 (by omega)
      have hP40 : P ≤ 40 := by
        have h9 := (hPn (P - 1)).1 (by omega)
        have h8 : P - 1 ≤ (P - 1) * sz := Nat.le_mul_of_pos_right _ (by omega)
        omega
      have hP9 : P ≤ 59 := by omega
      have ht1 : oT N y = P := by rw [ht1]; omega
      have hN0 : 0 < N := by
        have h9 := fN_pos (hpg.1 0 hP0)
        have h8 := pal_mono n sz xs (show 0 + 1 ≤ P by omega)
        rw [pal_len] at h8
        omega
      have hat : ∀ q, q ≤ P → oat N y q = (pal n sz xs q).length := fun q hq => by
        have h9 := cut_oat (M := N) hpg.1 q hq (by rw [hNe]; exact pal_mono n sz xs hq)
        rw [← hye] at h9
        exact h9
      obtain ⟨T, hT⟩ : ∃ T, T = P := ⟨_, rfl⟩
      obtain ⟨zf, hzf⟩ : ∃ zf, zf = lf (osm N y P) := ⟨_, rfl⟩
      obtain ⟨pf, hpf⟩ : ∃ pf, pf = lf (opl N y P) := ⟨_, rfl⟩
      obtain ⟨Q, hQ⟩ : ∃ Q, Q = (osm N y P).length := ⟨_, rfl⟩
      obtain ⟨C, hC⟩ : ∃ C : Int, C = (oC N y : Int) := ⟨_, rfl⟩
      have HOA : Hid (∀ W u, Eg W → Bl W u N y → Calls Tryd.prog 21 #[u] W fun e w' => Pob W w' e Q zf T pf C) := fun W u hg hu => by
        have h9 := iOA_good hg hu HYB.out hN2
        unfold Poa at h9
        rw [ht1, opl_len, ← hQ, ← hzf, ← hpf, ← hC, ← hT] at h9
        exact h9
      have HPF : Hid (∀ q, q < P → pf q = (((pal n sz xs q).length : Nat) : Int)) := fun q hq => by rw [hpf, opl_at hq, hat q (by omega)]
      have HPG : Hid (∀ t, t < P → fok (pcn n sz t) (pcx sz xs t) = true) := hpg.1
      have HPN : Hid (∀ t, t < P ↔ t * sz < n) := hPn
      have HYE : Hid (y = lf (pal n sz xs P)) := hye
      have HNE : Hid (N = (pal n sz xs P).length) := hNe
      have hNb : N ≤ bc := by
        obtain ⟨ao, cp, e9, hcp, _⟩ := HBY.out
        injection e9 with e1 e2 e3
        omega
      obtain ⟨cut, hcut⟩ : ∃ cut, cut = (m1 * 256 + m2) % N := ⟨_, rfl⟩
      have hcl : cut < N := by rw [hcut]; exact Nat.mod_lt _ hN0
      have f2 : ((m1 : Int) * 256 + (m2 : Int)) % (N : Int) = (cut : Int) := by rw [hcut, Int.natCast_emod, Int.natCast_add, Int.natCast_mul]; rfl
      have f1 : ((m1 : Int) * 256 + (m2 : Int)).tmod (N : Int) = (cut : Int) := by rw [Int.tmod_eq_emod_of_nonneg (by omega)]; exact f2
      have hNz : (N : Int) ≠ 0 := by omega
      have HTP : Hid (T = P) := hT
      have hnb : n ≤ uc := huc
      have hn0b : ¬ ((n : Int) = 0) := by omega
      have hn0c : ¬ ((40 : Int) < (n : Int)) := by omega
      have hn0d : decide ((n : Int) = 0) = false := decide_eq_false hn0b
      have hn0e : decide ((40 : Int) < (n : Int)) = false := decide_eq_false hn0c
      have hn0f : ((n : Int) == 0) = false := by simpa using hn0b
      clear hT hzf hpf hQ hC ht1 ht2 hpg hNe hye hPn hsig hP hat hno HOK hcut hw4 E12 HPA
      go_upto_region 14 with (first
        | (go_at_call 21; refine (HOA.out _ _ (HEG.out _ BW.out) HBY.out).mono ?_; rintro e w5 ⟨r1, r2, rfl, ho1, ho2, _, hb⟩; obtain ⟨r1a, r1c, h19⟩ := own_slice3 ho1; subst h19; obtain ⟨r2a, r2c, h29⟩ := own_slice3 ho2; subst h29; have HPL : Hid (w5.ownsRow w3.heap.size 3 1 (.slice r2a T r2c) T (ils pf T)) := ho2; have HU : Hid (Il w5 (.slice ua n uc) n xs) := HU.out.below hb; have HBY : Hid (Bl w5 (.slice ba N bc) N y) := HBY.out.below hb; have BW : Hid (Below w.heap.size w w5) := bstep BW.out hb; clear ho1 ho2 hb)
        | (go_at_call 24; (fail_if_success have := M1); refine (J1.out _ BW.out).mono ?_; rintro e w' ⟨rfl, hw⟩; obtain rfl := hw.symm; have M1 : Hid True := trivial)
        | (go_at_call 24; have Z := M1; refine (J2.out _ BW.out).mono ?_; rintro e w' ⟨rfl, hw⟩; obtain rfl := hw.symm))
      clear HOA f1 f2 hNz hm1 hm2 J1 J2
      go_wp2
      go_loopw [16] (fun iv wr => ∃ q : Nat, iv = .int .i64 (q : Int) ∧ q < P ∧ Hid ((pal n sz xs q).length ≤ cut) ∧ wr = w5) (fun iv _ => 80 - (intOf iv).toNat)
      case atStart => exact ⟨0, rfl, hP0, Nat.zero_le _, rfl⟩
      case round =>
        obtain ⟨q, rfl, hq, hp1, rfl⟩ := hrel
        have h1 := hp1.out
        clear hp1
        by_cases hx : q + 1 < P
        · have hxT : q + 1 < T := by rw [HTP.out]; exact hx
          obtain ⟨g, hg9⟩ : ∃ g, r2a = some ⟨g, 0, none⟩ := by
            rcases HPL.out.2 with ⟨_, h2⟩ | ⟨g, cap', cur, h2, _⟩
            · omega
            · injection h2 with h3
              exact ⟨g, h3⟩
          subst hg9
          have dq := World.ownsRow.cellAt HPL.out (q + 1) (by omega)
          rw [ils_get hxT, HPF.out (q + 1) hx] at dq
          obtain ⟨A, hA⟩ : ∃ A, A = (pal n sz xs (q + 1)).length := ⟨_, rfl⟩
          rw [← hA] at dq
          by_cases hy : A ≤ cut
          · have HP1 : Hid ((pal n sz xs (q + 1)).length ≤ cut) := by show _ ≤ _; rw [← hA]; exact hy
            clear hA h1
            go_wp2
            go_roundw
            case rel => exact ⟨q + 1, by go_num, hx, HP1.out, by first | rfl | trivial⟩
            case measure => simp [intOf]; omega
          · have h2 : cut < (pal n sz xs (q + 1)).length := by rw [← hA]; omega
            have HA9 : Hid (A = (pal n sz xs (q + 1)).length) := hA
            clear hA
            go_upto_region 17 with fail
            clear dq HA9 hy
            obtain ⟨r2a, hr2⟩ : ∃ r2a : Option Addr, r2a = some ⟨g, 0, none⟩ := ⟨_, rfl⟩
            rw [← hr2] at HPL ⊢
            clear hr2
            obtain ⟨w4, hw9⟩ : ∃ w4, w4 = w3 := ⟨_, rfl⟩
            rw [← hw9] at HPL
            obtain ⟨hT2, hC2⟩ := cut_tot (M := cut) HPG.out hP9 hq h1 h2
            rw [← HYE.out] at hT2 hC2
            obtain ⟨m, hm⟩ : ∃ m, m = q * sz := ⟨_, rfl⟩
            have hqn := (HPN.out q).1 hq
            have hmn : m ≤ 40 ∧ m < n := by omega
            have hmm : min (q * sz) n = m := by omega
            have hO : osm cut y q = (List.range m).map xs := by
              have h9 := cut_osm (M := cut) HPG.out HPN.out q (by omega) h1
              rw [← HYE.out, hmm] at h9
              exact h9
            obtain ⟨Q2, hQ2⟩ : ∃ Q2, Q2 = m := ⟨_, rfl⟩
            obtain ⟨T2, hT9⟩ : ∃ T2, T2 = q := ⟨_, rfl⟩
            obtain ⟨zf2, hzf2⟩ : ∃ zf2, zf2 = lf (osm cut y q) := ⟨_, rfl⟩
            obtain ⟨pf2, hpf2⟩ : ∃ pf2, pf2 = lf (opl cut y q) := ⟨_, rfl⟩
            obtain ⟨C2, hC9⟩ : ∃ C2, C2 = oC cut y := ⟨_, rfl⟩
            have HO2 : Hid (∀ W u, Eg W → Bl W u cut y → Calls Tryd.prog 21 #[u] W fun e w' => Pob W w' e Q2 zf2 T2 pf2 (C2 : Int)) := fun W u hg hu => by
              have h9 := iOA_good hg hu (fun k hk => HYB.out k (by omega)) (by omega)
              unfold Poa at h9
              rw [hT2, opl_len, ← hzf2, ← hpf2, ← hC9, hO, List.length_map, List.length_range, ← hQ2, ← hT9] at h9
              exact h9
            have HZ2 : Hid (∀ k, k < m → zf2 k = xs k) := fun k hk => by
              rw [hzf2, hO]
              unfold lf
              rw [List.getD_eq_getElem?_getD, List.getElem?_map, List.getElem?_range hk]
              rfl
            have HQ2 : Hid (Q2 = m) := hQ2
            have hqq : ((T2 : Int) != (q : Int)) = false := by rw [hT9]; simp
            have e5 : (q : Int) * (sz : Int) = (m : Int) := by rw [hm, Int.natCast_mul]
            have e6 : ¬ ((n : Int) < (m : Int)) := by omega
            have hcN : (cut : Int) ≤ (bc : Int) ∧ (m : Int) ≤ (uc : Int) := by omega
            have hcN2 : cut ≤ bc ∧ m ≤ uc := by omega
            obtain ⟨g, hg9⟩ : ∃ g, r2a = some ⟨g, 0, none⟩ := by
              rcases HPL.out.2 with ⟨_, h2⟩ | ⟨g, cap', cur, h2, _⟩
              · have := HTP.out; omega
              · injection h2 with h3
                exact ⟨g, h3⟩
            subst hg9
            have hpq : pf q = (((pal n sz xs q).length : Nat) : Int) := HPF.out q hq
            have hC5 : C2 = 0 → pf q = (cut : Int) := fun h9 => by rw [hpq, hC2 (by rw [← hC9]; exact h9)]
            have hqT : q < T := by rw [HTP.out]; exact hq
            have d0 := World.ownsRow.cellAt HPL.out q (by omega)
            rw [ils_get hqT] at d0
            have HM1 : Hid (m < n) := hmn.2
            by_cases hc0 : C2 = 0
            · subst hc0
              rw [hC5 rfl] at d0
              have hcc : ((cut : Int) != (cut : Int)) = false := by simp
              clear hT2 hC2 hm hmm hO hQ2 hT9 hzf2 hpf2 hC9 hqn hpq hC5 h1 h2
              go_wp2_with (first
                | (go_at_call 21; refine (HO2.out _ _ (HEG.out _ BW.out) (bl_cut HBY.out (by omega))).mono ?_; rintro e w8 ⟨g1, g2, rfl, ho1, ho2, _, hb⟩; obtain ⟨g1a, g1c, h19⟩ := own_slice3 ho1; subst h19; obtain ⟨g2a, g2c, h29⟩ := own_slice3 ho2; subst h29; have HG1 : Hid (Il w8 (.slice g1a Q2 g1c) Q2 zf2) := il_of_own ho1; have d0 := keepc hb d0; have HU : Hid (Il w8 (.slice ua n uc) n xs) := HU.out.below hb; have BW : Hid (Below w.heap.size w w8) := bstep BW.out hb; clear ho1 ho2 hb)
                | (go_at_call 16; refine (same_yes (n := m) (il_num HG1.out HQ2.out) (il_cut9 HU.out (by omega)) (by omega) HZ2.out).mono ?_; rintro e w9 ⟨rfl, hb⟩; have BW : Hid (Below w.heap.size w w9) := bstep BW.out hb; clear hb))
              go_ret
              exact ⟨rfl, BW.out⟩
            · have hc1 : ¬ ((C2 : Int) = 0) := by omega
              clear hT2 hC2 hm hmm hO hQ2 hT9 hzf2 hpf2 hC9 hqn hpq hC5 h1 h2
              go_wp2_with (first
                | (go_at_call 21; refine (HO2.out _ _ (HEG.out _ BW.out) (bl_cut HBY.out (by omega))).mono ?_; rintro e w8 ⟨g1, g2, rfl, ho1, ho2, _, hb⟩; obtain ⟨g1a, g1c, h19⟩ := own_slice3 ho1; subst h19; obtain ⟨g2a, g2c, h29⟩ := own_slice3 ho2; subst h29; have HG1 : Hid (Il w8 (.slice g1a Q2 g1c) Q2 zf2) := il_of_own ho1; have d0 := keepc hb d0; have HU : Hid (Il w8 (.slice ua n uc) n xs) := HU.out.below hb; have BW : Hid (Below w.heap.size w w8) := bstep BW.out hb; clear ho1 ho2 hb)
                | (go_at_call 16; refine (same_yes (n := m) (il_num HG1.out HQ2.out) (il_cut9 HU.out (by omega)) (by omega) HZ2.out).mono ?_; rintro e w9 ⟨rfl, hb⟩; have BW : Hid (Below w.heap.size w w9) := bstep BW.out hb; clear hb))
              go_ret
              exact ⟨rfl, BW.out⟩
        · have h2 : cut < (pal n sz xs (q + 1)).length := by
            rw [show q + 1 = P by omega, ← HNE.out]; exact hcl
          have hxT : ¬ (q + 1 < T) := by rw [HTP.out]; exact hx
          go_upto_region 17 with fail
          obtain ⟨w4, hw9⟩ : ∃ w4, w4 = w3 := ⟨_, rfl⟩
          rw [← hw9] at HPL
          obtain ⟨hT2, hC2⟩ := cut_tot (M := cut) HPG.out hP9 hq h1 h2
          rw [← HYE.out] at hT2 hC2
          obtain ⟨m, hm⟩ : ∃ m, m = q * sz := ⟨_, rfl⟩
          have hqn := (HPN.out q).1 hq
          have hmn : m ≤ 40 ∧ m < n := by omega
          have hmm : min (q * sz) n = m := by omega
          have hO : osm cut y q = (List.range m).map xs := by
            have h9 := cut_osm (M := cut) HPG.out HPN.out q (by omega) h1
            rw [← HYE.out, hmm] at h9
            exact h9
          obtain ⟨Q2, hQ2⟩ : ∃ Q2, Q2 = m := ⟨_, rfl⟩
          obtain ⟨T2, hT9⟩ : ∃ T2, T2 = q := ⟨_, rfl⟩
          obtain ⟨zf2, hzf2⟩ : ∃ zf2, zf2 = lf (osm cut y q) := ⟨_, rfl⟩
          obtain ⟨pf2, hpf2⟩ : ∃ pf2, pf2 = lf (opl cut y q) := ⟨_, rfl⟩
          obtain ⟨C2, hC9⟩ : ∃ C2, C2 = oC cut y := ⟨_, rfl⟩
          have HO2 : Hid (∀ W u, Eg W → Bl W u cut y → Calls Tryd.prog 21 #[u] W fun e w' => Pob W w' e Q2 zf2 T2 pf2 (C2 : Int)) := fun W u hg hu => by
            have h9 := iOA_good hg hu (fun k hk => HYB.out k (by omega)) (by omega)
            unfold Poa at h9
            rw [hT2, opl_len, ← hzf2, ← hpf2, ← hC9, hO, List.length_map, List.length_range, ← hQ2, ← hT9] at h9
            exact h9
          have HZ2 : Hid (∀ k, k < m → zf2 k = xs k) := fun k hk => by
            rw [hzf2, hO]
            unfold lf
            rw [List.getD_eq_getElem?_getD, List.getElem?_map, List.getElem?_range hk]
            rfl
          have HQ2 : Hid (Q2 = m) := hQ2
          have hqq : ((T2 : Int) != (q : Int)) = false := by rw [hT9]; simp
          have e5 : (q : Int) * (sz : Int) = (m : Int) := by rw [hm, Int.natCast_mul]
          have e6 : ¬ ((n : Int) < (m : Int)) := by omega
          have hcN : (cut : Int) ≤ (bc : Int) ∧ (m : Int) ≤ (uc : Int) := by omega
          have hcN2 : cut ≤ bc ∧ m ≤ uc := by omega
          obtain ⟨g, hg9⟩ : ∃ g, r2a = some ⟨g, 0, none⟩ := by
            rcases HPL.out.2 with ⟨_, h2⟩ | ⟨g, cap', cur, h2, _⟩
            · have := HTP.out; omega
            · injection h2 with h3
              exact ⟨g, h3⟩
          subst hg9
          have hpq : pf q = (((pal n sz xs q).length : Nat) : Int) := HPF.out q hq
          have hC5 : C2 = 0 → pf q = (cut : Int) := fun h9 => by rw [hpq, hC2 (by rw [← hC9]; exact h9)]
          have hqT : q < T := by rw [HTP.out]; exact hq
          have d0 := World.ownsRow.cellAt HPL.out q (by omega)
          rw [ils_get hqT] at d0
          have HM1 : Hid (m < n) := hmn.2
          by_cases hc0 : C2 = 0
          · subst hc0
            rw [hC5 rfl] at d0
            have hcc : ((cut : Int) != (cut : Int)) = false := by simp
            clear hT2 hC2 hm hmm hO hQ2 hT9 hzf2 hpf2 hC9 hqn hpq hC5 h1 h2
            go_wp2_with (first
              | (go_at_call 21; refine (HO2.out _ _ (HEG.out _ BW.out) (bl_cut HBY.out (by omega))).mono ?_; rintro e w8 ⟨g1, g2, rfl, ho1, ho2, _, hb⟩; obtain ⟨g1a, g1c, h19⟩ := own_slice3 ho1; subst h19; obtain ⟨g2a, g2c, h29⟩ := own_slice3 ho2; subst h29; have HG1 : Hid (Il w8 (.slice g1a Q2 g1c) Q2 zf2) := il_of_own ho1; have d0 := keepc hb d0; have HU : Hid (Il w8 (.slice ua n uc) n xs) := HU.out.below hb; have BW : Hid (Below w.heap.size w w8) := bstep BW.out hb; clear ho1 ho2 hb)
              | (go_at_call 16; refine (same_yes (n := m) (il_num HG1.out HQ2.out) (il_cut9 HU.out (by omega)) (by omega) HZ2.out).mono ?_; rintro e w9 ⟨rfl, hb⟩; have BW : Hid (Below w.heap.size w w9) := bstep BW.out hb; clear hb))
            go_ret
            exact ⟨rfl, BW.out⟩
          · have hc1 : ¬ ((C2 : Int) = 0) := by omega
            clear hT2 hC2 hm hmm hO hQ2 hT9 hzf2 hpf2 hC9 hqn hpq hC5 h1 h2
            go_wp2_with (first
              | (go_at_call 21; refine (HO2.out _ _ (HEG.out _ BW.out) (bl_cut HBY.out (by omega))).mono ?_; rintro e w8 ⟨g1, g2, rfl, ho1, ho2, _, hb⟩; obtain ⟨g1a, g1c, h19⟩ := own_slice3 ho1; subst h19; obtain ⟨g2a, g2c, h29⟩ := own_slice3 ho2; subst h29; have HG1 : Hid (Il w8 (.slice g1a Q2 g1c) Q2 zf2) := il_of_own ho1; have d0 := keepc hb d0; have HU : Hid (Il w8 (.slice ua n uc) n xs) := HU.out.below hb; have BW : Hid (Below w.heap.size w w8) := bstep BW.out hb; clear ho1 ho2 hb)
              | (go_at_call 16; refine (same_yes (n := m) (il_num HG1.out HQ2.out) (il_cut9 HU.out (by omega)) (by omega) HZ2.out).mono ?_; rintro e w9 ⟨rfl, hb⟩; have BW : Hid (Below w.heap.size w w9) := bstep BW.out hb; clear hb))
            go_ret
            exact ⟨rfl, BW.out⟩
end Go.Proofs.YtndagpompioooaaDoor
