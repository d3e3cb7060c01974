/- FnCrc: the walk. -/
import Derived.Test.YtgpcamlieefihaaDC
import Derived.Test.YtgpcamlieefihaaDE
import Derived.Test.YtgpcamlieefihaaCI
import Derived.Test.YtgpcamlieefihaaAP
import Derived.Test.YtgpcamlieefihaaMK
import Derived.Test.YtgpcamlieefihaaI1
import Derived.RegionTactic
import Derived.Deep.RegionWith
import Derived.Lib.SlBytesConst
namespace Go.Proofs.Ytgpcamlieefihaa
open Go.RowKit

set_option maxRecDepth 100000 in
theorem at_0 {w : World} {a : Option Addr} {n : Nat} (cap : Nat) (hr : Row w a n) (hn : n ≤ 1048576) : ∃ m : Nat, m < 256 ∧ Calls Try.prog 6 #[.slice a n cap, .int .i64 0] w fun e w' => e = .returned (.int .i64 (m : Int)) ∧ w' = w := by
  by_cases h : 0 < n
  · obtain ⟨b, off, z, rfl, hb, hc, hz0, hz1⟩ := hr 0 h
    obtain ⟨m, rfl⟩ : ∃ m : Nat, z = (m : Int) := ⟨z.toNat, by omega⟩
    refine ⟨m, by omega, ?_⟩
    rw [Nat.add_zero] at hc
    clear hr hb
    go_enter Try.func6, Try.ntmps6
    go_wp2
    go_ret
    exact ⟨rfl, rfl⟩
  · clear hr
    refine ⟨(0 + n) % 256, by omega, ?_⟩
    obtain ⟨m, hm⟩ : ∃ m, m = (0 + n) % 256 := ⟨_, rfl⟩
    rw [← hm]
    have e1 : (0 + (n : Int)) % 256 = (m : Int) := by omega
    have e2 : (0 + (n : Int)).tmod 256 = (m : Int) := by rw [Int.tmod_eq_emod_of_nonneg (by omega)]; omega
    have e3 : (n : Int) % 256 = ((m : Nat) : Int) := by omega
    have e4 : (n : Int).tmod 256 = ((m : Nat) : Int) := by rw [Int.tmod_eq_emod_of_nonneg (by omega)]; omega
    clear hm
    go_enter Try.func6, Try.ntmps6
    go_wp2
    go_ret
    exact ⟨rfl, rfl⟩

set_option maxRecDepth 100000 in
theorem at_1 {w : World} {a : Option Addr} {n : Nat} (cap : Nat) (hr : Row w a n) (hn : n ≤ 1048576) : ∃ m : Nat, m < 256 ∧ Calls Try.prog 6 #[.slice a n cap, .int .i64 1] w fun e w' => e = .returned (.int .i64 (m : Int)) ∧ w' = w := by
  by_cases h : 1 < n
  · obtain ⟨b, off, z, rfl, hb, hc, hz0, hz1⟩ := hr 1 h
    obtain ⟨m, rfl⟩ : ∃ m : Nat, z = (m : Int) := ⟨z.toNat, by omega⟩
    refine ⟨m, by omega, ?_⟩
    skip
    clear hr hb
    go_enter Try.func6, Try.ntmps6
    go_wp2
    go_ret
    exact ⟨rfl, rfl⟩
  · clear hr
    refine ⟨(7 + n) % 256, by omega, ?_⟩
    obtain ⟨m, hm⟩ : ∃ m, m = (7 + n) % 256 := ⟨_, rfl⟩
    rw [← hm]
    have e1 : (7 + (n : Int)) % 256 = (m : Int) := by omega
    have e2 : (7 + (n : Int)).tmod 256 = (m : Int) := by rw [Int.tmod_eq_emod_of_nonneg (by omega)]; omega
    have e3 : (n : Int) % 256 = (((n % 256 : Nat) : Nat) : Int) := by omega
    have e4 : (n : Int).tmod 256 = (((n % 256 : Nat) : Nat) : Int) := by rw [Int.tmod_eq_emod_of_nonneg (by omega)]; omega
    clear hm
    go_enter Try.func6, Try.ntmps6
    go_wp2
    go_ret
    exact ⟨rfl, rfl⟩

set_option maxRecDepth 100000 in
theorem at_2 {w : World} {a : Option Addr} {n : Nat} (cap : Nat) (hr : Row w a n) (hn : n ≤ 1048576) : ∃ m : Nat, m < 256 ∧ Calls Try.prog 6 #[.slice a n cap, .int .i64 2] w fun e w' => e = .returned (.int .i64 (m : Int)) ∧ w' = w := by
  by_cases h : 2 < n
  · obtain ⟨b, off, z, rfl, hb, hc, hz0, hz1⟩ := hr 2 h
    obtain ⟨m, rfl⟩ : ∃ m : Nat, z = (m : Int) := ⟨z.toNat, by omega⟩
    refine ⟨m, by omega, ?_⟩
    skip
    clear hr hb
    go_enter Try.func6, Try.ntmps6
    go_wp2
    go_ret
    exact ⟨rfl, rfl⟩
  · clear hr
    refine ⟨(14 + n) % 256, by omega, ?_⟩
    obtain ⟨m, hm⟩ : ∃ m, m = (14 + n) % 256 := ⟨_, rfl⟩
    rw [← hm]
    have e1 : (14 + (n : Int)) % 256 = (m : Int) := by omega
    have e2 : (14 + (n : Int)).tmod 256 = (m : Int) := by rw [Int.tmod_eq_emod_of_nonneg (by omega)]; omega
    have e3 : (n : Int) % 256 = (((n % 256 : Nat) : Nat) : Int) := by omega
    have e4 : (n : Int).tmod 256 = (((n % 256 : Nat) : Nat) : Int) := by rw [Int.tmod_eq_emod_of_nonneg (by omega)]; omega
    clear hm
    go_enter Try.func6, Try.ntmps6
    go_wp2
    go_ret
    exact ⟨rfl, rfl⟩

theorem lt_key (n : Nat) : (Hid (n ≤ 65536) ∧ decide (65536 < (n : Int)) = false) ∨ decide (65536 < (n : Int)) = true := by
  rcases Nat.lt_or_ge 65536 n with h | h
  · exact .inr (decide_eq_true (by omega))
  · exact .inl ⟨h, decide_eq_false (by omega)⟩

/-- Sevens. -/
def sev (_ : Nat) : Int := 7

theorem cell_marked (W : World) (C : Array Value) (f : Nat × Nat) (k : Nat) : (W.alloc (.cells C 5 f)).cell? ⟨W.heap.size, k, none⟩ = C[k]? := by
  have h : (W.alloc (.cells C 5 f)).heap[W.heap.size]? = some (.cells C 5 f) := by
    show (W.heap.push (.cells C 5 f))[W.heap.size]? = _
    simp
  simp only [World.cell?, h]
  rfl

set_option maxRecDepth 100000 in
theorem nine_any (W : World) : Calls Try.prog 7 #[.slice (some ⟨W.heap.size, 0, none⟩) 9 9] (W.alloc (.cells #[.int .u8 49, .int .u8 50, .int .u8 51, .int .u8 52, .int .u8 53, .int .u8 54, .int .u8 55, .int .u8 56, .int .u8 57] 5 (9, 10))) fun e w' => e = .returned (.int .i64 10673) ∧ w' = (W.alloc (.cells #[.int .u8 49, .int .u8 50, .int .u8 51, .int .u8 52, .int .u8 53, .int .u8 54, .int .u8 55, .int .u8 56, .int .u8 57] 5 (9, 10))) := by
  have hb : Bl (W.alloc (.cells #[.int .u8 49, .int .u8 50, .int .u8 51, .int .u8 52, .int .u8 53, .int .u8 54, .int .u8 55, .int .u8 56, .int .u8 57] 5 (9, 10))) (.slice (some ⟨W.heap.size, 0, none⟩) 9 9) 9 nine := by
    refine ⟨_, _, rfl, Nat.le_refl _, fun _ => ⟨_, _, rfl, Nat.lt_of_lt_of_eq (Nat.lt_succ_self _) (Array.size_push _).symm, fun k hk => ?_⟩⟩
    rw [Nat.zero_add, cell_marked]
    have hn : ∀ k : Fin 9, (#[.int .u8 49, .int .u8 50, .int .u8 51, .int .u8 52, .int .u8 53, .int .u8 54, .int .u8 55, .int .u8 56, .int .u8 57] : Array Value)[k.val]? = some (.int .u8 (nine k.val)) := by
      intro k
      match k with
      | 0 | 1 | 2 | 3 | 4 | 5 | 6 | 7 | 8 => rfl
    exact hn ⟨k, hk⟩
  have := iCrc_any hb nine_byt (by omega)
  have e : crv 9 nine = 10673 := by unfold crv; rw [if_neg (by omega), nine_crc]; rfl
  rw [e] at this
  exact this

theorem byt7 : Byt 1 sev := fun _ _ => ⟨(by decide : (0 : Int) ≤ 7), (by decide : (7 : Int) < 256)⟩

set_option maxHeartbeats 8000000 in
set_option maxRecDepth 100000 in
theorem walk_fcrc {w : World} {a : Option Addr} {n cap : Nat} (hr : Row w a n) (hn : n ≤ 9223372036854775807) : Calls Try.prog 3 #[.slice a n cap] w fun e w' => e = .returned (.bool true) ∧ Below w.heap.size w w' := by
  obtain ⟨i0, hi, hz0, hz1, hz2⟩ := info_parts Try.info5
  have i1 := big_x (w := w) a n cap hn
  by_cases hbig : 1048576 < n
  · rw [decide_eq_true (by omega)] at i1
    clear hr
    go_enter Try.func3, Try.ntmps3
    go_wp2_with (first | (go_at_call 4; (with_reducible refine (i1).mono ?_); rintro e w' ⟨rfl, hw⟩; obtain rfl := hw.symm))
    go_ret
    exact ⟨rfl, Below.refl _ _⟩
  rw [decide_eq_false (by omega)] at i1
  have hn2 : n ≤ 1048576 := by omega
  have HR : Hid (Row w a n) := hr
  clear hr hbig
  go_enter Try.func3, Try.ntmps3
  go_wp2_with (first
    | (go_at_call 4; (with_reducible refine (i1).mono ?_); rintro e w' ⟨rfl, hw⟩; obtain rfl := hw.symm)
    | (go_at_call 5; refine (dcrc_x HR.out hn2).mono ?_; rintro e w1 ⟨u1, n1, ys1, rfl, hn1, hby, ho, hb⟩; have hb2 := below_one w1 (.cells #[.int .u8 7] 5); have B2 : Hid (Below w.heap.size w (w1.alloc (.cells #[.int .u8 7] 5))) := bstep hb hb2; have HO2 := own_below ho hb2; have hs2 := B2.out.size; have HY1 : Hid (Byt n1 ys1) := hby; clear ho hb hby hb2)
    | (at_builtin; (fail_if_success have := M4); refine wpList_append_own _ rfl _ _ 22 rfl w.heap.size 5 i0 (.int .u8 0) 1 1 Try.underlying22 hi hz0 hz1 hz2 rfl (by decide) _ _ _ rfl HO2 ⟨w1.heap.size, 0, none⟩ 1 1 [.int .u8 7] rfl rfl (one_new _ _ _) (by simp [Value.oneCell']) (by unfold maxLen; omega) (by omega) hs2 ?_; intro v4 w4 hown' hgrow _; have M4 : Hid True := trivial; have B4 : Hid (Below w.heap.size w w4) := B2.out.trans (grown_below (Below.refl w.heap.size _) hs2 HO2 hgrow); rw [bls_app] at hown'; have HY4 := byt_app HY1.out (x := 7) (by decide) (by decide); obtain ⟨N, hN⟩ : ∃ N, N = n1 + 1 := ⟨_, rfl⟩; rw [← hN] at hown' HY4; (have hN0 : 0 < N := by omega); obtain ⟨zs, hzs⟩ : ∃ zs, zs = (fun i => if i = n1 then (7 : Int) else ys1 i) := ⟨_, rfl⟩; rw [← hzs] at hown' HY4; have HO4 : Hid (w4.ownsRow w.heap.size 5 1 v4 N (bls zs N)) := hown'; have HYZ : Hid (Byt N zs) := HY4; obtain ⟨al, cl, hv4⟩ := own_slice hown'; subst hv4; clear hown' hgrow HO2 HY4 hN hzs HY1 hn1; have key := lt_key N; rcases key with ⟨g66, d0⟩ | d0)
    | (at_builtin; have Z := g66; clear Z; have hb5 := below_one w4 (.cells #[] 5); refine wpList_appb rfl _ _ rfl w4.heap.size (.slice (some ⟨w4.heap.size, 0, none⟩) 0 0) (.slice al N cl) 0 N [] zs rfl rfl (own_empty w4 5 1) ((bl_of_own HO4.out).below hb5) hN0 (by have := g66.out; omega) hb5.size ?_; intro v6 w6 ho6 hg6; rw [Nat.zero_add, List.nil_append] at ho6; have B65 := grown_below (Below.refl w4.heap.size _) hb5.size (own_empty w4 5 1) hg6; have B64 : Hid (Below w4.heap.size w4 w6) := hb5.trans B65; have B6 : Hid (Below w.heap.size w w6) := bstep B4.out B64.out; have HO6 : Hid (w6.ownsRow w4.heap.size 5 1 v6 N (bls zs N)) := ho6; have HB6 : Hid (Bl w6 (.slice al N cl) N zs) := (bl_of_own HO4.out).below B64.out; obtain ⟨al6, cl6, hv6⟩ := own_slice ho6; subst hv6; clear ho6 hg6 B65 hb5)
    | (at_builtin; (fail_if_success have := g66); have hsz : (w4.alloc (.cells #[.int .u8 7] 5)).heap.size = w4.heap.size + 1 := Array.size_push _; have hb5 := below_one (w4.alloc (.cells #[.int .u8 7] 5)) (.cells #[] 5); have OE := own_empty (w4.alloc (.cells #[.int .u8 7] 5)) 5 1; rw [hsz] at OE; have BL7 := (bl_of_own (xs := sev) (n := 1) (bone_own w4 7)).below hb5; refine wpList_appb rfl _ _ rfl (w4.heap.size + 1) (.slice (some ⟨w4.heap.size + 1, 0, none⟩) 0 0) (.slice (some ⟨w4.heap.size, 0, none⟩) 1 1) 0 1 [] sev rfl rfl OE BL7 (by omega) (by omega) (by rw [← hsz]; exact hb5.size) ?_; intro v6 w6 ho6 hg6; rw [Nat.zero_add, List.nil_append] at ho6; have B65 := grown_below (Below.refl (w4.heap.size + 1) _) (by rw [← hsz]; exact hb5.size) OE hg6; have B64 : Hid (Below (w4.heap.size + 1) (w4.alloc (.cells #[.int .u8 7] 5)) w6) := by { rw [hsz] at hb5; exact hb5.trans B65 }; have B6 : Hid (Below w.heap.size w w6) := bstep (bstep B4.out (below_one w4 (.cells #[.int .u8 7] 5))) (by { rw [hsz]; exact B64.out }); have HO6 : Hid (w6.ownsRow (w4.heap.size + 1) 5 1 v6 1 (bls sev 1)) := ho6; have HB6 : Hid (Bl w6 (.slice (some ⟨w4.heap.size, 0, none⟩) 1 1) 1 sev) := Bl.below (bl_of_own (xs := sev) (n := 1) (bone_own w4 7)) (by { rw [hsz]; exact B64.out }); obtain ⟨al6, cl6, hv6⟩ := own_slice ho6; subst hv6; clear ho6 hg6 B65 hb5 OE BL7)
    | (go_at_call 6; (fail_if_success have := M7); obtain ⟨m0, hm0, j0⟩ := at_0 cap (HR.out.below B6.out) hn2; refine j0.mono ?_; rintro e w' ⟨rfl, hw⟩; obtain rfl := hw.symm; have M7 : Hid True := trivial; clear j0)
    | (go_at_call 6; have Z := M7; clear Z; have Z := g66; clear Z; (fail_if_success have := M8); obtain ⟨m1, hm1, j1⟩ := at_1 cap (HR.out.below B6.out) hn2; refine j1.mono ?_; rintro e w' ⟨rfl, hw⟩; obtain rfl := hw.symm; have M8 : Hid True := trivial; obtain ⟨K, hK⟩ : ∃ K : Nat, K = (m0 * 256 + m1) % N := ⟨_, rfl⟩; have hKN : K < N := by {{ rw [hK]; exact Nat.mod_lt _ hN0 }}; (have q1 : ((m0 : Int) * 256 + (m1 : Int)) % (N : Int) = (K : Int) := by {{ rw [hK]; simp }}); (have q2 : ((m0 : Int) * 256 + (m1 : Int)).tmod (N : Int) = (K : Int) := by {{ rw [Int.tmod_eq_emod_of_nonneg (by omega)]; exact q1 }}); (have q3 : ¬ ((N : Int) = 0) := by omega); clear hK; clear j1)
    | (go_at_call 6; have Z := M7; clear Z; (fail_if_success have := g66); (fail_if_success have := M8); obtain ⟨m1, hm1, j1⟩ := at_1 cap (HR.out.below B6.out) hn2; refine j1.mono ?_; rintro e w' ⟨rfl, hw⟩; obtain rfl := hw.symm; have M8 : Hid True := trivial; clear j1))
  · obtain ⟨g, hg6, hbg⟩ : ∃ g, al6 = some ⟨g, 0, none⟩ ∧ w4.heap.size ≤ g := by
      rcases HO6.out.2 with ⟨h9, _⟩ | ⟨g, c, cur, h9, h10, _⟩
      · injection h9 with _ h11 _; have := hN0; omega
      · injection h9 with h11 _ h12; exact ⟨g, h11, h10⟩
    subst hg6
    have byK := HYZ.out K hKN
    obtain ⟨y, hy⟩ : ∃ y : Nat, zs K = (y : Int) := ⟨(zs K).toNat, by omega⟩
    have hy2 : y < 256 := by omega
    have c00 := World.ownsRow.cellAt HO6.out K (by have := hKN; omega)
    rw [bls_get hKN, hy] at c00
    have c0 : w6.drew.cell? ⟨g, K, none⟩ = some (.int .u8 (y : Int)) := c00
    have f0 := World.ownsRow.frozenAt HO6.out K
    obtain ⟨m2, hm2, j2⟩ := at_2 (w := w6.drew) cap (HR.out.below B6.out.drew) hn2
    obtain ⟨r, hr⟩ : ∃ r : Nat, r = m2 % 255 := ⟨_, rfl⟩
    have r1 : (m2 : Int) % 255 = (r : Int) := by omega
    have r2 : (m2 : Int).tmod 255 = (r : Int) := by rw [Int.tmod_eq_emod_of_nonneg (by omega)]; exact r1
    obtain ⟨D, hD⟩ : ∃ D : Nat, D = 1 + r := ⟨_, rfl⟩
    have r3 : 1 + (r : Int) = (D : Int) := by omega
    have hD1 : 1 ≤ D ∧ D < 256 := by omega
    have r4 : IntKind.u8.wrap (D : Int) = (D : Int) := by rw [IntKind.wrap_u8']; omega
    have r6 : IntKind.i64.wrap (D : Int) = (D : Int) := by rw [IntKind.wrap_i64]; omega
    obtain ⟨z, hz⟩ : ∃ z : Nat, z = y ^^^ D := ⟨_, rfl⟩
    have r5 : bits .xor .u8 (y : Int) (D : Int) = (z : Int) := by rw [xor_u8 hy2 hD1.2, hz]
    have hz2 : z < 256 := by rw [hz]; exact Nat.xor_lt_two_pow (n := 8) hy2 hD1.2
    have hzy : z ≠ y := by
      intro e
      have e2 := congrArg (fun q => y ^^^ q) (hz.symm.trans e)
      simp only [xor_front, Nat.xor_self] at e2
      omega
    have NE : Hid (crc zs N ≠ crc (fun i => if i = K then (z : Int) else zs i) N) := by
      refine crc_ne (k := K) HYZ.out (fun i hi => ?_) hKN ?_ (fun i hi => by simp [hi])
      · by_cases e : i = K
        · subst e; simp; omega
        · simp [e]; exact HYZ.out i hi
      · simp; omega
    have BY2 : Hid (Byt N (fun i => if i = K then (z : Int) else zs i)) := by
      intro i hi
      by_cases e : i = K
      · subst e; simp; omega
      · simp [e]; exact HYZ.out i hi
    have st := (World.ownsRow.stored HO6.out K (.int .u8 (z : Int))).1
    rw [bls_put] at st
    have OP := own_below st (Below.refl _ (w6.setCell ⟨g, K, none⟩ (.int .u8 (z : Int)))).drew
    have ON := (Only.refl g w6).put K (.int .u8 (z : Int))
    have B9 := (Below.only B64.out ON hbg).drew
    have BW9 : Hid (Below w.heap.size w (w6.setCell ⟨g, K, none⟩ (.int .u8 (z : Int))).drew) := (Below.only B6.out ON (Nat.le_trans (Nat.le_trans B4.out.size (by first | exact Nat.le_refl _ | omega)) hbg)).drew
    have BLB : Bl (w6.setCell ⟨g, K, none⟩ (.int .u8 (z : Int))).drew (.slice al N cl) N zs := Bl.below (bl_of_own HO4.out) (by exact B9)
    have HI1 : Hid (Calls Try.prog 7 #[.slice al N cl] (w6.setCell ⟨g, K, none⟩ (.int .u8 (z : Int))).drew fun e w' => e = .returned (.int .i64 (crv N zs)) ∧ w' = (w6.setCell ⟨g, K, none⟩ (.int .u8 (z : Int))).drew) := iCrc_any BLB HYZ.out (by have := g66.out; omega)
    have HI2 : Hid (Calls Try.prog 7 #[.slice (some ⟨g, 0, none⟩) N cl6] (w6.setCell ⟨g, K, none⟩ (.int .u8 (z : Int))).drew fun e w' => e = .returned (.int .i64 (crv N (fun i => if i = K then (z : Int) else zs i))) ∧ w' = (w6.setCell ⟨g, K, none⟩ (.int .u8 (z : Int))).drew) := iCrc_any (bl_of_own OP) BY2.out (by have := g66.out; omega)
    have E1 : crv N zs = ((crc zs N : Nat) : Int) := by unfold crv; rw [if_neg (by have := g66.out; omega)]
    have E2 : crv N (fun i => if i = K then (z : Int) else zs i) = ((crc (fun i => if i = K then (z : Int) else zs i) N : Nat) : Int) := by unfold crv; rw [if_neg (by have := g66.out; omega)]
    rw [E1] at HI1
    rw [E2] at HI2
    clear E1 E2
    obtain ⟨v1, hv1⟩ : ∃ v1 : Nat, v1 = crc zs N := ⟨_, rfl⟩
    obtain ⟨v2, hv2⟩ : ∃ v2 : Nat, v2 = crc (fun i => if i = K then (z : Int) else zs i) N := ⟨_, rfl⟩
    rw [← hv1] at HI1 NE
    rw [← hv2] at HI2 NE
    have t1 : ((v1 : Int) != (v2 : Int)) = true := by have := NE.out; simp; omega
    have t2 : ((v1 : Int) == (v2 : Int)) = false := by have := NE.out; simp; omega
    clear hv1 hv2 NE BY2 BLB OP B9
    clear st ON hz hr hD hy byK c00
    go_region_with (first | (go_at_call 6; (with_reducible refine (j2).mono ?_); rintro e w' ⟨rfl, hw⟩; obtain rfl := hw.symm))
    all_goals
      generalize (w6.setCell ⟨g, K, none⟩ (.int .u8 (z : Int))).drew = W9 at HI1 HI2 BW9 ⊢
      have HI3 : Hid (Calls Try.prog 7 #[.slice (some ⟨W9.heap.size, 0, none⟩) 9 9] (W9.alloc (.cells #[.int .u8 49, .int .u8 50, .int .u8 51, .int .u8 52, .int .u8 53, .int .u8 54, .int .u8 55, .int .u8 56, .int .u8 57] 5 (9, 10))) fun e w' => e = .returned (.int .i64 10673) ∧ w' = (W9.alloc (.cells #[.int .u8 49, .int .u8 50, .int .u8 51, .int .u8 52, .int .u8 53, .int .u8 54, .int .u8 55, .int .u8 56, .int .u8 57] 5 (9, 10)))) := nine_any W9
      have cv := Lib.run_convert_bytes_const (P := Try.prog) W9 22 5 #[.int .u8 49, .int .u8 50, .int .u8 51, .int .u8 52, .int .u8 53, .int .u8 54, .int .u8 55, .int .u8 56, .int .u8 57] 9 9 Try.underlying22 Try.underlying5
      go_wp2_with (first | (go_at_call 7; (with_reducible refine (HI1.out).mono ?_); rintro e w' ⟨rfl, hw⟩; obtain rfl := hw.symm) | (go_at_call 7; (with_reducible refine (HI2.out).mono ?_); rintro e w' ⟨rfl, hw⟩; obtain rfl := hw.symm) | (go_at_call 7; (with_reducible refine (HI3.out).mono ?_); rintro e w' ⟨rfl, hw⟩; obtain rfl := hw.symm))
      go_ret
      exact ⟨rfl, bstep BW9.out (below_one _ _)⟩

  · obtain ⟨g, hg6, hbg⟩ : ∃ g, al6 = some ⟨g, 0, none⟩ ∧ (w4.heap.size + 1) ≤ g := by
      rcases HO6.out.2 with ⟨h9, _⟩ | ⟨g, c, cur, h9, h10, _⟩
      · injection h9 with _ h11 _; have := Nat.one_pos; omega
      · injection h9 with h11 _ h12; exact ⟨g, h11, h10⟩
    subst hg6
    have byK := byt7 0 Nat.one_pos
    obtain ⟨y, hy⟩ : ∃ y : Nat, sev 0 = (y : Int) := ⟨(sev 0).toNat, by omega⟩
    have hy2 : y < 256 := by omega
    have c00 := World.ownsRow.cellAt HO6.out 0 (by have := Nat.one_pos; omega)
    rw [bls_get Nat.one_pos, hy] at c00
    have c0 : w6.drew.cell? ⟨g, 0, none⟩ = some (.int .u8 (y : Int)) := c00
    have f0 := World.ownsRow.frozenAt HO6.out 0
    obtain ⟨m2, hm2, j2⟩ := at_2 (w := w6.drew) cap (HR.out.below B6.out.drew) hn2
    obtain ⟨r, hr⟩ : ∃ r : Nat, r = m2 % 255 := ⟨_, rfl⟩
    have r1 : (m2 : Int) % 255 = (r : Int) := by omega
    have r2 : (m2 : Int).tmod 255 = (r : Int) := by rw [Int.tmod_eq_emod_of_nonneg (by omega)]; exact r1
    obtain ⟨D, hD⟩ : ∃ D : Nat, D = 1 + r := ⟨_, rfl⟩
    have r3 : 1 + (r : Int) = (D : Int) := by omega
    have hD1 : 1 ≤ D ∧ D < 256 := by omega
    have r4 : IntKind.u8.wrap (D : Int) = (D : Int) := by rw [IntKind.wrap_u8']; omega
    have r6 : IntKind.i64.wrap (D : Int) = (D : Int) := by rw [IntKind.wrap_i64]; omega
    obtain ⟨z, hz⟩ : ∃ z : Nat, z = y ^^^ D := ⟨_, rfl⟩
    have r5 : bits .xor .u8 (y : Int) (D : Int) = (z : Int) := by rw [xor_u8 hy2 hD1.2, hz]
    have hz2 : z < 256 := by rw [hz]; exact Nat.xor_lt_two_pow (n := 8) hy2 hD1.2
    have hzy : z ≠ y := by
      intro e
      have e2 := congrArg (fun q => y ^^^ q) (hz.symm.trans e)
      simp only [xor_front, Nat.xor_self] at e2
      omega
    have NE : Hid (crc sev 1 ≠ crc (fun i => if i = 0 then (z : Int) else sev i) 1) := by
      refine crc_ne (k := 0) byt7 (fun i hi => ?_) Nat.one_pos ?_ (fun i hi => by simp [hi])
      · by_cases e : i = 0
        · subst e; simp; omega
        · simp [e]; exact byt7 i hi
      · simp; omega
    have BY2 : Hid (Byt 1 (fun i => if i = 0 then (z : Int) else sev i)) := by
      intro i hi
      by_cases e : i = 0
      · subst e; simp; omega
      · simp [e]; exact byt7 i hi
    have st := (World.ownsRow.stored HO6.out 0 (.int .u8 (z : Int))).1
    rw [bls_put] at st
    have OP := own_below st (Below.refl _ (w6.setCell ⟨g, 0, none⟩ (.int .u8 (z : Int)))).drew
    have ON := (Only.refl g w6).put 0 (.int .u8 (z : Int))
    have B9 := (Below.only B64.out ON hbg).drew
    have BW9 : Hid (Below w.heap.size w (w6.setCell ⟨g, 0, none⟩ (.int .u8 (z : Int))).drew) := (Below.only B6.out ON (Nat.le_trans (Nat.le_trans B4.out.size (by first | exact Nat.le_refl _ | omega)) hbg)).drew
    have BLB : Bl (w6.setCell ⟨g, 0, none⟩ (.int .u8 (z : Int))).drew (.slice (some ⟨w4.heap.size, 0, none⟩) 1 1) 1 sev := Bl.below (bl_of_own (xs := sev) (n := 1) (bone_own w4 7)) (by rw [hsz]; exact B9)
    have HI1 : Hid (Calls Try.prog 7 #[.slice (some ⟨w4.heap.size, 0, none⟩) 1 1] (w6.setCell ⟨g, 0, none⟩ (.int .u8 (z : Int))).drew fun e w' => e = .returned (.int .i64 (crv 1 sev)) ∧ w' = (w6.setCell ⟨g, 0, none⟩ (.int .u8 (z : Int))).drew) := iCrc_any BLB byt7 (by have := (by omega); omega)
    have HI2 : Hid (Calls Try.prog 7 #[.slice (some ⟨g, 0, none⟩) 1 cl6] (w6.setCell ⟨g, 0, none⟩ (.int .u8 (z : Int))).drew fun e w' => e = .returned (.int .i64 (crv 1 (fun i => if i = 0 then (z : Int) else sev i))) ∧ w' = (w6.setCell ⟨g, 0, none⟩ (.int .u8 (z : Int))).drew) := iCrc_any (bl_of_own OP) BY2.out (by have := (by omega); omega)
    have E1 : crv 1 sev = ((crc sev 1 : Nat) : Int) := by unfold crv; rw [if_neg (by have := (by omega); omega)]
    have E2 : crv 1 (fun i => if i = 0 then (z : Int) else sev i) = ((crc (fun i => if i = 0 then (z : Int) else sev i) 1 : Nat) : Int) := by unfold crv; rw [if_neg (by have := (by omega); omega)]
    rw [E1] at HI1
    rw [E2] at HI2
    clear E1 E2
    obtain ⟨v1, hv1⟩ : ∃ v1 : Nat, v1 = crc sev 1 := ⟨_, rfl⟩
    obtain ⟨v2, hv2⟩ : ∃ v2 : Nat, v2 = crc (fun i => if i = 0 then (z : Int) else sev i) 1 := ⟨_, rfl⟩
    rw [← hv1] at HI1 NE
    rw [← hv2] at HI2 NE
    have t1 : ((v1 : Int) != (v2 : Int)) = true := by have := NE.out; simp; omega
    have t2 : ((v1 : Int) == (v2 : Int)) = false := by have := NE.out; simp; omega
    clear hv1 hv2 NE BY2 BLB OP B9
    clear st ON hz hr hD hy byK c00
    go_region_with (first | (go_at_call 6; (with_reducible refine (j2).mono ?_); rintro e w' ⟨rfl, hw⟩; obtain rfl := hw.symm))
    all_goals
      generalize (w6.setCell ⟨g, 0, none⟩ (.int .u8 (z : Int))).drew = W9 at HI1 HI2 BW9 ⊢
      have HI3 : Hid (Calls Try.prog 7 #[.slice (some ⟨W9.heap.size, 0, none⟩) 9 9] (W9.alloc (.cells #[.int .u8 49, .int .u8 50, .int .u8 51, .int .u8 52, .int .u8 53, .int .u8 54, .int .u8 55, .int .u8 56, .int .u8 57] 5 (9, 10))) fun e w' => e = .returned (.int .i64 10673) ∧ w' = (W9.alloc (.cells #[.int .u8 49, .int .u8 50, .int .u8 51, .int .u8 52, .int .u8 53, .int .u8 54, .int .u8 55, .int .u8 56, .int .u8 57] 5 (9, 10)))) := nine_any W9
      have cv := Lib.run_convert_bytes_const (P := Try.prog) W9 22 5 #[.int .u8 49, .int .u8 50, .int .u8 51, .int .u8 52, .int .u8 53, .int .u8 54, .int .u8 55, .int .u8 56, .int .u8 57] 9 9 Try.underlying22 Try.underlying5
      go_wp2_with (first | (go_at_call 7; (with_reducible refine (HI1.out).mono ?_); rintro e w' ⟨rfl, hw⟩; obtain rfl := hw.symm) | (go_at_call 7; (with_reducible refine (HI2.out).mono ?_); rintro e w' ⟨rfl, hw⟩; obtain rfl := hw.symm) | (go_at_call 7; (with_reducible refine (HI3.out).mono ?_); rintro e w' ⟨rfl, hw⟩; obtain rfl := hw.symm))
      go_ret
      exact ⟨rfl, bstep BW9.out (below_one _ _)⟩
end Go.Proofs.Ytgpcamlieefihaa
