/- Room of both sides. -/
import Derived.Test.YtlccicbgepfbbaaWJ
import Derived.Deep.QuietTactic
namespace Go.Proofs.Ytlccicbgepfbbaa
open Go.RowKit

/-- The most that lay there up to j firings. -/
def mxr (ss : Nat → Wr) (o : Nat → Int) : Nat → Nat → Int
  | 0 => hav ss
  | j + 1 => fun i => if mxr ss o j i < fh ss o (j + 1) i then fh ss o (j + 1) i else mxr ss o j i

def mxq (ss : Nat → Wr) (o : Nat → Int) (j q i : Nat) : Int := if i < q then mxr ss o (j + 1) i else mxr ss o j i

theorem mxq_0 (ss : Nat → Wr) (o : Nat → Int) (j : Nat) : mxq ss o j 0 = mxr ss o j := by funext i; unfold mxq; rw [if_neg (by omega)]

theorem mxq_at (ss : Nat → Wr) (o : Nat → Int) (j q : Nat) : mxq ss o j q q = mxr ss o j q := by unfold mxq; rw [if_neg (by omega)]

theorem mxq_put (ss : Nat → Wr) (o : Nat → Int) (j q : Nat) {y : Int} (h : mxr ss o (j + 1) q = y) : (fun i => if i = q then y else mxq ss o j q i) = mxq ss o j (q + 1) := by
  funext i
  unfold mxq
  by_cases e : i = q
  · rw [if_pos e, if_pos (by omega), e, h]
  · rw [if_neg e]
    by_cases h1 : i < q
    · rw [if_pos h1, if_pos (by omega)]
    · rw [if_neg h1, if_neg (by omega)]

theorem mxq_same (ss : Nat → Wr) (o : Nat → Int) (j q : Nat) (h : mxr ss o (j + 1) q = mxr ss o j q) : mxq ss o j (q + 1) = mxq ss o j q := by
  rw [← mxq_put ss o j q h]
  funext i
  by_cases e : i = q
  · simp only [if_pos e]; rw [e, mxq_at]
  · simp only [if_neg e]

theorem mxq_m (ss : Nat → Wr) (o : Nat → Int) (j m : Nat) : ils (mxq ss o j m) m = ils (mxr ss o (j + 1)) m := ils_congr fun i hi => by unfold mxq; rw [if_pos hi]

theorem Il.open2 {w : World} {v : Value} {n : Nat} {xs : Nat → Int} (h : Il w v n xs) : ∃ ao cap, v = .slice ao n cap ∧ True := by
  obtain ⟨ao, cap, rfl, _⟩ := h
  exact ⟨ao, cap, rfl, trivial⟩

theorem il_kd {D : Nat → Prop} {w w' : World} {ao : Option Addr} {n cap : Nat} {xs : Nat → Int} (h : Il w (.slice ao n cap) n xs) (hk : Kd D w w') (hd : ∀ b off, ao = some ⟨b, off, none⟩ → ¬ D b) : Il w' (.slice ao n cap) n xs := by
  obtain ⟨ao', cap', e, h1, h2⟩ := h
  injection e with e1 e2 e3
  subst e1
  subst e3
  refine ⟨ao, cap, rfl, h1, fun h0 => ?_⟩
  obtain ⟨b, off, rfl, h3, h4⟩ := h2 h0
  exact ⟨b, off, rfl, Nat.lt_of_lt_of_le h3 hk.size, fun q hq => (World.cell?_of_block (w := w) (a := ⟨b, off + q, none⟩) (hk.block b h3 (hd b off rfl))).trans (h4 q hq)⟩

theorem own_open {w : World} {B s n : Nat} {e : TypeId} {v : Value} {xs : List Value} (h : w.ownsRow B e s v n xs) : ∃ ao cap, v = .slice ao n cap ∧ (0 < n → ∃ g, ao = some ⟨g, 0, none⟩) := by
  rcases h.2 with ⟨rfl, rfl⟩ | ⟨g, cap, cur, rfl, _⟩
  · exact ⟨_, _, rfl, fun h => by omega⟩
  · exact ⟨_, _, rfl, fun _ => ⟨g, rfl⟩⟩

/-- What is told: a list in memory of the call's own, and a bool. -/
def Pst (w w' : World) (e : Ending) (N : Nat) (ys : Nat → Int) (c : Bool) : Prop := ∃ u, e = .returned (.tuple #[u, .bool c]) ∧ w'.ownsRow w.heap.size 3 1 u N (ils ys N) ∧ Below w.heap.size w w'

set_option maxHeartbeats 4000000 in
theorem iRoom_bad {w : World} {v u : Value} {m N : Nat} {ss : Nat → Wr} {o : Nat → Int} (n : Int) (hv : Ow w v m ss) (hu : Il w u N o) (hm : m ≤ 1048576) (h : ¬ (Wok n m ss ∧ N ≤ 2000 ∧ ∀ q, q < N → Fok n m ss o q)) (ys : Nat → Int) :
    Calls Try.prog 24 #[.int .i64 n, v, u] w fun e w' => Pst w w' e 0 ys false := by
  obtain ⟨c, M, zz, hc, i1⟩ : ∃ c M zz, c ≠ -1 ∧ Calls Try.prog 16 #[.int .i64 n, v, u] w fun e w' => Pfi w w' e M zz c := by
    by_cases h1 : Wok n m ss ∧ N ≤ 2000
    · obtain ⟨J, h2, h3, h4⟩ := stops (Fok n m ss o) N
      have hJ : J < N := by
        rcases Nat.lt_or_ge J N with hJ | hJ
        · exact hJ
        · exact absurd ⟨h1.1, h1.2, fun q hq => h3 q (by omega)⟩ h
      refine ⟨if J < N then (J : Int) else -1, m, _, ?_, iFire_good n _ hv hu h1.1 h1.2 h2 h3 h4 rfl⟩
      rw [if_pos hJ]
      omega
    · exact ⟨-2, 0, fun _ => 0, by decide, iFire_bad n hv hu hm h1 _⟩
  obtain ⟨ao, cap, rfl, hcap, hcl⟩ := hu
  clear hcl h
  have hc : (decide (c = -1)) = false := decide_eq_false hc
  go_enter Try.func24, Try.ntmps24
  go_wp2_with (go_at_call 16; (with_reducible refine i1.mono ?_); rintro e w2 ⟨x, rfl, _, hb⟩; have BX : Hid (Below w.heap.size w w2) := hb; clear hb)
  go_ret2
  exact ⟨_, rfl, own_base (nil_own w2 ys) BX.out.size, bstep BX.out (below_one _ _)⟩

set_option maxRecDepth 100000 in
set_option maxHeartbeats 8000000 in
theorem iRoom_good {w : World} {v u : Value} {m N : Nat} {ss : Nat → Wr} {o : Nat → Int} (n : Int) (hv : Ow w v m ss) (hu : Il w u N o) (hw : Wok n m ss) (hN : N ≤ 2000) (hq : ∀ q, q < N → Fok n m ss o q) :
    Calls Try.prog 24 #[.int .i64 n, v, u] w fun e w' => Pst w w' e m (mxr ss o N) true := by
  have h40 := hw.2.1
  have hm : m ≤ 1048576 := by omega
  have i1 := iFire_good n (-1) hv hu hw hN (Nat.le_refl N) hq (fun h => by omega) (by rw [if_neg (by omega)])
  have HW : Hid (Wok n m ss) := hw
  have HV : Hid (Ow w v m ss) := hv
  have HQ : Hid (∀ q, q < N → Fok n m ss o q) := hq
  obtain ⟨ao, cap, rfl, hcap, hcl⟩ := hu
  have HC : Hid (0 < N → ∃ b off, ao = some ⟨b, off, none⟩ ∧ b < w.heap.size ∧ ∀ k, k < N → w.cell? ⟨b, off + k, none⟩ = some (.int .i64 (o k))) := hcl
  clear hcl hw hq
  go_enter Try.func24, Try.ntmps24
  go_wp2_with (first
    | (go_at_call 16; (fail_if_success have := BX); (with_reducible refine i1.mono ?_); rintro e V ⟨x0, rfl, _, hb⟩; have BX : Hid (Below w.heap.size w V) := hb; clear hb)
    | (go_at_call 49; (with_reducible refine (newNet_any (HV.out.below BX.out) hm).mono ?_); rintro e V2 ⟨x, rfl, ho, hb⟩; have X0 : Hid (V2.ownsRow V.heap.size 31 5 x m (ils (zs (nt ss (fh ss o 0))) (m * 5))) := ho; have B0 : Hid (Below V.heap.size V V2) := hb; clear hb ho)
    | (go_at_call 52; (with_reducible refine (iLie_any (il5_of_own X0.out) hm).mono ?_); rintro e V3 ⟨y, rfl, ho, hb⟩; have Y0 : Hid (V3.ownsRow V2.heap.size 3 1 y m (ils (mxr ss o 0) m)) := ho; have X1 : Hid (V3.ownsRow V.heap.size 31 5 x m (ils (zs (nt ss (fh ss o 0))) (m * 5))) := own_below X0.out hb; have B1 : Hid (Below V.heap.size V V3) := bstep B0.out hb; clear hb ho))
  clear i1
  have HV2 : Hid (Ow V v m ss) := HV.out.below BX.out
  have XB : Hid (∀ g, x.ownBlock = some g → g < V2.heap.size) := fun g hg => (World.ownsRow.lt X0.out g hg).2
  have SV : Hid (V.heap.size ≤ V2.heap.size) := B0.out.size
  clear X0 B0
  obtain ⟨yo, yc, hyy, hyo⟩ := own_open Y0.out
  have HYY : Hid (y = .slice yo m yc) := hyy
  have HYO : Hid (0 < m → ∃ g, yo = some ⟨g, 0, none⟩) := hyo
  subst hyy
  clear hyo
  obtain ⟨xo, xc, hxx, _⟩ := own_open X1.out
  subst hxx
  go_loopw [13, 14, 15, 32, 42] (fun _ _ _ i _ wr => ∃ k : Nat, i = .int .i64 k ∧ k ≤ N ∧ Hid (wr.ownsRow V.heap.size 31 5 (.slice xo m xc) m (ils (zs (nt ss (fh ss o k))) (m * 5)) ∧ wr.ownsRow V2.heap.size 3 1 (.slice yo m yc) m (ils (mxr ss o k) m) ∧ Below V.heap.size V wr)) (fun _ _ _ i _ _ => N - (intOf i).toNat)
  case atStart => exact ⟨0, rfl, by omega, X1.out, Y0.out, B1.out⟩
  case round =>
    obtain ⟨k, rfl, hk, hrel⟩ := hrel
    have HX : Hid (wr.ownsRow V.heap.size 31 5 (.slice xo m xc) m (ils (zs (nt ss (fh ss o k))) (m * 5))) := hrel.out.1
    have HY : Hid (wr.ownsRow V2.heap.size 3 1 (.slice yo m yc) m (ils (mxr ss o k) m)) := hrel.out.2.1
    have BK : Hid (Below V.heap.size V wr) := hrel.out.2.2
    clear hrel
    by_cases h1 : k < N
    · have BW : Hid (Below w.heap.size w wr) := bstep BX.out BK.out
      obtain ⟨b, off, rfl, hlt, hcell⟩ := HC.out (by omega)
      have c0 := (BW.out.cell (p := ⟨b, off + k, none⟩) hlt).trans (hcell k h1)
      clear hcell hlt
      have HFI : Hid (Fit m ss (fh ss o k)) := fh_fit HW.out (by omega) fun q hq => HQ.out q (by omega)
      go_wp2_with (first
        | (go_at_call 53; (with_reducible refine (iFire_any (o k) HX.out (fit_nt HFI.out) hm).mono ?_); rintro e W2 ⟨rfl, h5, h6⟩; have HX2 : Hid (W2.ownsRow V.heap.size 31 5 (.slice xo m xc) m (ils (zs (nt ss (fh ss o (k + 1)))) (m * 5))) := h5; have HY2 : Hid (W2.ownsRow V2.heap.size 3 1 (.slice yo m yc) m (ils (mxr ss o k) m)) := own_kd HY.out h6 (fun g hg hx => by have := (World.ownsRow.lt HY.out g hg).1; have := XB.out g hx; omega); have BK2 : Hid (Below V.heap.size V W2) := below_kd BK.out h6 BK.out.size HX.out; clear h5 h6)
        | (go_at_call 52; (with_reducible refine (iLie_any (il5_of_own HX2.out) hm).mono ?_); rintro e W3 ⟨z, rfl, h5, h6⟩; obtain ⟨zo, zc, rfl, _⟩ := (il_of_own h5).open2; have HZ3 : Hid (Il W3 (.slice zo m zc) m (fh ss o (k + 1))) := il_of_own h5; have HX3 : Hid (W3.ownsRow V.heap.size 31 5 (.slice xo m xc) m (ils (zs (nt ss (fh ss o (k + 1)))) (m * 5))) := own_below HX2.out h6; have HY3 : Hid (W3.ownsRow V2.heap.size 3 1 (.slice yo m yc) m (ils (mxr ss o k) m)) := own_below HY2.out h6; have BK3 : Hid (Below V.heap.size V W3) := BK2.out.trans (h6.mono BK2.out.size); have ZB : Hid (∀ g, (Value.slice zo m zc).ownBlock = some g → W2.heap.size ≤ g) := (fun g hg => (World.ownsRow.lt h5 g hg).1); have HYL : Hid (∀ g, (Value.slice yo m yc).ownBlock = some g → g < W2.heap.size) := (fun g hg => (World.ownsRow.lt HY2.out g hg).2); clear h5 h6))
      clear HX HY BK BW HFI HX2 HY2 BK2
      go_loopw [14, 15, 42] (fun _ _ i2 wr => ∃ q : Nat, i2 = .int .i64 q ∧ q ≤ m ∧ Hid (wr.ownsRow V.heap.size 31 5 (.slice xo m xc) m (ils (zs (nt ss (fh ss o (k + 1)))) (m * 5)) ∧ wr.ownsRow V2.heap.size 3 1 (.slice yo m yc) m (ils (mxq ss o k q) m) ∧ Below V.heap.size V wr ∧ Il wr (.slice zo m zc) m (fh ss o (k + 1)))) (fun _ _ i2 _ => m - (intOf i2).toNat)
      case atStart => exact ⟨0, rfl, by omega, HX3.out, by rw [mxq_0]; exact HY3.out, BK3.out, HZ3.out⟩
      case round =>
        obtain ⟨q, rfl, hq, hrel⟩ := hrel
        have hx := hrel.out.1
        have hy := hrel.out.2.1
        have hb := hrel.out.2.2.1
        have hz : Il wr (.slice zo m zc) m (fh ss o (k + 1)) := hrel.out.2.2.2
        clear hrel
        by_cases h2 : q < m
        · obtain ⟨gy, hgy⟩ := HYO.out (by omega)
          subst hgy
          have hz0 := hz
          obtain ⟨zo2, zc2, hzz, _, hzc⟩ := hz
          obtain ⟨zb, zf, hzo, hzl, hzc⟩ := hzc (by omega)
          have hzz2 := hzz
          rw [hzo] at hzz2
          injection hzz2 with hz1 hz2 hz3
          subst hz1
          clear hz2 hz3
          have d1 := hzc q h2
          have d2 := World.ownsRow.cellAt hy q (by omega)
          rw [ils_get h2, mxq_at] at d2
          have z2 := World.ownsRow.frozenAt hy q
          have hgv : V2.heap.size ≤ gy := (World.ownsRow.lt hy gy rfl).1
          have hgs : V.heap.size ≤ gy := Nat.le_trans SV.out hgv
          obtain ⟨fa, hfa⟩ : ∃ y, y = fh ss o (k + 1) q := ⟨_, rfl⟩
          obtain ⟨ma, hma⟩ : ∃ y, y = mxr ss o k q := ⟨_, rfl⟩
          have HE : Hid (mxr ss o (k + 1) q = if ma < fa then fa else ma) := by show _ = _; rw [hfa, hma]; rfl
          have HMA : Hid (ma = mxr ss o k q) := hma
          rw [← hfa] at d1
          rw [← hma] at d2
          clear hfa hma hzc hzz hzo
          have HX4 : Hid _ := hx
          have HY4 : Hid _ := hy
          have HB4 : Hid _ := hb
          have HZ4 : Hid (Il wr _ m (fh ss o (k + 1))) := hz0
          clear hx hy hb
          have HNZ : Hid (¬ zb = gy) := by intro e; have h5 := ZB.out zb rfl; have h6 := HYL.out gy rfl; omega
          by_cases h3 : ma < fa
          · skip
            have ST : Hid ((wr.setCell ⟨gy, q, none⟩ (.int .i64 fa)).ownsRow V2.heap.size 3 1 (.slice (some ⟨gy, 0, none⟩) m yc) m (ils (mxq ss o k (q + 1)) m)) := by
              have h := (World.ownsRow.stored HY4.out q (.int .i64 fa)).1
              rw [ils_put, mxq_put ss o k q (by rw [HE.out, if_pos h3])] at h
              exact h
            have SK : Hid (Kd (fun g => g = gy) wr (wr.setCell ⟨gy, q, none⟩ (.int .i64 fa))) := (Kd.refl (fun g => g = gy) wr).put (.inl rfl) q _
            have SX : Hid ((wr.setCell ⟨gy, q, none⟩ (.int .i64 fa)).ownsRow V.heap.size 31 5 (.slice xo m xc) m (ils (zs (nt ss (fh ss o (k + 1)))) (m * 5))) := own_kd HX4.out SK.out (fun g hg hx => by have := XB.out g hg; omega)
            have SB : Hid (Below V.heap.size V (wr.setCell ⟨gy, q, none⟩ (.int .i64 fa))) := Kd.below HB4.out SK.out HB4.out.size (by rintro g rfl; exact hgs)
            have SZ : Hid (Il (wr.setCell ⟨gy, q, none⟩ (.int .i64 fa)) (.slice (some ⟨zb, zf, none⟩) m zc) m (fh ss o (k + 1))) := il_kd HZ4.out SK.out (by intro b2 o2 e; injection e with e1; injection e1 with e2; subst e2; exact HNZ.out)
            go_wp2
            go_roundw
            case rel => exact ⟨q + 1, by go_num, by omega, SX.out, ST.out, SB.out, SZ.out⟩
            case measure => simp [intOf]; omega
          · skip
            have ST : Hid ((wr.setCell ⟨gy, q, none⟩ (.int .i64 ma)).ownsRow V2.heap.size 3 1 (.slice (some ⟨gy, 0, none⟩) m yc) m (ils (mxq ss o k (q + 1)) m)) := by
              have h := (World.ownsRow.stored HY4.out q (.int .i64 ma)).1
              rw [ils_put, mxq_put ss o k q (by rw [HE.out, if_neg h3])] at h
              exact h
            have SK : Hid (Kd (fun g => g = gy) wr (wr.setCell ⟨gy, q, none⟩ (.int .i64 ma))) := (Kd.refl (fun g => g = gy) wr).put (.inl rfl) q _
            have SX : Hid ((wr.setCell ⟨gy, q, none⟩ (.int .i64 ma)).ownsRow V.heap.size 31 5 (.slice xo m xc) m (ils (zs (nt ss (fh ss o (k + 1)))) (m * 5))) := own_kd HX4.out SK.out (fun g hg hx => by have := XB.out g hg; omega)
            have SB : Hid (Below V.heap.size V (wr.setCell ⟨gy, q, none⟩ (.int .i64 ma))) := Kd.below HB4.out SK.out HB4.out.size (by rintro g rfl; exact hgs)
            have SZ : Hid (Il (wr.setCell ⟨gy, q, none⟩ (.int .i64 ma)) (.slice (some ⟨zb, zf, none⟩) m zc) m (fh ss o (k + 1))) := il_kd HZ4.out SK.out (by intro b2 o2 e; injection e with e1; injection e1 with e2; subst e2; exact HNZ.out)
            go_wp2
            go_roundw
            case rel => exact ⟨q + 1, by go_num, by omega, SX.out, ST.out, SB.out, SZ.out⟩
            case measure => simp [intOf]; omega
        · obtain rfl : q = m := by omega
          have HX4 : Hid _ := hx
          have HY4 : Hid _ := hy
          have HB4 : Hid _ := hb
          clear hx hy hb hz
          rw [mxq_m] at HY4
          go_wp2
          go_roundw
          case rel => exact ⟨k + 1, by go_num, by omega, HX4.out, HY4.out, HB4.out⟩
          case measure => simp [intOf]; omega
    · obtain rfl : k = N := by omega
      go_wp2
      go_ret2
      exact ⟨_, rfl, own_base HY.out (Nat.le_trans BX.out.size SV.out), bstep BX.out BK.out⟩
end Go.Proofs.Ytlccicbgepfbbaa
