/- Amounts at places. -/
import Derived.Test.YtpjpkkgcnnmljaaRB
import Derived.Test.YtpjpkkgcnnmljaaRM
import Derived.Test.YtpjpkkgcnnmljaaGN
import Derived.Test.YtpjpkkgcnnmljaaI1
import Derived.RegionTactic
import Derived.Deep.RegionWith
import Derived.WalkMore
namespace Go.Proofs.Ytpjpkkgcnnmljaa
open Go.RowKit

theorem idx16 (q : Nat → Nat) {i : Nat} (hi : i < 16) (w : World) : (Instr.index 74 (.agg (scs q)) (.int .i64 (i : Int))).run Try.prog w = .ok (.int .u8 ((q i : Nat) : Int)) w := by
  have h : i = 0 ∨ i = 1 ∨ i = 2 ∨ i = 3 ∨ i = 4 ∨ i = 5 ∨ i = 6 ∨ i = 7 ∨ i = 8 ∨ i = 9 ∨ i = 10 ∨ i = 11 ∨ i = 12 ∨ i = 13 ∨ i = 14 ∨ i = 15 := by omega
  rcases h with rfl | rfl | rfl | rfl | rfl | rfl | rfl | rfl | rfl | rfl | rfl | rfl | rfl | rfl | rfl | rfl
  all_goals rfl

/-- The power of a place. -/
def pwr (n : Nat) (pl : Nat → Nat) (i : Nat) : Nat := gpw (n - 1 - pl i)
theorem pwr_lt (n : Nat) (pl : Nat → Nat) (i : Nat) : pwr n pl i < 256 := gpw_lt _

/-- What amountAt tells. -/
def amt (X : Nat → Nat) (m : Nat) (S : Nat → Nat) (p : Nat) : Nat := gm (gs (fun j => gm (gwo X p m j) (S j)) 16) (giv (gpr X p (X p) m))
theorem amt_lt {X S : Nat → Nat} {m p : Nat} (hX : ∀ i, X i < 256) : amt X m S p < 256 := gm_lt (gs_lt fun j _ => gm_lt ((gwo_ok hX p m).1 j) _) _

theorem gwo_next {X : Nat → Nat} {p k : Nat} (h : k ≠ p) (j : Nat) : ppl (pmv (gwo X p k)) (gwo X p k) (X k) j = gwo X p (k + 1) j := by
  have e : gwo X p (k + 1) = gby (gwo X p k) (X k) := by show (if k = p then _ else _) = _; rw [if_neg h]
  rw [e]
  rfl
theorem gwo_same {X : Nat → Nat} {p k : Nat} (h : k = p) : gwo X p (k + 1) = gwo X p k := by
  show (if k = p then _ else _) = _
  rw [if_pos h]
theorem gpr_next {X : Nat → Nat} {p x k : Nat} (h : k ≠ p) : gm (gpr X p x k) (x ^^^ X k) = gpr X p x (k + 1) := by
  show _ = (if k = p then _ else _)
  rw [if_neg h]
theorem gpr_same {X : Nat → Nat} {p x k : Nat} (h : k = p) : gpr X p x (k + 1) = gpr X p x k := by
  show (if k = p then _ else _) = _
  rw [if_pos h]

theorem bbel {B : Nat} {w X X' : World} (hw : B = w.heap.size) (h : Below B w X) (hb : Below X.heap.size X X') : Below B w X' := h.trans (hb.mono (by rw [hw]; exact h.size))

set_option maxRecDepth 50000 in
set_option maxHeartbeats 16000000 in
theorem amount_any {w : World} {v : Value} {n m p : Nat} {pl S : Nat → Nat} (hv : Il w v m (fun k => (pl k : Int))) (hm : m ≤ 16) (hn : n ≤ 255) (hpl : ∀ k, k < m → pl k < n) (hinj : ∀ i k, i < m → k < m → pl i = pl k → i = k) (hS : ∀ j, S j < 256) (hp : p < m) :
    Calls Try.prog 56 #[.agg (scs S), .int .i64 (n : Int), v, .int .i64 (pl p : Int)] w fun e w' => e = .returned (.int .u8 ((amt (pwr n pl) m S p : Nat) : Int)) ∧ Below w.heap.size w w' := by
  obtain ⟨ao, cap, rfl, hcap, hc⟩ := hv
  have HC : Hid (0 < m → ∃ b off, ao = some ⟨b, off, none⟩ ∧ b < w.heap.size ∧ ∀ k, k < m → w.cell? ⟨b, off + k, none⟩ = some (.int .i64 (pl k : Int))) := hc
  obtain ⟨b, off, hao, hb, hcell⟩ := HC.out (by omega)
  subst hao
  have HCE : Hid (∀ k, k < m → w.cell? ⟨b, off + k, none⟩ = some (.int .i64 (pl k : Int))) := hcell
  have HPL : Hid (∀ k, k < m → pl k < n) := hpl
  have HIN : Hid (∀ i k, i < m → k < m → pl i = pl k → i = k) := hinj
  have HS : Hid (∀ j, S j < 256) := hS
  obtain ⟨X, hX⟩ : ∃ X, X = pwr n pl := ⟨_, rfl⟩
  have HX : Hid (∀ i, X i < 256) := fun i => by rw [hX]; exact pwr_lt _ _ _
  have HXE : Hid (∀ i, i < m → gpw (n - 1 - pl i) = X i) := fun i _ => by rw [hX]; rfl
  have HGO : Hid (amt (pwr n pl) m S p = amt X m S p) := by show _ = _; rw [hX]
  have i1 : ∀ W, Calls Try.prog 63 #[.int .i64 (n : Int), .int .i64 (pl p : Int)] W fun e w' => e = .returned (.int .u8 ((X p : Nat) : Int)) ∧ w' = W := fun W => by
    have := at_any (hpl p hp) hn W
    rw [HXE.out p hp] at this
    exact this
  rw [HGO.out]
  clear hc hcell hpl hinj hS hX HC
  have A0 : Hid (Ar (w.alloc (.cells (scs S) 74)) w.heap.size S) := Ar.box w S 74
  have BL : Hid (Below w.heap.size w (w.alloc (.cells (scs S) 74))) := below_one _ _
  have SZ : (w.alloc (.cells (scs S) 74)).heap.size = w.heap.size + 1 := Array.size_push _
  obtain ⟨B, hB⟩ : ∃ B, B = w.heap.size := ⟨_, rfl⟩
  obtain ⟨G1, hG1⟩ : ∃ G1, G1 = B + 1 := ⟨_, rfl⟩
  rw [← hB] at A0 BL SZ hb
  rw [← hG1] at SZ
  go_enter Try.func56, Try.ntmps56
  go_upto_region 1 with fail
  generalize w.alloc (.cells (scs S) 74) = W at *
  simp only [← hB]
  have h01 : B ≠ G1 := by omega
  have hBL : B ≤ G1 := by omega
  have HB9 : Hid (B = w.heap.size) := hB
  clear hG1 hB
  have B1 : Hid (Pa (W.alloc (.cells pos 81)) G1 pon) := by have := Pa.one W 81; rw [SZ] at this; exact this
  have B0 : Hid (Ar (W.alloc (.cells pos 81)) B S) := A0.out.below (below_one _ _)
  have BM : Hid (Below B w (W.alloc (.cells pos 81))) := by show Below _ _ _; rw [HB9.out]; exact bstep (by rw [← HB9.out]; exact BL.out) (below_one _ _)
  go_upto_region 3 with (first | (go_at_call 63; (with_reducible refine (i1 _).mono ?_); rintro e w' ⟨rfl, hw⟩; obtain rfl := hw.symm))
  try rw [SZ]
  clear A0 BL SZ i1
  generalize W.alloc (.cells pos 81) = W2 at *
  obtain ⟨xp, hxp⟩ : ∃ xp, xp = X p := ⟨_, rfl⟩
  have HXP : Hid (xp = X p) := hxp
  rw [← hxp]
  clear hxp
  go_wp2
  go_loopw [11, 13, 14, 24] (fun vv _ _ iv wr => ∃ i : Nat, iv = .int .i64 (i : Int) ∧ i ≤ m ∧ vv = .int .u8 ((gpr X p xp i : Nat) : Int) ∧ Hid (Ar wr B S ∧ Pa wr G1 (gwo X p i) ∧ Below B w wr)) (fun _ _ _ iv _ => m - (intOf iv).toNat)
  case atStart => exact ⟨0, rfl, by omega, rfl, B0.out, B1.out.congr (fun k _ => rfl), BM.out⟩
  case round =>
    obtain ⟨i, rfl, hi, rfl, HR⟩ := hrel
    clear B0 B1 BM
    by_cases h1 : i < m
    · have ci : wr.cell? ⟨b, off + i, none⟩ = some (.int .i64 (pl i : Int)) := (HR.out.2.2.cell (p := ⟨b, off + i, none⟩) hb).trans (HCE.out i h1)
      by_cases h2 : i = p
      · have h3 : ((pl i : Int) == (pl p : Int)) = true := by subst h2; simp
        have HN : Hid (Ar wr B S ∧ Pa wr G1 (gwo X p (i + 1)) ∧ Below B w wr) := ⟨HR.out.1, by rw [gwo_same h2]; exact HR.out.2.1, HR.out.2.2⟩
        have HG : Hid (gpr X p xp (i + 1) = gpr X p xp i) := gpr_same h2
        have h4 : pl p = pl i := by rw [h2]
        clear HR h2
        rw [h4]
        go_wp2
        go_roundw
        case rel => exact ⟨i + 1, by go_num, by omega, by rw [HG.out], HN.out⟩
        case measure => simp [intOf]; omega
      · have h3 : ((pl i : Int) == (pl p : Int)) = false := by
          have : pl i ≠ pl p := fun e => h2 (HIN.out i p h1 hp e)
          simp; omega
        have i2 : ∀ W, Calls Try.prog 63 #[.int .i64 (n : Int), .int .i64 (pl i : Int)] W fun e w' => e = .returned (.int .u8 ((X i : Nat) : Int)) ∧ w' = W := fun W => by
          have := at_any (HPL.out i h1) hn W
          rw [HXE.out i h1] at this
          exact this
        go_upto_region 8 with (first | (go_at_call 63; (with_reducible refine (i2 _).mono ?_); rintro e w' ⟨rfl, hw⟩; obtain rfl := hw.symm))
        obtain ⟨f, hf⟩ : ∃ f, f = gwo X p i := ⟨_, rfl⟩
        have HFL : Hid (∀ k, f k < 256) := fun k => by rw [hf]; exact (gwo_ok HX.out p i).1 k
        have P0 : Hid (Pa wr.drew G1 f) := by show Pa _ _ _; rw [hf]; exact HR.out.2.1.below (Below.refl _ _).drew
        have A0 : Hid (Ar wr.drew B S) := HR.out.1.below (Below.refl _ _).drew
        have L0 : Hid (Below B w wr.drew) := HR.out.2.2.drew
        have HGW : Hid (∀ k, ppl (pmv f) f (X i) k = gwo X p (i + 1) k) := fun k => by rw [hf]; exact gwo_next h2 k
        obtain ⟨xi, hxi⟩ : ∃ xi, xi = X i := ⟨_, rfl⟩
        have HXI : Hid (xi = X i) := hxi
        have HGP : Hid (gm (gpr X p xp i) (xp ^^^ xi) = gpr X p xp (i + 1)) := by show _ = _; rw [hxi]; exact gpr_next h2
        have hxl : xi < 256 := by rw [hxi]; exact HX.out i
        have hxp : xp < 256 := by rw [HXP.out]; exact HX.out p
        have hx9 := xor_u8 hxp hxl
        have i9 := times_any (a := gpr X p xp i) (b := xp ^^^ xi) gpr_lt (xor_lt8 hxp hxl)
        rw [HGP.out] at i9
        have HGW : Hid (∀ k, ppl (pmv f) f xi k = gwo X p (i + 1) k) := by show ∀ k, _; rw [hxi]; exact HGW.out
        rw [← hxi]
        have HMV : Hid (∀ k, pmv f k < 256) := fun k => by unfold pmv; split; omega; exact HFL.out _
        clear hxi hf HR i2
        refine wp_region_any (by kernel_rfl) ?_
        change wpAny _ _ _ _ _ _ _ (World.drew _)
        generalize wr.drew = W0 at *
        refine wpI_any (I := fun _ => True) _ _ _ _ ?_
        refine wpI_take (i := 3) (v := ?_) rfl (by kernel_rfl) (by kernel_rfl) (by kernel_rfl) (fun _ _ _ h => h) ⟨by rfl, ?_⟩ ?_
        rotate_left
        · intro X hI; go_simp; try go_bits
          try rw [if_pos (by omega)]
          try with_reducible rfl
        refine wpI_two (i := 0) (j := 2) rfl rfl (by kernel_rfl) trivial (by rfl) (by rfl) ?_ ?_
        · intro K hK
          refine P0.out.oload _ rfl rfl ?_
          refine hK _ _ ?_
          refine wpI_two (i := 1) (j := 2) rfl rfl (by kernel_rfl) trivial (by rfl) (by rfl) ?_ ?_
          · intro K hK
            go_simp
            go_wp2_with (go_at_call 64; (refine (moved_any f W0).mono ?_); rintro e x1 ⟨rfl, hb1⟩; have P1 : Hid (Pa x1 G1 f) := P0.out.below hb1; have A1 : Hid (Ar x1 B S) := A0.out.below hb1; have L1 : Hid (Below B w x1) := bbel HB9.out L0.out hb1; clear hb1)
            refine wpI_only (i := 2) rfl (by kernel_rfl) trivial (by rfl) ?_
            intro K hK
            refine P1.out.oload _ rfl rfl ?_
            refine hK _ _ ?_
            refine wpI_only (i := 4) rfl (by kernel_rfl) trivial (by rfl) ?_
            intro K hK
            go_simp
            go_wp2_with (go_at_call 65; (refine (plus_any HMV.out HFL.out hxl x1).mono ?_); rintro e x2 ⟨rfl, hb2⟩; have P2 : Hid (Pa x2 G1 f) := P1.out.below hb2; have A2 : Hid (Ar x2 B S) := A1.out.below hb2; have L2 : Hid (Below B w x2) := bbel HB9.out L1.out hb2; clear hb2)
            refine wpI_only (i := 5) rfl (by kernel_rfl) trivial (by rfl) ?_
            intro K hK
            refine P2.out.ostore (ppl (pmv f) f xi) _ _ rfl rfl rfl ?_
            refine hK _ _ ?_
            have P5 : Hid (Pa (Pa.st x2 G1 (ppl (pmv f) f xi)) G1 (gwo X p (i + 1))) := (P2.out.stored _).congr (fun k _ => HGW.out k)
            have A5 : Hid (Ar (Pa.st x2 G1 (ppl (pmv f) f xi)) B S) := A2.out.block (Pa.st_block _ h01)
            have L5 : Hid (Below B w (Pa.st x2 G1 (ppl (pmv f) f xi))) := Pa.st_below _ L2.out hBL
            generalize Pa.st x2 G1 (ppl (pmv f) f xi) = x5 at *
            refine wpI_done trivial (by kernel_rfl) ?_ _
            go_wp2_with (first | (go_at_call 66; (with_reducible refine (i9 _).mono ?_); rintro e w' ⟨rfl, hw⟩; obtain rfl := hw.symm))
            go_roundw
            case rel => exact ⟨i + 1, by go_num, by omega, rfl, A5.out, P5.out, L5.out⟩
            case measure => simp [intOf]; omega
          · intro K hK
            refine P0.out.oload _ rfl rfl ?_
            refine hK _ _ ?_
            refine wpI_only (i := 1) rfl (by kernel_rfl) trivial (by rfl) ?_
            intro K hK
            go_simp
            go_wp2_with (go_at_call 64; (refine (moved_any f W0).mono ?_); rintro e x1 ⟨rfl, hb1⟩; have P1 : Hid (Pa x1 G1 f) := P0.out.below hb1; have A1 : Hid (Ar x1 B S) := A0.out.below hb1; have L1 : Hid (Below B w x1) := bbel HB9.out L0.out hb1; clear hb1)
            refine wpI_only (i := 4) rfl (by kernel_rfl) trivial (by rfl) ?_
            intro K hK
            go_simp
            go_wp2_with (go_at_call 65; (refine (plus_any HMV.out HFL.out hxl x1).mono ?_); rintro e x2 ⟨rfl, hb2⟩; have P2 : Hid (Pa x2 G1 f) := P1.out.below hb2; have A2 : Hid (Ar x2 B S) := A1.out.below hb2; have L2 : Hid (Below B w x2) := bbel HB9.out L1.out hb2; clear hb2)
            refine wpI_only (i := 5) rfl (by kernel_rfl) trivial (by rfl) ?_
            intro K hK
            refine P2.out.ostore (ppl (pmv f) f xi) _ _ rfl rfl rfl ?_
            refine hK _ _ ?_
            have P5 : Hid (Pa (Pa.st x2 G1 (ppl (pmv f) f xi)) G1 (gwo X p (i + 1))) := (P2.out.stored _).congr (fun k _ => HGW.out k)
            have A5 : Hid (Ar (Pa.st x2 G1 (ppl (pmv f) f xi)) B S) := A2.out.block (Pa.st_block _ h01)
            have L5 : Hid (Below B w (Pa.st x2 G1 (ppl (pmv f) f xi))) := Pa.st_below _ L2.out hBL
            generalize Pa.st x2 G1 (ppl (pmv f) f xi) = x5 at *
            refine wpI_done trivial (by kernel_rfl) ?_ _
            go_wp2_with (first | (go_at_call 66; (with_reducible refine (i9 _).mono ?_); rintro e w' ⟨rfl, hw⟩; obtain rfl := hw.symm))
            go_roundw
            case rel => exact ⟨i + 1, by go_num, by omega, rfl, A5.out, P5.out, L5.out⟩
            case measure => simp [intOf]; omega
        · intro K hK
          refine P0.out.oload _ rfl rfl ?_
          refine hK _ _ ?_
          refine wpI_only (i := 0) rfl (by kernel_rfl) trivial (by rfl) ?_
          intro K hK
          refine P0.out.oload _ rfl rfl ?_
          refine hK _ _ ?_
          refine wpI_only (i := 1) rfl (by kernel_rfl) trivial (by rfl) ?_
          intro K hK
          go_simp
          go_wp2_with (go_at_call 64; (refine (moved_any f W0).mono ?_); rintro e x1 ⟨rfl, hb1⟩; have P1 : Hid (Pa x1 G1 f) := P0.out.below hb1; have A1 : Hid (Ar x1 B S) := A0.out.below hb1; have L1 : Hid (Below B w x1) := bbel HB9.out L0.out hb1; clear hb1)
          refine wpI_only (i := 4) rfl (by kernel_rfl) trivial (by rfl) ?_
          intro K hK
          go_simp
          go_wp2_with (go_at_call 65; (refine (plus_any HMV.out HFL.out hxl x1).mono ?_); rintro e x2 ⟨rfl, hb2⟩; have P2 : Hid (Pa x2 G1 f) := P1.out.below hb2; have A2 : Hid (Ar x2 B S) := A1.out.below hb2; have L2 : Hid (Below B w x2) := bbel HB9.out L1.out hb2; clear hb2)
          refine wpI_only (i := 5) rfl (by kernel_rfl) trivial (by rfl) ?_
          intro K hK
          refine P2.out.ostore (ppl (pmv f) f xi) _ _ rfl rfl rfl ?_
          refine hK _ _ ?_
          have P5 : Hid (Pa (Pa.st x2 G1 (ppl (pmv f) f xi)) G1 (gwo X p (i + 1))) := (P2.out.stored _).congr (fun k _ => HGW.out k)
          have A5 : Hid (Ar (Pa.st x2 G1 (ppl (pmv f) f xi)) B S) := A2.out.block (Pa.st_block _ h01)
          have L5 : Hid (Below B w (Pa.st x2 G1 (ppl (pmv f) f xi))) := Pa.st_below _ L2.out hBL
          generalize Pa.st x2 G1 (ppl (pmv f) f xi) = x5 at *
          refine wpI_done trivial (by kernel_rfl) ?_ _
          go_wp2_with (first | (go_at_call 66; (with_reducible refine (i9 _).mono ?_); rintro e w' ⟨rfl, hw⟩; obtain rfl := hw.symm))
          go_roundw
          case rel => exact ⟨i + 1, by go_num, by omega, rfl, A5.out, P5.out, L5.out⟩
          case measure => simp [intOf]; omega
    · obtain rfl : i = m := by omega
      have P7 : Hid (Pa wr G1 (gwo X p i)) := HR.out.2.1
      have L7 : Hid (Below B w wr) := HR.out.2.2
      have A7 : Hid (Ar wr B S) := HR.out.1
      clear HR
      go_upto_region 12 with fail
      refine wp_region_list ?_
      refine A7.out.wload rfl _ rfl rfl ?_
      obtain ⟨W7, rfl⟩ : ∃ W7, W7 = wr := ⟨_, rfl⟩
      go_wp2
      go_loopw [15, 16, 17, 46] (fun sv _ _ jv wr => ∃ j : Nat, jv = .int .i64 (j : Int) ∧ j ≤ 16 ∧ sv = .int .u8 ((gs (fun j => gm (gwo X p i j) (S j)) j : Nat) : Int) ∧ W7 = wr) (fun _ _ _ jv _ => 16 - (intOf jv).toNat)
      case atStart => exact ⟨0, rfl, by omega, rfl, rfl⟩
      case round =>
        obtain ⟨j, rfl, hj, rfl, rfl⟩ := hrel
        by_cases h2 : j < 16
        · have cj := P7.out.c j (by omega)
          have hgl : gwo X p i j < 256 := (gwo_ok HX.out p i).1 j
          have it := times_any hgl (HS.out j)
          have hsl : gs (fun j => gm (gwo X p i j) (S j)) j < 256 := gs_lt (fun k _ => gm_lt ((gwo_ok HX.out p i).1 k) _)
          have hx := xor_u8 hsl (gm_lt hgl (S j))
          have ix := idx16 S h2 W7
          have eN : ((gs (fun j => gm (gwo X p i j) (S j)) j ^^^ gm (gwo X p i j) (S j) : Nat) : Int) = ((gs (fun j => gm (gwo X p i j) (S j)) (j + 1) : Nat) : Int) := rfl
          rw [eN] at hx
          clear eN hsl hgl
          obtain ⟨s1, hs1⟩ : ∃ s1, s1 = gs (fun j => gm (gwo X p i j) (S j)) (j + 1) := ⟨_, rfl⟩
          rw [← hs1] at hx
          have HS1 : Hid (Value.int .u8 ((s1 : Nat) : Int) = .int .u8 ((gs (fun j => gm (gwo X p i j) (S j)) (j + 1) : Nat) : Int)) := by show _ = _; rw [hs1]
          clear hs1
          generalize gs (fun j => gm (gwo X p i j) (S j)) j = s0 at *
          go_wp2_with (first | (go_at_call 66; (with_reducible refine (it _).mono ?_); rintro e w' ⟨rfl, hw⟩; obtain rfl := hw.symm))
          go_roundw
          case rel => exact ⟨j + 1, by go_num, by omega, HS1.out, (by first | exact rfl | trivial)⟩
          case measure => simp [intOf]; omega
        · obtain rfl : j = 16 := by omega
          have hgl : gpr X p xp i < 256 := gpr_lt
          have ii := inv_any hgl
          have hsl : gs (fun j => gm (gwo X p i j) (S j)) 16 < 256 := gs_lt (fun k _ => gm_lt ((gwo_ok HX.out p i).1 k) _)
          have it := times_any hsl (giv_lt (gpr X p xp i))
          have eN : gm (gs (fun j => gm (gwo X p i j) (S j)) 16) (giv (gpr X p xp i)) = amt X i S p := by rw [HXP.out]; rfl
          rw [eN] at it
          clear eN hsl hgl
          go_wp2_with (first | (go_at_call 67; (with_reducible refine (ii _).mono ?_); rintro e w' ⟨rfl, hw⟩; obtain rfl := hw.symm) | (go_at_call 66; (with_reducible refine (it _).mono ?_); rintro e w' ⟨rfl, hw⟩; obtain rfl := hw.symm))
          go_ret
          exact ⟨rfl, by rw [← HB9.out]; exact L7.out⟩
end Go.Proofs.Ytpjpkkgcnnmljaa
