/- The shortest rule. -/
import Derived.Test.YtamcpmclnjngcaaRJ
import Derived.RegionTactic
import Derived.Deep.RegionWith
import Derived.WalkMore
import Derived.BigQuiet
namespace Go.Proofs.Ytamcpmclnjngcaa
open Go.RowKit

theorem Pa.yi {ops : Array Oper} {I : World → Prop} {o : Oper} {a : Act} {G : Nat} {f : Nat → Nat} (hw : Region.wanted o (yielded ops a.tmps) = true) (x : Operand) (ho : o.op = .load 49 x) (hx : a.eval x = .pointer (some ⟨G, 0, none⟩)) (hS : ∀ w, I w → Pa w G f) : YI Try.prog ops I o (.agg (pcs f)) a :=
  ⟨hw, fun w hI => by
    unfold execOp
    simp only [ho, hx, Instr.loadAt, Instr.sureAddr, Sem.run_bind, Sem.run_pure, Result.andThen_ok, (hS w hI).load]⟩

/-- The arrays of ruleOf: the signs, the result's, the rule, the rule before. -/
structure Rl (w wr : World) (B GR GC GB : Nat) (A c b : Nat → Nat) : Prop where
  a : Ar wr B A
  r : Pa wr GR (fun _ => 0)
  c : Pa wr GC c
  b : Pa wr GB b
  l : Below B w wr
theorem Rl.step {w wr w' : World} {B GR GC GB : Nat} {A c b : Nat → Nat} (h : Rl w wr B GR GC GB A c b) (hw : B = w.heap.size) (hb : Below wr.heap.size wr w') : Rl w w' B GR GC GB A c b :=
  ⟨h.a.below hb, h.r.below hb, h.c.below hb, h.b.below hb, bbel hw h.l hb⟩
theorem Rl.putb {w wr : World} {B GR GC GB : Nat} {A c b : Nat → Nat} (h : Rl w wr B GR GC GB A c b) (g : Nat → Nat) (h1 : B < GB) (h2 : GR ≠ GB) (h3 : GC ≠ GB) : Rl w (Pa.st wr GB g) B GR GC GB A c g :=
  ⟨h.a.block (Pa.st_block g (by omega)), h.r.block (Pa.st_block g h2), h.c.block (Pa.st_block g h3), h.b.stored g, Pa.st_below g h.l (by omega)⟩
theorem Rl.putc {w wr : World} {B GR GC GB : Nat} {A c b : Nat → Nat} (h : Rl w wr B GR GC GB A c b) (g : Nat → Nat) (h1 : B < GC) (h2 : GR ≠ GC) (h3 : GB ≠ GC) : Rl w (Pa.st wr GC g) B GR GC GB A g b :=
  ⟨h.a.block (Pa.st_block g (by omega)), h.r.block (Pa.st_block g h2), h.c.stored g, h.b.block (Pa.st_block g h3), Pa.st_below g h.l (by omega)⟩

set_option maxRecDepth 50000 in
set_option maxHeartbeats 16000000 in
theorem rule_any {A S : Nat → Nat} {t : Nat} (hS : ∀ k, S k < 256) (hA : ∀ k, k < 2 * t → A k = S k) (ht : t ≤ 8) (w : World) :
    Calls Try.prog 34 #[.agg (scs A), .int .i64 (t : Int)] w fun e w' => ∃ c b L, Bm S c b L (2 * t) ∧ e = .returned (pgv c) ∧ Below w.heap.size w w' := by
  have A0 : Hid (Ar ((w.alloc (.cells (scs A) 45)).alloc (.cells pzs 49)) w.heap.size A) := (Ar.box w A 45).below (below_one _ _)
  have s1 : (w.alloc (.cells (scs A) 45)).heap.size = w.heap.size + 1 := Array.size_push _
  have s2 : ((w.alloc (.cells (scs A) 45)).alloc (.cells pzs 49)).heap.size = w.heap.size + 2 := by simp
  have A1 : Hid (Pa ((w.alloc (.cells (scs A) 45)).alloc (.cells pzs 49)) (w.heap.size + 1) (fun _ => 0)) := by
    have := Pa.zero (w.alloc (.cells (scs A) 45)) 49
    rw [s1] at this
    exact this
  have BL : Hid (Below w.heap.size w ((w.alloc (.cells (scs A) 45)).alloc (.cells pzs 49))) := bstep (below_one _ _) (below_one _ _)
  obtain ⟨B, hB⟩ : ∃ B, B = w.heap.size := ⟨_, rfl⟩
  obtain ⟨GR, hGR⟩ : ∃ GR, GR = B + 1 := ⟨_, rfl⟩
  obtain ⟨GC, hGC⟩ : ∃ GC, GC = B + 2 := ⟨_, rfl⟩
  obtain ⟨GB, hGB⟩ : ∃ GB, GB = B + 2 + 1 := ⟨_, rfl⟩
  rw [← hB] at A0 A1 BL s2
  rw [← hGR] at A1
  rw [← hGC] at s2
  have HS : Hid (∀ k, S k < 256) := hS
  have HA : Hid (∀ k, k < 2 * t → A k = S k) := hA
  clear hS hA s1
  go_enter Try.func34, Try.ntmps34
  go_upto_region 1 with fail
  generalize (w.alloc (.cells (scs A) 45)).alloc (.cells pzs 49) = W at *
  simp only [← hB]
  rw [← hGR]
  have HB9 : Hid (B = w.heap.size) := hB
  have hBC : B < GC := by omega
  have hBB : B < GB := by omega
  have hRC : GR ≠ GC := by omega
  have hRB : GR ≠ GB := by omega
  have hCB : GC ≠ GB := by omega
  have hBR : B ≤ GR := by omega
  have HGB : Hid (GB = GC + 1) := by show _ = _; omega
  clear hB hGR hGC hGB
  refine wp_region_list ?_
  refine wpList_plain rfl fun K hK => ?_
  go_simp
  refine hK _ _ ?_
  refine wpList_plain rfl fun K hK => ?_
  go_simp
  refine hK _ _ ?_
  refine wpList_plain rfl fun K hK => ?_
  go_simp
  refine hK _ _ ?_
  refine wpList_plain rfl fun K hK => ?_
  go_simp
  refine hK _ _ ?_
  have s3 : (W.alloc (.cells pzs 49)).heap.size = GB := by rw [show (W.alloc (.cells pzs 49)).heap.size = W.heap.size + 1 from Array.size_push _, s2, HGB.out]
  have C0 : Hid (Pa ((W.alloc (.cells pzs 49)).alloc (.cells pzs 49)) GC (fun _ => 0)) := by have := (Pa.zero W 49).below (below_one _ (.cells pzs 49)); rw [s2] at this; exact this
  have D0 : Hid (Pa ((W.alloc (.cells pzs 49)).alloc (.cells pzs 49)) GB (fun _ => 0)) := by have := Pa.zero (W.alloc (.cells pzs 49)) 49; rw [s3] at this; exact this
  have A0' : Hid (Ar ((W.alloc (.cells pzs 49)).alloc (.cells pzs 49)) B A) := (A0.out.below (below_one _ _)).below (below_one _ _)
  have A1' : Hid (Pa ((W.alloc (.cells pzs 49)).alloc (.cells pzs 49)) GR (fun _ => 0)) := (A1.out.below (below_one _ _)).below (below_one _ _)
  have BL' : Hid (Below B w ((W.alloc (.cells pzs 49)).alloc (.cells pzs 49))) := bbel HB9.out (bbel HB9.out BL.out (below_one _ _)) (below_one _ _)
  have R0 : Hid (Rl w ((W.alloc (.cells pzs 49)).alloc (.cells pzs 49)) B GR GC GB A (fun _ => 0) (fun _ => 0)) := ⟨A0'.out, A1'.out, C0.out, D0.out, BL'.out⟩
  clear A0 A1 BL A0' A1' BL' C0 D0
  rw [← HGB.out]
  generalize (W.alloc (.cells pzs 49)).alloc (.cells pzs 49) = W3 at *
  clear s2 s3 HGB
  refine R0.out.c.wstore pon rfl _ _ rfl rfl rfl ?_
  have R1 : Hid (Rl w (Pa.st W3 GC pon) B GR GC GB A pon (fun _ => 0)) := R0.out.putc pon hBC hRC hCB.symm
  generalize Pa.st W3 GC pon = W4 at *
  refine R1.out.b.wstore pon rfl _ _ rfl rfl rfl ?_
  have R2 : Hid (Rl w (Pa.st W4 GB pon) B GR GC GB A pon pon) := R1.out.putb pon hBB hRB hCB
  generalize Pa.st W4 GB pon = W5 at *
  clear R0 R1
  have hBm0 : Hid (Bm S pon pon 0 0) := Bm.start S
  go_wp2
  go_loopw [7, 8, 9, 10, 15] (fun lv _ _ _ iv wr => ∃ (N L : Nat) (c b : Nat → Nat), iv = .int .i64 (N : Int) ∧ N ≤ 2 * t ∧ lv = .int .i64 (L : Int) ∧ L ≤ N ∧ Hid (Bm S c b L N ∧ Rl w wr B GR GC GB A c b)) (fun _ _ _ _ iv _ => 2 * t - (intOf iv).toNat)
  case atStart => exact ⟨0, 0, pon, pon, rfl, by omega, rfl, by omega, hBm0.out, R2.out⟩
  case round =>
    obtain ⟨N, L, c, b, rfl, hN, rfl, hL, HR⟩ := hrel
    clear R2 hBm0
    by_cases h1 : N < 2 * t
    · have hcl : Hid (∀ k, c k < 256) := HR.out.1.cl
      have hbl : Hid (∀ k, b k < 256) := HR.out.1.bl
      have hml : Hid (∀ k, mv b k < 256) := mv_lt HR.out.1.bl
      have R0 : Hid (Rl w wr B GR GC GB A c b) := HR.out.2
      have HHIT : Hid (cv c S N = 0 → Bm S c (mv b) L (N + 1)) := fun h => HR.out.1.hit h
      have HMEN : Hid (N < 2 * L → Bm S (fun i => c i ^^^ gm (cv c S N) (mv b i)) (mv b) L (N + 1)) := fun h => HR.out.1.mend HS.out h
      have HGRO : Hid (∀ v, 2 * L ≤ N → cv c S N ≠ 0 → v < 256 → gm v (cv c S N) = 1 → Bm S (fun i => c i ^^^ gm (cv c S N) (mv b i)) (fun i => gm v (c i)) (N + 1 - L) (N + 1)) := fun v h1 h2 h3 h4 => HR.out.1.grow HS.out h1 h2 h3 h4
      clear HR
      go_upto_region 5 with fail
      refine wp_region_list ?_
      refine R0.out.b.wload rfl _ rfl rfl ?_
      have imv := moved_any b wr
      have hpm : pmv b = mv b := rfl
      rw [hpm] at imv
      clear hpm
      generalize mv b = b1 at *
      refine wpList_plain rfl fun K hK => ?_
      have HK : Hid _ := hK
      clear hK
      go_simp
      go_wp2_with (go_at_call 53; (refine imv.mono ?_); rintro e x1 ⟨rfl, hb1⟩; have R1 : Hid (Rl w x1 B GR GC GB A c b) := R0.out.step HB9.out hb1; clear hb1)
      refine HK.out _ _ ?_
      refine R1.out.b.wstore b1 rfl _ _ rfl rfl rfl ?_
      have R2 : Hid (Rl w (Pa.st x1 GB b1) B GR GC GB A c b1) := R1.out.putb b1 hBB hRB hCB
      generalize Pa.st x1 GB b1 = x2 at *
      clear R0 R1
      go_upto_region 6 with fail
      refine wp_region_list ?_
      refine R2.out.a.wload rfl _ rfl rfl ?_
      refine R2.out.c.wload rfl _ rfl rfl ?_
      have im := miss_any (c := c) hcl.out HS.out (fun k hk => HA.out k (by omega)) (show N ≤ 15 by omega) x2
      obtain ⟨d, hd⟩ : ∃ d, d = cv c S N := ⟨_, rfl⟩
      have HD : Hid (d = cv c S N) := hd
      rw [← hd] at im
      have hdl : d < 256 := by rw [hd]; exact gs_lt (fun i _ => gm_lt (hcl.out i) _)
      clear hd
      by_cases h2 : d = 0
      · subst h2
        have HB2 : Hid (Bm S c b1 L (N + 1)) := HHIT.out HD.out.symm
        go_wp2_with (go_at_call 54; (refine im.mono ?_); rintro e x3 ⟨rfl, hb3⟩; have R3 : Hid (Rl w x3 B GR GC GB A c b1) := R2.out.step HB9.out hb3; clear hb3)
        go_roundw
        case rel => exact ⟨N + 1, L, c, b1, by go_num, by omega, rfl, by omega, HB2.out, R3.out⟩
        case measure => simp [intOf]; omega
      · have h3 : (((d : Nat) : Int) == 0) = false := by simp; omega
        have h3' : ¬ (((d : Nat) : Int) = 0) := by omega
        go_upto_region 8 with (first | (go_at_call 54; (refine im.mono ?_); rintro e x3 ⟨rfl, hb3⟩; have R3 : Hid (Rl w x3 B GR GC GB A c b1) := R2.out.step HB9.out hb3; clear hb3))
        clear R2 im
        refine wp_region_list ?_
        refine R3.out.c.wload rfl _ rfl rfl ?_
        refine R3.out.b.wload rfl _ rfl rfl ?_
        have ip := plus_any hcl.out hml.out hdl x3
        obtain ⟨c', hc'⟩ : ∃ c', c' = ppl c b1 d := ⟨_, rfl⟩
        rw [← hc'] at ip
        have HC' : Hid (c' = fun i => c i ^^^ gm (cv c S N) (b1 i)) := by
          show _ = _
          rw [hc', ← HD.out]
          funext i
          show c i ^^^ gm (b1 i) d = _
          rw [gm_comm (hml.out i) hdl]
        clear hc'
        go_upto_region 9 with (first | (go_at_call 55; (refine ip.mono ?_); rintro e x4 ⟨rfl, hb4⟩; have R4 : Hid (Rl w (x4.alloc (.cells (pcs c') 49)) B GR GC GB A c b1) := (R3.out.step HB9.out hb4).step HB9.out (below_one _ _); have P4 : Hid (Pa (x4.alloc (.cells (pcs c') 49)) x4.heap.size c') := Pa.box x4 c' 49; have hx4 : Hid (GC < x4.heap.size ∧ GB < x4.heap.size) := ⟨(R3.out.step HB9.out hb4).c.lt, (R3.out.step HB9.out hb4).b.lt⟩; clear hb4))
        obtain ⟨G5, hG5⟩ : ∃ G5, G5 = x4.heap.size := ⟨_, rfl⟩
        rw [← hG5] at P4 hx4
        simp only [← hG5]
        generalize x4.alloc (.cells (pcs c') 49) = x5 at *
        clear R3 ip hG5
        have hCG : GC ≠ G5 := by have := hx4.out.1; omega
        have hBG : GB ≠ G5 := by have := hx4.out.2; omega
        have hLN : Hid (L ≤ N) := hL
        by_cases h4 : 2 * L ≤ N
        · have h5 : decide (2 * (L : Int) ≤ (N : Int)) = true := by simp; omega
          have hv1 : gm (giv d) (cv c S N) = 1 := by rw [← HD.out, gm_comm (giv_lt d) hdl]; exact giv_ok hdl h2
          have HBN : Hid (Bm S c' (fun i => gm (giv d) (c i)) (N + 1 - L) (N + 1)) := by
            show Bm _ _ _ _ _
            rw [HC'.out]
            exact HGRO.out (giv d) h4 (by rw [← HD.out]; exact h2) (giv_lt d) hv1
          obtain ⟨b2, hb2⟩ : ∃ b2, b2 = fun i => gm (giv d) (c i) := ⟨_, rfl⟩
          rw [← hb2] at HBN
          have iv := inv_any hdl
          have ip6 : ∀ W, Calls Try.prog 55 #[pgv (fun _ => 0), pgv c, .int .u8 ((giv d : Nat) : Int)] W fun e w' => e = .returned (pgv b2) ∧ Below W.heap.size W w' := fun W => by
            have := plus_any (p := fun _ => 0) (fun _ => by decide) hcl.out (giv_lt d) W
            have e9 : ppl (fun _ => 0) c (giv d) = b2 := by
              rw [hb2]
              funext i
              show 0 ^^^ gm (c i) (giv d) = _
              rw [Nat.zero_xor, gm_comm (hcl.out i) (giv_lt d)]
            rw [e9] at this
            exact this
          have R6 : Hid (Rl w x5.drew B GR GC GB A c b1) := R4.out.step HB9.out (Below.refl _ _).drew
          have P6 : Hid (Pa x5.drew G5 c') := P4.out.below (Below.refl _ _).drew
          clear R4 P4 hb2 hv1
          generalize giv d = vd at *
          obtain ⟨L2, hL2⟩ : ∃ L2 : Nat, L2 = N + 1 - L := ⟨_, rfl⟩
          rw [← hL2] at HBN
          have hL3 : (N : Int) + 1 - (L : Int) = (L2 : Int) := by omega
          have hL4 : L2 ≤ N + 1 := by omega
          clear hL2
          go_upto_region 10 with fail
          refine wp_region_any (by kernel_rfl) ?_
          change wpAny _ _ _ _ _ _ _ (World.drew _)
          generalize x5.drew = x6 at *
          refine wpI_any (I := fun X => Pa X GC c) _ _ _ _ ?_
          refine wpI_take (i := 1) (v := .agg (pcs c)) rfl (by kernel_rfl) (by kernel_rfl) (by kernel_rfl) (fun _ _ _ h => h) (Pa.yi rfl (.tmp 5) rfl rfl (fun X h => h)) ?_
          refine wpI_take (i := 0) (v := ?_) rfl (by kernel_rfl) (by kernel_rfl) (by kernel_rfl) (fun _ _ _ h => h) ⟨by rfl, ?_⟩ ?_
          rotate_left
          · intro X hI; go_simp; try go_bits
            try rw [if_pos (by omega)]
            try with_reducible rfl
          refine wpI_take (i := 2) (v := ?_) rfl (by kernel_rfl) (by kernel_rfl) (by kernel_rfl) (fun _ _ _ h => h) ⟨by rfl, ?_⟩ ?_
          rotate_left
          · intro X hI; go_simp; try go_bits
            try rw [if_pos (by omega)]
            try with_reducible rfl
          refine wpI_take (i := 5) (v := ?_) rfl (by kernel_rfl) (by kernel_rfl) (by kernel_rfl) (fun _ _ _ h => h) ⟨by rfl, ?_⟩ ?_
          rotate_left
          · intro X hI; go_simp; try go_bits
            try rw [if_pos (by omega)]
            try with_reducible rfl
          refine wpI_take (i := 6) (v := ?_) rfl (by kernel_rfl) (by kernel_rfl) (by kernel_rfl) (fun _ _ _ h => h) ⟨by rfl, ?_⟩ ?_
          rotate_left
          · intro X hI; go_simp; try go_bits
            try rw [if_pos (by omega)]
            try with_reducible rfl
          refine wpI_take (i := 7) (v := ?_) rfl (by kernel_rfl) (by kernel_rfl) (by kernel_rfl) (fun _ _ _ h => h) ⟨by rfl, ?_⟩ ?_
          rotate_left
          · intro X hI; go_simp; try go_bits
            try rw [if_pos (by omega)]
            try with_reducible rfl
          refine wpI_take (i := 8) (v := ?_) rfl (by kernel_rfl) (by kernel_rfl) (by kernel_rfl) (fun _ _ _ h => h) ⟨by rfl, ?_⟩ ?_
          rotate_left
          · intro X hI; go_simp; try go_bits
            try rw [if_pos (by omega)]
            try with_reducible rfl
          refine wpI_only (i := 3) rfl (by kernel_rfl) R6.out.c (by rfl) ?_
          intro K hK
          go_simp
          go_wp2_with (go_at_call 56; (with_reducible refine (iv _).mono ?_); rintro e w' ⟨rfl, hw⟩; obtain rfl := hw.symm)
          refine wpI_only (i := 4) rfl (by kernel_rfl) R6.out.c (by rfl) ?_
          intro K hK
          go_simp
          go_wp2_with (go_at_call 55; (refine (ip6 x6).mono ?_); rintro e x7 ⟨rfl, hb7⟩; have R7 : Hid (Rl w x7 B GR GC GB A c b1) := R6.out.step HB9.out hb7; have P7 : Hid (Pa x7 G5 c') := P6.out.below hb7; clear hb7)
          refine wpI_only (i := 9) rfl (by kernel_rfl) R7.out.c (by rfl) ?_
          intro K hK
          refine R7.out.b.ostore b2 (.tmp 6) (.tmp 38) rfl (by go_simp) (by go_simp) ?_
          refine hK _ _ ?_
          have R8 : Hid (Rl w (Pa.st x7 GB b2) B GR GC GB A c b2) := R7.out.putb b2 hBB hRB hCB
          have P8 : Hid (Pa (Pa.st x7 GB b2) G5 c') := P7.out.block (Pa.st_block b2 hBG.symm)
          generalize Pa.st x7 GB b2 = x8 at *
          refine wpI_only (i := 10) rfl (by kernel_rfl) R8.out.c (by rfl) ?_
          intro K hK
          go_simp
          refine hK _ _ ?_
          refine wpI_done R8.out.c (by kernel_rfl) ?_ _
          go_upto_region 11 with fail
          refine wp_region_list ?_
          refine P8.out.wload rfl _ rfl rfl ?_
          refine R8.out.c.wstore c' rfl _ _ rfl rfl rfl ?_
          have R9 : Hid (Rl w (Pa.st x8 GC c') B GR GC GB A c' b2) := R8.out.putc c' hBC hRC hCB.symm
          generalize Pa.st x8 GC c' = x9 at *
          go_wp2
          go_roundw
          case rel => exact ⟨N + 1, L2, c', b2, by go_num, by omega, by first | rfl | go_num, by omega, HBN.out, R9.out⟩
          case measure => simp [intOf]; omega
        · have h5 : decide (2 * (L : Int) ≤ (N : Int)) = false := by simp; omega
          have HBN : Hid (Bm S c' b1 L (N + 1)) := by
            show Bm _ _ _ _ _
            rw [HC'.out]
            exact HMEN.out (by omega)
          go_upto_region 11 with fail
          refine wp_region_list ?_
          refine P4.out.wload rfl _ rfl rfl ?_
          refine R4.out.c.wstore c' rfl _ _ rfl rfl rfl ?_
          have R9 : Hid (Rl w (Pa.st x5 GC c') B GR GC GB A c' b1) := R4.out.putc c' hBC hRC hCB.symm
          generalize Pa.st x5 GC c' = x9 at *
          go_wp2
          go_roundw
          case rel => exact ⟨N + 1, L, c', b1, by go_num, by omega, by first | rfl | go_num, by omega, HBN.out, R9.out⟩
          case measure => simp [intOf]; omega
    · obtain rfl : N = 2 * t := by omega
      have R0 : Hid (Rl w wr B GR GC GB A c b) := HR.out.2
      have HBM : Hid (Bm S c b L (2 * t)) := HR.out.1
      clear HR
      go_upto_region 13 with fail
      refine wp_region_list ?_
      refine R0.out.c.wload rfl _ rfl rfl ?_
      refine R0.out.r.wstore c rfl _ _ rfl rfl rfl ?_
      have HL := (R0.out.r.stored c).load
      have HB2 : Hid (Below B w (Pa.st wr GR c)) := Pa.st_below c R0.out.l hBR
      generalize Pa.st wr GR c = W9 at *
      go_wp2
      refine bodyPost_ret (v := pgv c) (results_one Try.results34 rfl HL) rfl ⟨c, b, L, HBM.out, rfl, ?_⟩
      rw [← HB9.out]
      exact HB2.out
end Go.Proofs.Ytamcpmclnjngcaa
