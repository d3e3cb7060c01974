/- Dft2: the document's. -/
import Derived.Test.YtabdondefoldaaaDoorGK
import Derived.Test.YtabdondefoldaaaDoorI1
namespace Go.Proofs.YtabdondefoldaaaDoor
open Go.RowKit

theorem Rgr.base {X : World} {B B' j c : Nat} {o : Value} {gs cs : Nat → Nat} {M : Nat → Nat → Int} (h : Rgr X B o j c gs cs M) (hB : B' ≤ B) : Rgr X B' o j c gs cs M :=
  ⟨own_base h.row hB, fun i hi => own_base (h.rows i hi) hB, h.inj⟩

theorem Rin.congr {X : World} {B g n : Nat} {R : Nat → Value} {ln ln' : Nat → Nat} {M M' : Nat → Nat → Int} (h : Rin X B g n R ln M) (e : ∀ i, i < n → ln i = ln' i ∧ ∀ t, t < ln' i → M i t = M' i t) : Rin X B g n R ln' M' :=
  ⟨h.row, fun i hi => by rw [← ils_congr (e i hi).2, ← (e i hi).1]; exact h.rows i hi, h.apart⟩

theorem wp_appi {w w' : World} {v xv v' : Value} {o : Oper} {a : Act} {K : Act → World → Prop} {Q : Exit → Act → World → Prop} (s x : Operand)
    (ho : o.op = .call { callee := .builtin .append, args := #[s, x], argTypes := #[29, 29] }) (hty : o.type = 29) (hs : a.eval s = v) (hx : a.eval x = xv) (hr : (Builtin.append_ #[29, 29] 29 #[v, xv]).run Tryd.prog w = .ok v' w') (h : K (a.put o.dst v') w') : o.wp Tryd.prog a w K Q := by
  unfold Oper.wp execOp
  simp only [ho, resolve, invoke, builtin, Sem.run_bind, Sem.run_pure, Result.andThen_ok, List.map_toArray, List.map_cons, List.map_nil, hs, hx, hty, hr]
  exact h

set_option maxRecDepth 20000 in
set_option maxHeartbeats 8000000 in
theorem sDft2_yes {w : World} {v : Value} {n c : Nat} {ms : Nat → Nat} {T : Nat → Nat → Int} {p : Int} {back : Bool} (hv : Ipp w v n ms T) (hg : G2 n c ms T p) :
    Calls Tryd.prog 7 #[v, .int .i64 p, .bool back] w fun e w' => ∃ u gs cs, e = .returned (.tuple #[u, .bool true]) ∧ Rgr w' w.heap.size u n c gs cs (d2 n c p back T) ∧ Below w.heap.size w w' := by
  obtain ⟨m, hm, hn⟩ := hg.1.pow
  have hn1 : 1 ≤ n ∧ n ≤ 256 := by have := hg.1; omega
  have hc1 : 1 ≤ c ∧ c ≤ 256 := by have := (hg.2 0 (by omega)).2.2.2; omega
  have hpr : Prm p := (hg.2 0 (by omega)).2.1
  have HP : Hid (Prm p) := hpr
  have i2 := sWhl_any n
  rw [decide_eq_true hg.1] at i2
  have HG : Hid (∀ i, i < n → ms i = c ∧ GF c (T i) p) := hg.2
  have HW : Hid (Whl n) := hg.1
  have HN : Hid (n = 2 ^ m) := hn
  obtain ⟨ao, cap, rfl, hcap, hx⟩ := hv
  obtain ⟨b, off, R, rfl, hlt, hcell⟩ := hx (by omega)
  have HC : Hid (b < w.heap.size ∧ ∀ k, k < n → ∃ a cp, w.cell? ⟨b, off + k, none⟩ = some (.slice a c cp) ∧ Il w (.slice a c cp) c (T k)) := ⟨hlt, fun k hk => by
    obtain ⟨h1, h2⟩ := hcell k hk
    rw [(HG.out k hk).1] at h2
    obtain ⟨a, cp, e, hq⟩ := h2
    rw [e] at h1
    exact ⟨a, cp, h1, a, cp, rfl, hq⟩⟩
  clear hg hn hpr hx hlt hcell
  go_enter Tryd.func7, Tryd.ntmps7
  go_wp2_with (go_at_call 21; (with_reducible refine (i2 _).mono ?_); rintro e w' ⟨rfl, hw⟩; obtain rfl := hw.symm)
  go_loopw [8, 9] (fun u i wr => ∃ k : Nat, i = .int .i64 k ∧ k ≤ n ∧ Hid (∃ gs cs, Rgr wr w.heap.size u k c gs cs (dr c p back T) ∧ Below w.heap.size w wr)) (fun _ i _ => n - (intOf i).toNat)
  case atStart => exact ⟨0, rfl, by omega, fun _ => 0, fun _ => 0, Rgr.start w c _ _ _, below_one _ _⟩
  case round =>
    obtain ⟨k, rfl, hk, hrel⟩ := hrel
    by_cases h1 : k < n
    · obtain ⟨gs, cs, hR, hB⟩ := hrel.out
      have HR : Hid (Rgr wr w.heap.size u8 k c gs cs (dr c p back T)) := hR
      have HB : Hid (Below w.heap.size w wr) := hB
      obtain ⟨a1, cp1, hc1', hl1⟩ := HC.out.2 k h1
      obtain ⟨a0, cp0, hc0', hl0⟩ := HC.out.2 0 (by omega)
      have x1 := (hB.cell (p := ⟨b, off + k, none⟩) HC.out.1).trans hc1'
      have L1 : Hid (Il wr (.slice a1 c cp1) c (T k)) := hl1.below hB
      have X0 : Hid (w.cell? ⟨b, off, none⟩ = some (.slice a0 c cp0)) := hc0'
      have i5 := sDft_yes (back := back) L1.out (by omega) (HG.out k h1).2
      clear hR hB hrel hc1' hc0' hl1 hl0
      go_wp2_with (first
        | (go_at_call 22; (with_reducible refine i5.mono ?_); rintro e w2 ⟨u, rfl, ho, hb⟩; obtain ⟨gr, cr, rfl, hgr⟩ := own_some ho hc1.1; obtain ⟨v', w3, hap, hG, hgw⟩ := app_row (HR.out.call hb) (own_base ho HB.out.size) (fun i hi => by have := HR.out.gs_lt hi; omega) (by omega) (Nat.le_trans HB.out.size hb.size); have x0 := ((bstep HB.out hb).cell (p := ⟨b, off, none⟩) HC.out.1).trans X0.out; have HAP : Hid _ := hap; have HG3 : Hid (∃ gs cs, Rgr w3 w.heap.size v' (k + 1) c gs cs (dr c p back T)) := ⟨_, _, hG.congr (fun i hi => by by_cases e : i = k; rw [if_pos e, e]; rfl; rw [if_neg e])⟩; have B3 : Hid (Below w.heap.size w w3) := grown_below (bstep (bstep HB.out hb) (below_one _ _)) (Nat.le_refl _) (own_below (HR.out.call hb).row (below_one _ _)) hgw; clear ho hb hap hG hgw hgr)
        | (at_builtin; refine wpList_appr rfl _ _ rfl rfl rfl rfl HAP.out ?_))
      go_roundw
      case rel => obtain ⟨g1, g2, h9⟩ := HG3.out; exact ⟨k + 1, by go_num, by omega, g1, g2, h9, B3.out⟩
      case measure => simp [intOf]; omega
    · obtain rfl : k = n := by omega
      obtain ⟨gs, cs, hR, hB⟩ := hrel.out
      obtain ⟨g, cp, rfl, hW⟩ := hR.rws hn1.1
      have hcp : k ≤ cp := by
        rcases hW.row.2 with ⟨h', _⟩ | ⟨g', cap', cur, h', _, _, hx, _⟩
        · simp at h'
        · injection h' with _ _ e3
          omega
      have hcs : ∀ i, i < k → c ≤ cs i := fun i hi => by
        rcases (hW.rows i hi).2 with ⟨h', _⟩ | ⟨g', cap', cur, h', _, _, hx, _⟩
        · simp at h'
        · injection h' with _ _ e3
          omega
      have HCS : Hid _ := hcs
      clear hcs
      rename World => W0
      have HWW : Hid (Rws W0 w.heap.size g k cp c gs cs (dr c p back T)) := hW
      have HB : Hid (Below w.heap.size w W0) := hB
      obtain ⟨i0, hi, hz0, hz1, hz2⟩ := info_parts Tryd.info29
      obtain ⟨w1, hmk, hrow, hgr⟩ := run_makeSlice_full (P := Tryd.prog) W0 W0.heap.size 24 29 i0 (.slice none 0 0) 1 Tryd.underlying24 hi hz0 hz1 .i64 .i64 k (by omega) (by rw [hz2]; omega) (by unfold maxLen; omega) (Nat.le_refl _)
      rw [made_vls] at hrow
      have HR1 : Hid (Rin w1 W0.heap.size W0.heap.size k (fun _ => .slice none 0 0) (fun _ => 0) (d2 k c p back T)) := ⟨hrow, fun i hi => World.ownsRow_nil _ _ _ _, fun i j _ _ _ h => absurd rfl h⟩
      have HB1 : Hid (Below W0.heap.size W0 w1) := (Below.refl _ _).grown hgr (Nat.le_refl _) (fun _ h => by cases h)
      clear hR hB hW hrel hrow hgr hi hz0 hz1 hz2
      obtain ⟨i3, hi, hz0, hz1, hz2⟩ := info_parts Tryd.info3
      go_wp2
      go_loopw [13, 14, 15, 18] (fun kv _ _ _ w2 => ∃ q : Nat, kv = .int .i64 q ∧ q ≤ c ∧ Hid ((∃ R, Rin w2 W0.heap.size W0.heap.size k R (fun _ => q) (d2 k c p back T)) ∧ Below W0.heap.size W0 w2)) (fun kv _ _ _ _ => c - (intOf kv).toNat)
      case atStart => exact ⟨0, rfl, by omega, ⟨_, HR1.out⟩, HB1.out⟩
      case round =>
        obtain ⟨q, rfl, hq, hrel⟩ := hrel
        obtain ⟨⟨R, hR⟩, hB2⟩ := hrel.out
        rename World => W2
        have HRI : Hid (Rin W2 W0.heap.size W0.heap.size k R (fun _ => q) (d2 k c p back T)) := hR
        have HB2 : Hid (Below W0.heap.size W0 W2) := hB2
        have x0 := (HWW.out.call hB2).cell (i := 0) (by omega)
        clear hR hB2 hrel
        by_cases h2 : q < c
        · go_wp2
          go_loopw [14, 15] (fun cv iv w3 => ∃ i : Nat, iv = .int .i64 i ∧ i ≤ k ∧ Hid (w3.ownsRow W2.heap.size 3 1 cv i (ils (fun t => dr c p back T t q) i) ∧ Below W2.heap.size W2 w3)) (fun _ iv _ => k - (intOf iv).toNat)
          case atStart => exact ⟨0, rfl, by omega, own_empty W2 3 1, below_one _ _⟩
          case round =>
            obtain ⟨i, rfl, hik, hrel⟩ := hrel
            obtain ⟨ho, hb⟩ := hrel.out
            by_cases h3 : i < k
            · have RW := HWW.out.call (bstep HB2.out hb)
              have x1 := RW.cell h3
              have x2 : wr.cell? ⟨gs i, q, none⟩ = some (.int .i64 (dr c p back T i q)) := by rw [World.ownsRow.cellAt (RW.rows i h3) q (by omega), ils_get h2]
              obtain ⟨V, hV⟩ : ∃ V, V = dr c p back T i q := ⟨_, rfl⟩
              rw [← hV] at x2
              have HV : Hid (V = dr c p back T i q) := hV
              have hci := HCS.out i h3
              have hb3 := below_one wr (.cells #[.int .i64 V] 3)
              have HO3 := own_below ho hb3
              have HB3 := bstep hb hb3
              clear hb3 hV RW ho hb hrel
              go_wp2_with (at_builtin; refine wpList_append_own _ rfl _ _ 29 rfl W2.heap.size 3 i3 (.int .i64 0) 1 8 Tryd.underlying29 hi hz0 hz1 hz2 rfl (by decide) _ _ _ rfl HO3 ⟨wr.heap.size, 0, none⟩ 1 1 [.int .i64 V] rfl rfl (one_new _ _ _) (by simp [Value.oneCell']) (by unfold maxLen; omega) (by omega) HB3.size ?_)
              intro v' w4 hown' hgrow _
              have HB4 : Hid _ := grown_below HB3 (Nat.le_refl _) HO3 hgrow
              rw [HV.out, ← ils_snoc (fun t => dr c p back T t q) i] at hown'
              have HO4 : Hid _ := hown'
              clear hown' hgrow HB3 HO3
              go_wp2
              go_roundw
              case rel => exact ⟨i + 1, by go_num, by omega, HO4.out, HB4.out⟩
              case measure => simp [intOf]; omega
            · obtain rfl : k = i := by omega
              rename World => W3
              have HBB : Hid (Below W2.heap.size W2 W3) := hb
              have i5 := sDft_yes (back := back) (il_of_own ho) (by omega : k ≤ 1048576) ⟨HP.out, ⟨by omega, fun t _ => by have := dr_bounds (c := c) (back := back) (T := T) HP.out t q; show 0 ≤ dr c p back T t q ∧ dr c p back T t q ≤ p - 1; omega⟩, HW.out⟩
              clear ho hb hrel
              go_wp2_with (go_at_call 22; (with_reducible refine i5.mono ?_); rintro e w5 ⟨u, rfl, ho5, hb5⟩; obtain ⟨gd, cd, rfl, hgd⟩ := own_some ho5 hn1.1; have HD : Hid (w5.ownsRow W3.heap.size 3 1 (.slice (some ⟨gd, 0, none⟩) k cd) k (ils (fun t => d2 k c p back T t q) k)) := ho5; have HB5 : Hid (Below W3.heap.size W3 w5) := hb5; clear ho5 hb5)
              clear i5
              have gl := World.ownsRow.lt HRI.out.row W0.heap.size rfl
              have z23 := HBB.out.size
              have hdl := own_ltg HD.out
              have hdg : gd ≠ W0.heap.size := by omega
              have hcd : k ≤ cd := by
                rcases HD.out.2 with ⟨h', _⟩ | ⟨g', cap', cur, h', _, _, hx, _⟩
                · simp at h'
                · injection h' with _ _ e3
                  omega
              have b25 := bstep HBB.out HB5.out
              have HR5 : Hid (Rin w5 W0.heap.size W0.heap.size k R (fun _ => q) (d2 k c p back T)) := HRI.out.call b25
              have HA5 : Hid (∀ j, j < k → (R j).ownBlock ≠ some gd) := fun j hj e => by have := (World.ownsRow.lt (HRI.out.rows j hj) gd e).2; omega
              have HB25 : Hid (Below W0.heap.size W0 w5) := bstep HB2.out b25
              clear b25
              go_loopw [18] (fun iv w6 => ∃ i : Nat, iv = .int .i64 i ∧ i ≤ k ∧ Hid ((∃ R, Rin w6 W0.heap.size W0.heap.size k R (fun t => if t < i then q + 1 else q) (d2 k c p back T) ∧ ∀ j, j < k → (R j).ownBlock ≠ some gd) ∧ Below W0.heap.size W0 w6 ∧ w6.heap[gd]? = w5.heap[gd]? ∧ w5.heap.size ≤ w6.heap.size)) (fun iv _ => k - (intOf iv).toNat)
              case atStart => exact ⟨0, rfl, by omega, ⟨R, HR5.out.congr (fun t _ => ⟨(if_neg (by omega)).symm, fun _ _ => rfl⟩), HA5.out⟩, HB25.out, rfl, Nat.le_refl _⟩
              case round =>
                obtain ⟨i, rfl, hik, hrel⟩ := hrel
                obtain ⟨⟨R', hR6, hd6⟩, hB6, hk6, hs6⟩ := hrel.out
                by_cases h4 : i < k
                · obtain ⟨V, hV⟩ : ∃ V, V = d2 k c p back T i q := ⟨_, rfl⟩
                  have x5 := hR6.cell h4
                  have x6 : wr.cell? ⟨gd, i, none⟩ = some (.int .i64 V) := by rw [World.ownsRow.cellAt (own_block HD.out hk6) i (by omega), ils_get h4, hV]
                  obtain ⟨v', w7, hap, hce, hfz, hR7, hd7, hk7, hs7, hb7⟩ := app_in (x := V) (X := wr.drew) (⟨hR6.row, hR6.rows, hR6.apart⟩ : Rin wr.drew W0.heap.size W0.heap.size k R' _ _) h4 (by simp only [Nat.lt_irrefl, if_false]; omega) hB6.size hd6 (show gd < wr.heap.size by omega) hdg
                  have hvx := hR7.rows i h4
                  simp only [if_true, Nat.lt_irrefl, if_false] at hvx
                  obtain ⟨gx, cx, rfl, _⟩ := own_some hvx (Nat.le_add_left 1 _)
                  clear hvx
                  have HR7 : Hid (∃ R, Rin (w7.setCell ⟨W0.heap.size, i, none⟩ (.slice (some ⟨gx, 0, none⟩) (q + 1) cx)) W0.heap.size W0.heap.size k R (fun t => if t < i + 1 then q + 1 else q) (d2 k c p back T) ∧ ∀ j, j < k → (R j).ownBlock ≠ some gd) := ⟨_, hR7.congr (fun t _ => by
                    by_cases e : t = i
                    · subst e
                      simp only [if_true, Nat.lt_irrefl, if_false, Nat.lt_succ_self]
                      refine ⟨trivial, fun s hs => ?_⟩
                      by_cases e2 : s = q
                      · rw [if_pos e2, hV, e2]
                      · rw [if_neg e2]
                    · simp only [if_neg e]
                      refine ⟨?_, fun _ _ => trivial⟩
                      by_cases e3 : t < i
                      · rw [if_pos e3, if_pos (by omega)]
                      · rw [if_neg e3, if_neg (by omega)]), hd7⟩
                  have HB7 : Hid (Below W0.heap.size W0 (w7.setCell ⟨W0.heap.size, i, none⟩ (.slice (some ⟨gx, 0, none⟩) (q + 1) cx))) := hb7 W0 (Nat.le_refl _) hB6.drew
                  have HK7 : Hid ((w7.setCell ⟨W0.heap.size, i, none⟩ (.slice (some ⟨gx, 0, none⟩) (q + 1) cx)).heap[gd]? = w5.heap[gd]? ∧ w5.heap.size ≤ (w7.setCell ⟨W0.heap.size, i, none⟩ (.slice (some ⟨gx, 0, none⟩) (q + 1) cx)).heap.size) := ⟨hk7.trans hk6, Nat.le_trans hs6 hs7⟩
                  have KD : Hid ((w7.setCell ⟨W0.heap.size, i, none⟩ (.slice (some ⟨gx, 0, none⟩) (q + 1) cx)).heap[gd]? = wr.heap[gd]?) := hk7
                  have HAP : Hid ((Builtin.append_ #[29, 29] 29 #[R' i, .slice (some ⟨wr.heap.size, 0, none⟩) 1 1]).run Tryd.prog (wr.alloc (.cells #[.int .i64 V] 3)).drew = .ok (.slice (some ⟨gx, 0, none⟩) (q + 1) cx) w7) := hap
                  clear hap hR7 hd7 hk7 hs7 hb7 hR6 hd6 hB6 hk6 hs6 hrel hV
                  generalize R' i = ri at x5 HAP hce
                  have y5 : (wr.alloc (.cells #[.int .i64 V] 3)).drew.cell? ⟨W0.heap.size, i, none⟩ = some ri := ((below_one wr (.cells #[.int .i64 V] 3)).cell (p := ⟨W0.heap.size, i, none⟩) (World.block_lt_of_cell? _ _ x5)).trans x5
                  have l0 : wr.drew.cell? ⟨gd, i, none⟩ = some (.int .i64 V) := x6
                  have l1 : (wr.alloc (.cells #[.int .i64 V] 3)).drew.cell? ⟨gd, i, none⟩ = some (.int .i64 V) := ((below_one wr (.cells #[.int .i64 V] 3)).cell (p := ⟨gd, i, none⟩) (World.block_lt_of_cell? _ _ x6)).trans x6
                  have l3 : (w7.setCell ⟨W0.heap.size, i, none⟩ (.slice (some ⟨gx, 0, none⟩) (q + 1) cx)).cell? ⟨gd, i, none⟩ = some (.int .i64 V) := (World.cell?_of_block (a := ⟨gd, i, none⟩) KD.out).trans x6
                  have l2 : w7.cell? ⟨gd, i, none⟩ = some (.int .i64 V) := (World.cell?_of_block (a := ⟨gd, i, none⟩) (Below.heap_setCell w7 ⟨W0.heap.size, i, none⟩ (.slice (some ⟨gx, 0, none⟩) (q + 1) cx) gd hdg)).symm.trans l3
                  go_upto_region 24 with fail
                  refine wp_region_any (by kernel_rfl) ?_
                  change wpAny _ _ _ _ _ _ _ (World.drew _)
                  refine wpI_any (I := fun X => X.cell? ⟨gd, i, none⟩ = some (.int .i64 V)) _ _ _ _ ?_
                  refine wpI_take (i := 0) (v := ?_) rfl (by kernel_rfl) (by kernel_rfl) (by kernel_rfl) (fun _ _ _ h => h) ⟨by rfl, ?_⟩ ?_
                  rotate_left
                  · intro X hI; go_simp; try go_bits
                    try rw [if_pos (by omega)]
                    try with_reducible rfl
                  refine wpI_take (i := 1) (v := ?_) rfl (by kernel_rfl) (by kernel_rfl) (by kernel_rfl) (fun _ _ _ h => h) ⟨by rfl, ?_⟩ ?_
                  rotate_left
                  · intro X hI; go_simp; try go_bits
                    try rw [if_pos (by omega)]
                    try with_reducible rfl
                  refine wpI_take (i := 2) (v := ?_) rfl (by kernel_rfl) (by kernel_rfl) (by kernel_rfl) (fun _ _ _ h => h) ⟨by rfl, ?_⟩ ?_
                  rotate_left
                  · intro X hI; go_simp; try go_bits
                    try rw [if_pos (by omega)]
                    try with_reducible rfl
                  refine wpI_take (i := 3) (v := ?_) rfl (by kernel_rfl) (by kernel_rfl) (by kernel_rfl) (fun _ _ _ h => h) ⟨by rfl, ?_⟩ ?_
                  rotate_left
                  · intro X hI; go_simp; try go_bits
                    try rw [if_pos (by omega)]
                    try with_reducible rfl
                  refine wpI_take (i := 4) (v := ?_) rfl (by kernel_rfl) (by kernel_rfl) (by kernel_rfl) (fun _ _ _ h => h) ⟨by rfl, ?_⟩ ?_
                  rotate_left
                  · intro X hI; go_simp; try go_bits
                    try rw [if_pos (by omega)]
                    try with_reducible rfl
                  refine wpI_take (i := 6) (v := ?_) rfl (by kernel_rfl) (by kernel_rfl) (by kernel_rfl) (fun _ _ _ h => h) ⟨by rfl, ?_⟩ ?_
                  rotate_left
                  · intro X hI; go_simp; try go_bits
                    try rw [if_pos (by omega)]
                    try with_reducible rfl
                  refine wpI_take (i := 7) (v := ?_) rfl (by kernel_rfl) (by kernel_rfl) (by kernel_rfl) (fun _ _ _ h => h) ⟨by rfl, ?_⟩ ?_
                  rotate_left
                  · intro X hI; go_simp; try go_bits
                    try rw [if_pos (by omega)]
                    try with_reducible rfl
                  refine wpI_take (i := 8) (v := ?_) rfl (by kernel_rfl) (by kernel_rfl) (by kernel_rfl) (fun _ _ _ h => h) ⟨by rfl, ?_⟩ ?_
                  rotate_left
                  · intro X hI; go_simp; try go_bits
                    try rw [if_pos (by omega)]
                    try with_reducible rfl
                  refine wpI_take (i := 9) (v := ?_) rfl (by kernel_rfl) (by kernel_rfl) (by kernel_rfl) (fun _ _ _ h => h) ⟨by rfl, ?_⟩ ?_
                  rotate_left
                  · intro X hI; have q1 : X.cell? ⟨gd, i, none⟩ = some (.int .i64 V) := hI; go_simp; try go_bits
                    try rw [if_pos (by omega)]
                    try with_reducible rfl
                  refine wpI_two (i := 5) (j := 10) rfl rfl (by kernel_rfl) l0 (by rfl) (by rfl) ?_ ?_
                  · intro K hK
                    go_simp
                    try go_bits
                    refine hK _ _ ?_
                    refine wpI_only (i := 10) rfl (by kernel_rfl) l0 (by rfl) ?_
                    intro K hK
                    go_simp
                    try go_bits
                    refine hK _ _ ?_
                    refine wpI_only (i := 11) rfl (by kernel_rfl) l1 (by rfl) ?_
                    intro K hK
                    refine wp_appi _ _ rfl rfl rfl rfl HAP.out ?_
                    refine hK _ _ ?_
                    refine wpI_only (i := 12) rfl (by kernel_rfl) l2 (by rfl) ?_
                    intro K hK
                    go_simp
                    try go_bits
                    refine hK _ _ ?_
                    refine wpI_only (i := 13) rfl (by kernel_rfl) l2 (by rfl) ?_
                    intro K hK
                    go_simp
                    try go_bits
                    refine hK _ _ ?_
                    refine wpI_done l3 (by kernel_rfl) ?_ _
                    go_wp2
                    go_roundw
                    case rel => exact ⟨i + 1, by go_num, by omega, HR7.out, HB7.out, HK7.out.1, HK7.out.2⟩
                    case measure => simp [intOf]; omega
                  · intro K hK
                    go_simp
                    try go_bits
                    refine hK _ _ ?_
                    refine wpI_only (i := 5) rfl (by kernel_rfl) l1 (by rfl) ?_
                    intro K hK
                    go_simp
                    try go_bits
                    refine hK _ _ ?_
                    refine wpI_only (i := 11) rfl (by kernel_rfl) l1 (by rfl) ?_
                    intro K hK
                    refine wp_appi _ _ rfl rfl rfl rfl HAP.out ?_
                    refine hK _ _ ?_
                    refine wpI_only (i := 12) rfl (by kernel_rfl) l2 (by rfl) ?_
                    intro K hK
                    go_simp
                    try go_bits
                    refine hK _ _ ?_
                    refine wpI_only (i := 13) rfl (by kernel_rfl) l2 (by rfl) ?_
                    intro K hK
                    go_simp
                    try go_bits
                    refine hK _ _ ?_
                    refine wpI_done l3 (by kernel_rfl) ?_ _
                    go_wp2
                    go_roundw
                    case rel => exact ⟨i + 1, by go_num, by omega, HR7.out, HB7.out, HK7.out.1, HK7.out.2⟩
                    case measure => simp [intOf]; omega
                · obtain rfl : k = i := by omega
                  have HR8 : Hid (∃ R, Rin wr W0.heap.size W0.heap.size k R (fun _ => q + 1) (d2 k c p back T)) := ⟨R', hR6.congr (fun t ht => ⟨if_pos ht, fun _ _ => rfl⟩)⟩
                  have HB8 : Hid _ := hB6
                  clear hR6 hd6 hB6 hk6 hs6 hrel
                  go_wp2
                  go_roundw
                  case rel => exact ⟨q + 1, by go_num, by omega, HR8.out, HB8.out⟩
                  case measure => simp [intOf]; omega
        · obtain rfl : c = q := by omega
          go_wp2
          refine bodyPost_ret (v := .tuple #[.slice (some ⟨W0.heap.size, 0, none⟩) k k, .bool true]) (by simp [results, Tryd.results7, go_sem]) rfl ?_
          obtain ⟨gs', cs', h9⟩ := HRI.out.rgr hc1.1
          exact ⟨_, gs', cs', rfl, h9.base HB.out.size, bstep HB.out HB2.out⟩
end Go.Proofs.YtabdondefoldaaaDoor
