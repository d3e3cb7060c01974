/- What filled tells. -/
import Derived.Test.YtpjpkkgcnnmljaaRC
import Derived.Test.YtpjpkkgcnnmljaaRW
import Derived.Test.YtpjpkkgcnnmljaaGT
import Derived.Test.YtpjpkkgcnnmljaaGV
import Derived.RegionTactic
import Derived.Deep.RegionWith
import Derived.WalkMore
namespace Go.Proofs.Ytpjpkkgcnnmljaa
open Go.RowKit

theorem Ar.yi {ops : Array Oper} {I : World → Prop} {o : Oper} {a : Act} {G : Nat} {f : Nat → Nat} (hw : Region.wanted o (yielded ops a.tmps) = true) (x : Operand) (ho : o.op = .load 74 x) (hx : a.eval x = .pointer (some ⟨G, 0, none⟩)) (hS : ∀ w, I w → Ar w G f) : YI Try.prog ops I o (.agg (scs f)) a :=
  ⟨hw, fun w hI => by
    unfold execOp
    simp only [ho, hx, Instr.loadAt, Instr.sureAddr, Sem.run_bind, Sem.run_pure, Result.andThen_ok, (hS w hI).load]⟩

/-- A word with amounts taken in at the first k places. -/
def fld (X : Nat → Nat) (m : Nat) (S pl G : Nat → Nat) : Nat → Nat → Nat
  | 0 => G
  | k + 1 => fun q => if q = pl k then fld X m S pl G k q ^^^ amt X m S k else fld X m S pl G k q
theorem fld_lt {X S pl G : Nat → Nat} {m : Nat} (hX : ∀ i, X i < 256) (hG : ∀ q, G q < 256) : ∀ k q, fld X m S pl G k q < 256
  | 0, q => hG q
  | k + 1, q => by
    show (if q = pl k then _ else _) < 256
    split
    · exact xor_lt8 (fld_lt hX hG k q) (amt_lt hX)
    · exact fld_lt hX hG k q

/-- What a byte list and a bool are told as. -/
def Pbo (w w' : World) (e : Ending) (N : Nat) (ys : Nat → Int) (ok : Bool) : Prop := ∃ u, e = .returned (.tuple #[u, .bool ok]) ∧ w'.ownsRow w.heap.size 5 1 u N (bls ys N) ∧ Below w.heap.size w w'

/-- Places of a word: below n, no two alike. -/
structure Pls (n m : Nat) (pl : Nat → Nat) : Prop where
  le : m ≤ 16
  lt : ∀ k, k < m → pl k < n
  inj : ∀ i k, i < m → k < m → pl i = pl k → i = k

theorem nb_nat {n : Nat} {G : Nat → Nat} (_ : ∀ q, G q < 256) {k : Nat} (hk : k < n) : nb n (fun q => ((G q : Nat) : Int)) k = G k := by
  unfold nb
  rw [if_pos hk]
  simp
theorem hz_congr {g g' : Nat → Nat} {x : Nat} : ∀ n, (∀ k, k < n → g k = g' k) → hz g x n = hz g' x n
  | 0, _ => rfl
  | n + 1, h => by
    unfold hz
    rw [hz_congr n (fun k hk => h k (by omega)), h n (by omega)]
theorem syn_congr {n : Nat} {g g' : Nat → Nat} (h : ∀ k, k < n → g k = g' k) (j : Nat) : syn n g j = syn n g' j := hz_congr n h
theorem syz_congr {n : Nat} {g g' : Nat → Nat} (h : ∀ k, k < n → g k = g' k) (t : Nat) : syz n g t = syz n g' t := by
  funext j
  unfold syz
  rw [syn_congr h j]
theorem cln_congr {n : Nat} {g g' : Nat → Nat} (h : ∀ k, k < n → g k = g' k) (t : Nat) : cln n g t = cln n g' t := by
  have : ∀ t, cln n g t = true ↔ cln n g' t = true := fun t => by
    rw [cln_iff, cln_iff]
    exact ⟨fun q i hi => by rw [← syn_congr h]; exact q i hi, fun q i hi => by rw [syn_congr h]; exact q i hi⟩
  have h1 := this t
  cases h2 : cln n g t <;> cases h3 : cln n g' t <;> simp_all

set_option maxRecDepth 50000 in
set_option maxHeartbeats 16000000 in
/-- What filled tells, clean or not. -/
theorem filled_any {w : World} {v u : Value} {n m t : Nat} {G pl : Nat → Nat} (hv : Bl w v n (fun q => ((G q : Nat) : Int))) (hG : ∀ q, G q < 256) (hu : Il w u m (fun k => (pl k : Int))) (hp : Pls n m pl) (hn : n ≤ 255) (hn1 : 1 ≤ n) (ht : t ≤ 8) (S X : Nat → Nat) (hS : S = syz n G (2 * t)) (hX : X = pwr n pl) :
    Calls Try.prog 47 #[v, u, .int .i64 (t : Int)] w fun e w' => ∃ N ys, Pbo w w' e N ys (cln n (fld X m S pl G m) (2 * t)) ∧ (cln n (fld X m S pl G m) (2 * t) = true → N = n ∧ ys = fun q => ((fld X m S pl G m q : Nat) : Int)) ∧ (cln n (fld X m S pl G m) (2 * t) = false → N = 0) := by
  have hXl : ∀ i, X i < 256 := fun i => by rw [hX]; exact pwr_lt _ _ _
  have hb : Byt n (fun q => ((G q : Nat) : Int)) := fun k _ => by have := hG k; show 0 ≤ ((G k : Nat) : Int) ∧ ((G k : Nat) : Int) < 256; omega
  have hSl : ∀ j, S j < 256 := fun j => by rw [hS]; exact syz_lt hG _ _ _
  have e0 : syz n (nb n (fun q => ((G q : Nat) : Int))) (2 * t) = S := by rw [hS]; exact syz_congr (fun k hk => nb_nat hG hk) _
  have HV : Hid (Bl w v n (fun q => ((G q : Nat) : Int))) := hv
  have HU : Hid (Il w u m (fun k => (pl k : Int))) := hu
  have OW : Hid ((w.alloc (.cells #[] 5)).ownsRow w.heap.size 5 1 (.slice (some ⟨w.heap.size, 0, none⟩) 0 0) 0 (bls (fun q => ((G q : Nat) : Int)) 0)) := own_empty w 5 1
  have VB : Hid (Bl (w.alloc (.cells #[] 5)) v n (fun q => ((G q : Nat) : Int))) := hv.below (below_one _ _)
  have BL : Hid (Below w.heap.size w (w.alloc (.cells #[] 5))) := below_one _ _
  have isy : ∀ W, Below w.heap.size w W → Calls Try.prog 55 #[v, .int .i64 (t : Int)] W fun e w' => e = .returned (.agg (scs S)) ∧ Below W.heap.size W w' := fun W hW => by
    have := syn_any (hv.below hW) hb (by omega) ht
    rw [e0] at this
    exact this
  have iam0 : ∀ k, k < m → ∀ W, Below w.heap.size w W → Calls Try.prog 56 #[.agg (scs S), .int .i64 (n : Int), u, .int .i64 (pl k : Int)] W fun e w' => e = .returned (.int .u8 ((amt X m S k : Nat) : Int)) ∧ Below W.heap.size W w' := fun k hk W hW => by
    have := amount_any (S := S) (hu.below hW) hp.le hn hp.lt hp.inj hSl hk
    rw [← hX] at this
    exact this
  have HAM : Hid (∀ k, k < m → ∀ W, Below w.heap.size w W → Calls Try.prog 56 #[.agg (scs S), .int .i64 (n : Int), u, .int .i64 (pl k : Int)] W fun e w' => e = .returned (.int .u8 ((amt X m S k : Nat) : Int)) ∧ Below W.heap.size W w') := iam0
  have HP : Hid (Pls n m pl) := hp
  have hm16 : m ≤ 16 := hp.le
  have HXL : Hid (∀ i, X i < 256) := hXl
  have HGL : Hid (∀ q, G q < 256) := hG
  have isy2 : ∀ W o, Bl W o n (fun q => ((fld X m S pl G m q : Nat) : Int)) → Calls Try.prog 55 #[o, .int .i64 (t : Int)] W fun e w' => e = .returned (.agg (scs (syz n (fld X m S pl G m) (2 * t)))) ∧ Below W.heap.size W w' := fun W o hW => by
    have hl := fld_lt (S := S) (pl := pl) (m := m) hXl hG m
    have hb2 : Byt n (fun q => ((fld X m S pl G m q : Nat) : Int)) := fun k _ => by have := hl k; show 0 ≤ ((fld X m S pl G m k : Nat) : Int) ∧ ((fld X m S pl G m k : Nat) : Int) < 256; omega
    have := syn_any hW hb2 (by omega) ht
    rw [syz_congr (fun k hk => nb_nat hl hk)] at this
    exact this
  have HSY : Hid (∀ W o, Bl W o n (fun q => ((fld X m S pl G m q : Nat) : Int)) → Calls Try.prog 55 #[o, .int .i64 (t : Int)] W fun e w' => e = .returned (.agg (scs (syz n (fld X m S pl G m) (2 * t)))) ∧ Below W.heap.size W w') := isy2
  obtain ⟨ao, cap, rfl, hcap, _⟩ := hv
  obtain ⟨bo, cap2, rfl, hcap2, hc2⟩ := hu
  have HU2 : Hid (0 < m → ∃ b off, bo = some ⟨b, off, none⟩ ∧ b < w.heap.size ∧ ∀ k, k < m → w.cell? ⟨b, off + k, none⟩ = some (.int .i64 (pl k : Int))) := hc2
  have hSS : Hid (S = syz n G (2 * t)) := hS
  clear hp hXl hb hSl e0 hG isy2 iam0 hX hc2 hS
  go_enter Try.func47, Try.ntmps47
  go_upto_region 2 with (first
    | (at_builtin; refine wpList_appb rfl _ _ rfl w.heap.size _ _ 0 n _ _ rfl rfl OW.out VB.out (by omega) BL.out.size ?_; intro v' w2 hown hgrow; have O2 : Hid (w2.ownsRow w.heap.size 5 1 v' n (bls (fun q => ((G q : Nat) : Int)) n)) := (by have h := hown; rw [Nat.zero_add] at h; exact h); have B2 : Hid (Below w.heap.size w w2) := grown_below BL.out (Nat.le_refl _) OW.out hgrow; clear hown hgrow))
  clear OW VB BL
  obtain ⟨g, c, hv', hgB0, hgw⟩ := own_someb O2.out hn1
  subst hv'
  go_upto_region 3 with (first
    | (go_at_call 55; (refine (isy w2 B2.out).mono ?_); rintro e w3 ⟨rfl, hb3⟩; have O3 : Hid ((w3.alloc (.cells (scs S) 74)).ownsRow w.heap.size 5 1 (.slice (some ⟨g, 0, none⟩) n c) n (bls (fun q => ((G q : Nat) : Int)) n)) := own_below (own_below O2.out hb3) (below_one _ _); have A3 : Hid (Ar (w3.alloc (.cells (scs S) 74)) w3.heap.size S) := Ar.box w3 S 74; have B3 : Hid (Below w.heap.size w (w3.alloc (.cells (scs S) 74))) := bstep (bstep B2.out hb3) (below_one _ _); have hgn3 : g < w3.heap.size := Nat.lt_of_lt_of_le hgw hb3.size; clear hb3))
  obtain ⟨B, hB⟩ : ∃ B, B = w.heap.size := ⟨_, rfl⟩
  obtain ⟨GS, hGS⟩ : ∃ GS, GS = w3.heap.size := ⟨_, rfl⟩
  rw [← hB] at O3 B3 hgB0 HAM HU2
  rw [← hGS] at A3 hgn3
  simp only [← hGS]
  generalize w3.alloc (.cells (scs S) 74) = W4 at *
  have HB9 : Hid (B = w.heap.size) := hB
  have hgn : GS ≠ g := by omega
  have hgB : B ≤ g := hgB0
  clear O2 B2 isy hGS hB hgw hgB0 hgn3
  go_wp2
  go_loopw [11, 20] (fun _ iv wr => ∃ k : Nat, iv = .int .i64 (k : Int) ∧ k ≤ m ∧ Hid (wr.ownsRow B 5 1 (.slice (some ⟨g, 0, none⟩) n c) n (bls (fun q => ((fld X m S pl G k q : Nat) : Int)) n) ∧ Ar wr GS S ∧ Below B w wr)) (fun _ iv _ => m - (intOf iv).toNat)
  case atStart => exact ⟨0, rfl, by omega, O3.out, A3.out, B3.out⟩
  case round =>
    obtain ⟨k, rfl, hk, HR⟩ := hrel
    clear O3 A3 B3
    by_cases h1 : k < m
    · obtain ⟨b, off, rfl, hbB, hcell⟩ := HU2.out (by omega)
      have cq : wr.cell? ⟨b, off + k, none⟩ = some (.int .i64 (pl k : Int)) := (HR.out.2.2.cell (p := ⟨b, off + k, none⟩) hbB).trans (hcell k h1)
      have hq := HP.out.lt k h1
      have iam := HAM.out k h1
      have H0 : Hid (wr.drew.ownsRow B 5 1 (.slice (some ⟨g, 0, none⟩) n c) n (bls (fun q => ((fld X m S pl G k q : Nat) : Int)) n) ∧ Ar wr.drew GS S ∧ Below B w wr.drew) := ⟨own_below HR.out.1 (Below.refl _ _).drew, HR.out.2.1.below (Below.refl _ _).drew, HR.out.2.2.drew⟩
      have L0 : Hid (Below B w wr.drew) := HR.out.2.2.drew
      have hfl : fld X m S pl G k (pl k) < 256 := fld_lt HXL.out HGL.out k _
      have hal : amt X m S k < 256 := amt_lt HXL.out
      have hxr := xor_u8 hfl hal
      obtain ⟨y0, hy0⟩ : ∃ y0, y0 = fld X m S pl G k (pl k) := ⟨_, rfl⟩
      obtain ⟨y1, hy1⟩ : ∃ y1, y1 = fld X m S pl G k (pl k) ^^^ amt X m S k := ⟨_, rfl⟩
      rw [← hy1, ← hy0] at hxr
      have HFN : Hid (∀ i, (if i = pl k then ((y1 : Nat) : Int) else ((fld X m S pl G k i : Nat) : Int)) = ((fld X m S pl G (k + 1) i : Nat) : Int)) := fun i => by
        show _ = (((if i = pl k then fld X m S pl G k i ^^^ amt X m S k else fld X m S pl G k i) : Nat) : Int)
        by_cases e : i = pl k
        · rw [if_pos e, if_pos e, e, hy1]
        · rw [if_neg e, if_neg e]
      obtain ⟨q, hqe⟩ : ∃ q, q = pl k := ⟨_, rfl⟩
      have HY0 : Hid (((fld X m S pl G k q : Nat) : Int) = ((y0 : Nat) : Int)) := by show _ = _; rw [hqe, hy0]
      rw [← hqe] at cq hq iam HFN
      obtain ⟨am, ham⟩ : ∃ am, am = amt X m S k := ⟨_, rfl⟩
      rw [← ham] at iam hxr
      have HXR : Hid (bits .xor .u8 ((y0 : Nat) : Int) ((am : Nat) : Int) = ((y1 : Nat) : Int)) := hxr
      clear hfl hal hxr hy0 hy1 hqe ham HR hcell
      go_upto_region 6 with fail
      clear cq
      refine wp_region_any (by kernel_rfl) ?_
      change wpAny _ _ _ _ _ _ _ (World.drew _)
      generalize wr.drew = W0 at *
      refine wpI_any (I := fun X => Ar X GS S) _ _ _ _ ?_
      refine wpI_take (i := 4) (v := .agg (scs S)) rfl (by kernel_rfl) (by kernel_rfl) (by kernel_rfl) (fun _ _ _ h => h) (Ar.yi rfl (.tmp 9) rfl rfl (fun X h => h)) ?_
      refine wpI_take (i := 0) (v := ?_) rfl (by kernel_rfl) (by kernel_rfl) (by kernel_rfl) (fun _ _ _ h => h) ⟨by rfl, ?_⟩ ?_
      rotate_left
      · intro X hI; go_simp; try go_bits
        try rw [if_pos (by omega)]
        try with_reducible rfl
      refine wpI_take (i := 1) (v := ?_) rfl (by kernel_rfl) (by kernel_rfl) (by kernel_rfl) (fun _ _ _ h => h) ⟨by rfl, ?_⟩ ?_
      rotate_left
      · intro X hI; go_simp; try go_bits
        try rw [if_pos (by omega)]
        try with_reducible rfl
      refine wpI_take (i := 2) (v := ?_) rfl (by kernel_rfl) (by kernel_rfl) (by kernel_rfl) (fun _ _ _ h => h) ⟨by rfl, ?_⟩ ?_
      rotate_left
      · intro X hI; go_simp; try go_bits
        try rw [if_pos (by omega)]
        try with_reducible rfl
      refine wpI_take (i := 5) (v := ?_) rfl (by kernel_rfl) (by kernel_rfl) (by kernel_rfl) (fun _ _ _ h => h) ⟨by rfl, ?_⟩ ?_
      rotate_left
      · intro X hI; go_simp; try go_bits
        try rw [if_pos (by omega)]
        try with_reducible rfl
      refine wpI_take (i := 6) (v := ?_) rfl (by kernel_rfl) (by kernel_rfl) (by kernel_rfl) (fun _ _ _ h => h) ⟨by rfl, ?_⟩ ?_
      rotate_left
      · intro X hI; go_simp; try go_bits
        try rw [if_pos (by omega)]
        try with_reducible rfl
      refine wpI_take (i := 7) (v := ?_) rfl (by kernel_rfl) (by kernel_rfl) (by kernel_rfl) (fun _ _ _ h => h) ⟨by rfl, ?_⟩ ?_
      rotate_left
      · intro X hI; go_simp; try go_bits
        try rw [if_pos (by omega)]
        try with_reducible rfl
      refine wpI_take (i := 8) (v := ?_) rfl (by kernel_rfl) (by kernel_rfl) (by kernel_rfl) (fun _ _ _ h => h) ⟨by rfl, ?_⟩ ?_
      rotate_left
      · intro X hI; go_simp; try go_bits
        try rw [if_pos (by omega)]
        try with_reducible rfl
      refine wpI_two (i := 3) (j := 9) rfl rfl (by kernel_rfl) H0.out.2.1 (by rfl) (by rfl) ?_ ?_
      · intro K hK
        have c3 := H0.out.1.cellAt q (by omega)
        rw [bls_get hq] at c3
        rw [HY0.out] at c3
        go_simp
        refine hK _ _ ?_
        clear c3
        refine wpI_only (i := 9) rfl (by kernel_rfl) H0.out.2.1 (by rfl) ?_
        intro K hK
        go_simp
        go_wp2_with (go_at_call 56; (refine (iam W0 L0.out).mono ?_); rintro e x1 ⟨rfl, hb1⟩; have H1 : Hid (x1.ownsRow B 5 1 (.slice (some ⟨g, 0, none⟩) n c) n (bls (fun q => ((fld X m S pl G k q : Nat) : Int)) n) ∧ Ar x1 GS S ∧ Below B w x1) := ⟨own_below H0.out.1 hb1, H0.out.2.1.below hb1, bbel HB9.out H0.out.2.2 hb1⟩; clear hb1)
        refine wpI_take (i := 10) (v := .int .u8 ((y1 : Nat) : Int)) rfl (by kernel_rfl) (by kernel_rfl) (by kernel_rfl) (fun _ _ _ h => h) ⟨by rfl, ?_⟩ ?_
        · intro X hI; have hxx := HXR.out; go_simp; try go_bits
          try rw [if_pos (by omega)]
          try trivial
        refine wpI_take (i := 11) (v := ?_) rfl (by kernel_rfl) (by kernel_rfl) (by kernel_rfl) (fun _ _ _ h => h) ⟨by rfl, ?_⟩ ?_
        rotate_left
        · intro X hI; go_simp; try go_bits
          try rw [if_pos (by omega)]
          try with_reducible rfl
        refine wpI_only (i := 12) rfl (by kernel_rfl) H1.out.2.1 (by rfl) ?_
        intro K hK
        have c3 := H1.out.1.cellAt q (by omega)
        rw [bls_get hq] at c3
        rw [HY0.out] at c3
        have z3 := H1.out.1.frozenAt q
        go_simp
        refine hK _ _ ?_
        have hst := (H1.out.1.stored q (.int .u8 ((y1 : Nat) : Int))).1
        rw [bls_put] at hst
        have O5 : Hid ((x1.setCell ⟨g, q, none⟩ (.int .u8 ((y1 : Nat) : Int))).ownsRow B 5 1 (.slice (some ⟨g, 0, none⟩) n c) n (bls (fun q => ((fld X m S pl G (k + 1) q : Nat) : Int)) n)) := by
          have e := bls_congr (n := n) (f := fun i => if i = q then ((y1 : Nat) : Int) else ((fld X m S pl G k i : Nat) : Int)) (g := fun q => ((fld X m S pl G (k + 1) q : Nat) : Int)) (fun i _ => HFN.out i)
          rw [e] at hst
          exact hst
        have A5 : Hid (Ar (x1.setCell ⟨g, q, none⟩ (.int .u8 ((y1 : Nat) : Int))) GS S) := H1.out.2.1.block (set_block hgn)
        have L5 : Hid (Below B w (x1.setCell ⟨g, q, none⟩ (.int .u8 ((y1 : Nat) : Int)))) := below_gk hgB H1.out.2.2
        clear hst c3 z3
        generalize x1.setCell ⟨g, q, none⟩ (.int .u8 ((y1 : Nat) : Int)) = x5 at *
        refine wpI_done A5.out (by kernel_rfl) ?_ _
        go_wp2
        go_roundw
        case rel => exact ⟨k + 1, by go_num, by omega, O5.out, A5.out, L5.out⟩
        case measure => simp [intOf]; omega
      · intro K hK
        go_simp
        go_wp2_with (go_at_call 56; (refine (iam W0 L0.out).mono ?_); rintro e x1 ⟨rfl, hb1⟩; have H1 : Hid (x1.ownsRow B 5 1 (.slice (some ⟨g, 0, none⟩) n c) n (bls (fun q => ((fld X m S pl G k q : Nat) : Int)) n) ∧ Ar x1 GS S ∧ Below B w x1) := ⟨own_below H0.out.1 hb1, H0.out.2.1.below hb1, bbel HB9.out H0.out.2.2 hb1⟩; clear hb1)
        refine wpI_only (i := 3) rfl (by kernel_rfl) H1.out.2.1 (by rfl) ?_
        intro K hK
        have c3 := H1.out.1.cellAt q (by omega)
        rw [bls_get hq] at c3
        rw [HY0.out] at c3
        go_simp
        refine hK _ _ ?_
        clear c3
        refine wpI_take (i := 10) (v := .int .u8 ((y1 : Nat) : Int)) rfl (by kernel_rfl) (by kernel_rfl) (by kernel_rfl) (fun _ _ _ h => h) ⟨by rfl, ?_⟩ ?_
        · intro X hI; have hxx := HXR.out; go_simp; try go_bits
          try rw [if_pos (by omega)]
          try trivial
        refine wpI_take (i := 11) (v := ?_) rfl (by kernel_rfl) (by kernel_rfl) (by kernel_rfl) (fun _ _ _ h => h) ⟨by rfl, ?_⟩ ?_
        rotate_left
        · intro X hI; go_simp; try go_bits
          try rw [if_pos (by omega)]
          try with_reducible rfl
        refine wpI_only (i := 12) rfl (by kernel_rfl) H1.out.2.1 (by rfl) ?_
        intro K hK
        have c3 := H1.out.1.cellAt q (by omega)
        rw [bls_get hq] at c3
        rw [HY0.out] at c3
        have z3 := H1.out.1.frozenAt q
        go_simp
        refine hK _ _ ?_
        have hst := (H1.out.1.stored q (.int .u8 ((y1 : Nat) : Int))).1
        rw [bls_put] at hst
        have O5 : Hid ((x1.setCell ⟨g, q, none⟩ (.int .u8 ((y1 : Nat) : Int))).ownsRow B 5 1 (.slice (some ⟨g, 0, none⟩) n c) n (bls (fun q => ((fld X m S pl G (k + 1) q : Nat) : Int)) n)) := by
          have e := bls_congr (n := n) (f := fun i => if i = q then ((y1 : Nat) : Int) else ((fld X m S pl G k i : Nat) : Int)) (g := fun q => ((fld X m S pl G (k + 1) q : Nat) : Int)) (fun i _ => HFN.out i)
          rw [e] at hst
          exact hst
        have A5 : Hid (Ar (x1.setCell ⟨g, q, none⟩ (.int .u8 ((y1 : Nat) : Int))) GS S) := H1.out.2.1.block (set_block hgn)
        have L5 : Hid (Below B w (x1.setCell ⟨g, q, none⟩ (.int .u8 ((y1 : Nat) : Int)))) := below_gk hgB H1.out.2.2
        clear hst c3 z3
        generalize x1.setCell ⟨g, q, none⟩ (.int .u8 ((y1 : Nat) : Int)) = x5 at *
        refine wpI_done A5.out (by kernel_rfl) ?_ _
        go_wp2
        go_roundw
        case rel => exact ⟨k + 1, by go_num, by omega, O5.out, A5.out, L5.out⟩
        case measure => simp [intOf]; omega
    · obtain rfl : k = m := by omega
      have HY := HSY.out
      have O9 : Hid (wr.ownsRow B 5 1 (.slice (some ⟨g, 0, none⟩) n c) n (bls (fun q => ((fld X k S pl G k q : Nat) : Int)) n)) := HR.out.1
      have B9 : Hid (Below B w wr) := HR.out.2.2
      have is := HY wr _ (bl_of_own HR.out.1)
      obtain ⟨cl, hcl⟩ : ∃ cl, cl = cln n (fld X k S pl G k) (2 * t) := ⟨_, rfl⟩
      have hr2 : cl = true ↔ ∀ j, j < 16 → syz n (fld X k S pl G k) (2 * t) j = 0 := by
        rw [hcl, syz_clean, cln_iff]
        exact ⟨fun h i hi _ => h i hi, fun h i hi => h i hi (by omega)⟩
      have i3 : ∀ W, (Op.equalIn 10000 74 (.agg (scs (syz n (fld X k S pl G k) (2 * t)))) (.agg szs)).run Try.prog W = .ok cl W := fun W => eql16 _ W hr2
      have HCL : Hid (cln n (fld X k S pl G k) (2 * t) = cl) := hcl.symm
      obtain ⟨F, hF⟩ : ∃ F, F = syz n (fld X k S pl G k) (2 * t) := ⟨_, rfl⟩
      rw [← hF] at is i3
      clear hr2 HR hcl HY hF HSY HAM
      cases cl with
      | true =>
        go_wp2_with (first | (go_at_call 55; (refine is.mono ?_); rintro e w9 ⟨rfl, hb9⟩; have i4 := i3 w9; have HB : Hid (Below B w w9) := bbel HB9.out B9.out hb9; have O8 : Hid (w9.ownsRow B 5 1 (.slice (some ⟨g, 0, none⟩) n c) n (bls (fun q => ((fld X k S pl G k q : Nat) : Int)) n)) := own_below O9.out hb9; clear hb9))
        go_ret2
        rw [HCL.out]
        exact ⟨n, _, ⟨_, rfl, by rw [← HB9.out]; exact O8.out, by rw [← HB9.out]; exact HB.out⟩, fun _ => ⟨rfl, rfl⟩, fun h => by cases h⟩
      | false =>
        go_wp2_with (first | (go_at_call 55; (refine is.mono ?_); rintro e w9 ⟨rfl, hb9⟩; have i4 := i3 w9; have HB : Hid (Below B w (w9.alloc (.cells #[] 5))) := bbel HB9.out (bbel HB9.out B9.out hb9) (below_one _ _); have hsz : B ≤ w9.heap.size := (by have h1 := B9.out.size; have h2 := hb9.size; have h3 := HB9.out; omega); have O8 : Hid ((w9.alloc (.cells #[] 5)).ownsRow B 5 1 (.slice (some ⟨w9.heap.size, 0, none⟩) 0 0) 0 (bls (fun q => ((G q : Nat) : Int)) 0)) := own_base (own_empty w9 5 1) hsz; clear hb9 hsz))
        go_ret2
        rw [HCL.out]
        exact ⟨0, _, ⟨_, rfl, by rw [← HB9.out]; exact O8.out, by rw [← HB9.out]; exact HB.out⟩, (fun h => by cases h), fun _ => rfl⟩
end Go.Proofs.Ytpjpkkgcnnmljaa
