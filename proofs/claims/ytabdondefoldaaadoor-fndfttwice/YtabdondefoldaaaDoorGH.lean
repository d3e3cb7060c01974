/- Dft2: the program's. -/
import Derived.Test.YtabdondefoldaaaDoorGE
namespace Go.Proofs.YtabdondefoldaaaDoor
open Go.RowKit

/-- The slice holds n lists of ints. -/
def Ipp (w : World) (v : Value) (n : Nat) (ms : Nat → Nat) (X : Nat → Nat → Int) : Prop := ∃ ao cap, v = .slice ao n cap ∧ n ≤ cap ∧ (0 < n → ∃ b off, ∃ R : Nat → Value, ao = some ⟨b, off, none⟩ ∧ b < w.heap.size ∧ ∀ k, k < n → w.cell? ⟨b, off + k, none⟩ = some (R k) ∧ Il w (R k) (ms k) (X k))

theorem own_some {X : World} {B c : Nat} {u : Value} {L : List Value} (h : X.ownsRow B 3 1 u c L) (hc : 1 ≤ c) : ∃ g cap, u = .slice (some ⟨g, 0, none⟩) c cap ∧ B ≤ g := by
  rcases h.2 with ⟨_, h0⟩ | ⟨g, cap, cur, rfl, hb, _⟩
  · omega
  · exact ⟨g, cap, rfl, hb⟩

theorem Rgr.congr {X : World} {B j c : Nat} {o : Value} {gs cs : Nat → Nat} {M M' : Nat → Nat → Int} (h : Rgr X B o j c gs cs M) (e : ∀ i, i < j → M i = M' i) : Rgr X B o j c gs cs M' :=
  ⟨h.row, fun i hi => by rw [← e i hi]; exact h.rows i hi, h.inj⟩

theorem Rgr.gs_lt {X : World} {B j c : Nat} {o : Value} {gs cs : Nat → Nat} {M : Nat → Nat → Int} (h : Rgr X B o j c gs cs M) {i : Nat} (hi : i < j) : gs i < X.heap.size := own_ltg (h.rows i hi)

/-- Each row transformed; then each column. -/
def dr (c : Nat) (p : Int) (back : Bool) (T : Nat → Nat → Int) : Nat → Nat → Int := fun i => dft (T i) c (dW c p back) (dB c p back) p
def d2 (n c : Nat) (p : Int) (back : Bool) (T : Nat → Nat → Int) : Nat → Nat → Int := fun k j => dft (fun i => dr c p back T i j) n (dW n p back) (dB n p back) p k

theorem dr_bounds {c : Nat} {p : Int} {back : Bool} {T : Nat → Nat → Int} (hp : Prm p) (i j : Nat) : 0 ≤ dr c p back T i j ∧ dr c p back T i j < p := by
  have := hp.bounds
  exact ⟨Int.emod_nonneg _ (by omega), Int.emod_lt_of_pos _ (by omega)⟩

theorem dr_inv {n c m : Nat} {p sh : Int} {back : Bool} {T : Nat → Nat → Int} {Tt : Nat → Int} (hp : Prm p) (j : Nat) : ∀ t, t < n → 0 ≤ trf (dmf p sh Tt) n (fun i => dr c p back T i j) m t ∧ trf (dmf p sh Tt) n (fun i => dr c p back T i j) m t < p := by
  have := hp.bounds
  exact trf_inv (p := p) (fun a b t => ⟨⟨Int.emod_nonneg _ (by omega), Int.emod_lt_of_pos _ (by omega)⟩, ⟨Int.emod_nonneg _ (by omega), Int.emod_lt_of_pos _ (by omega)⟩⟩) (fun t _ => dr_bounds hp t j)

/-- Good for Dft2. -/
abbrev G2 (n c : Nat) (ms : Nat → Nat) (T : Nat → Nat → Int) (p : Int) : Prop := Whl n ∧ ∀ i, i < n → ms i = c ∧ GF c (T i) p

set_option maxRecDepth 20000 in
set_option maxHeartbeats 8000000 in
theorem iDft2_yes {w : World} {v : Value} {n c : Nat} {ms : Nat → Nat} {T : Nat → Nat → Int} {p : Int} {back : Bool} (hs : Prs w) (hv : Ipp w v n ms T) (hg : G2 n c ms T p) :
    Calls Tryd.prog 6 #[v, .int .i64 p, .bool back] w fun e w' => ∃ u gs cs, e = .returned (.tuple #[u, .bool true]) ∧ Rgr w' w.heap.size u n c gs cs (d2 n c p back T) ∧ Below w.heap.size w w' := by
  obtain ⟨m, hm, hn⟩ := hg.1.pow
  have hn1 : 1 ≤ n ∧ n ≤ 256 := by have := hg.1; omega
  have hc1 : 1 ≤ c ∧ c ≤ 256 := by have := (hg.2 0 (by omega)).2.2.2; omega
  have hpr : Prm p := (hg.2 0 (by omega)).2.1
  have HP : Hid (Prm p) := hpr
  have i2 := iWhl_any n
  rw [decide_eq_true hg.1] at i2
  have HS : Hid (Prs w) := hs
  have HG : Hid (∀ i, i < n → ms i = c ∧ GF c (T i) p) := hg.2
  have HW : Hid (Whl n) := hg.1
  have HN : Hid (n = 2 ^ m) := hn
  obtain ⟨ao, cap, rfl, hcap, hx⟩ := hv
  obtain ⟨b, off, R, rfl, hlt, hcell⟩ := hx (by omega)
  have HC : Hid (b < w.heap.size ∧ ∀ k, k < n → ∃ a cp, w.cell? ⟨b, off + k, none⟩ = some (.slice a c cp) ∧ Il w (.slice a c cp) c (T k)) := ⟨hlt, fun k hk => by
    obtain ⟨h1, h2⟩ := hcell k hk
    rw [(HG.out k hk).1] at h2
    obtain ⟨a, cp, e, hq⟩ := h2
    rw [e] at h1
    exact ⟨a, cp, h1, a, cp, rfl, hq⟩⟩
  clear hg hs hn hpr hx hlt hcell
  go_enter Tryd.func6, Tryd.ntmps6
  go_wp2_with (go_at_call 15; (with_reducible refine (i2 _).mono ?_); rintro e w' ⟨rfl, hw⟩; obtain rfl := hw.symm)
  go_loopw [8, 21] (fun u i wr => ∃ k : Nat, i = .int .i64 k ∧ k ≤ n ∧ Hid (∃ gs cs, Rgr wr w.heap.size u k c gs cs (dr c p back T) ∧ Below w.heap.size w wr)) (fun _ i _ => n - (intOf i).toNat)
  case atStart => exact ⟨0, rfl, by omega, fun _ => 0, fun _ => 0, Rgr.start w c _ _ _, below_one _ _⟩
  case round =>
    obtain ⟨k, rfl, hk, hrel⟩ := hrel
    by_cases h1 : k < n
    · obtain ⟨gs, cs, hR, hB⟩ := hrel.out
      have HR : Hid (Rgr wr w.heap.size u8 k c gs cs (dr c p back T)) := hR
      have HB : Hid (Below w.heap.size w wr) := hB
      obtain ⟨a1, cp1, hc1', hl1⟩ := HC.out.2 k h1
      obtain ⟨a0, cp0, hc0', hl0⟩ := HC.out.2 0 (by omega)
      have x1 := (hB.cell (p := ⟨b, off + k, none⟩) HC.out.1).trans hc1'
      have L1 : Hid (Il wr (.slice a1 c cp1) c (T k)) := hl1.below hB
      have X0 : Hid (w.cell? ⟨b, off, none⟩ = some (.slice a0 c cp0)) := hc0'
      have i5 := iDft_yes (back := back) (HS.out.below hB) L1.out (HG.out k h1).2
      clear hR hB hrel hc1' hc0' hl1 hl0
      go_wp2_with (first
        | (go_at_call 16; (with_reducible refine i5.mono ?_); rintro e w2 ⟨u, rfl, ho, hb⟩; obtain ⟨gr, cr, rfl, hgr⟩ := own_some ho hc1.1; obtain ⟨v', w3, hap, hG, hgw⟩ := app_row (HR.out.call hb) (own_base ho HB.out.size) (fun i hi => by have := HR.out.gs_lt hi; omega) (by omega) (Nat.le_trans HB.out.size hb.size); have x0 := ((bstep HB.out hb).cell (p := ⟨b, off, none⟩) HC.out.1).trans X0.out; have HAP : Hid _ := hap; have HG3 : Hid (∃ gs cs, Rgr w3 w.heap.size v' (k + 1) c gs cs (dr c p back T)) := ⟨_, _, hG.congr (fun i hi => by by_cases e : i = k; rw [if_pos e, e]; rfl; rw [if_neg e])⟩; have B3 : Hid (Below w.heap.size w w3) := grown_below (bstep (bstep HB.out hb) (below_one _ _)) (Nat.le_refl _) (own_below (HR.out.call hb).row (below_one _ _)) hgw; clear ho hb hap hG hgw hgr)
        | (at_builtin; refine wpList_appr rfl _ _ rfl rfl rfl rfl HAP.out ?_))
      go_roundw
      case rel => obtain ⟨g1, g2, h9⟩ := HG3.out; exact ⟨k + 1, by go_num, by omega, g1, g2, h9, B3.out⟩
      case measure => simp [intOf]; omega
    · obtain rfl : k = n := by omega
      obtain ⟨gs, cs, hR, hB⟩ := hrel.out
      obtain ⟨g, cp, rfl, hW⟩ := hR.rws hn1.1
      have HWW : Hid (Rws wr w.heap.size g k cp c gs cs (dr c p back T)) := hW
      have HB : Hid (Below w.heap.size w wr) := hB
      have i7 := turning_any (n := k) (p := p) (back := back) (HS.out.below hB) HP.out hn1
      clear hR hB hW hrel
      go_wp2_with (first
        | (go_at_call 18; (with_reducible refine i7.mono ?_); rintro e w2 ⟨tu, rfl, ht, hb⟩; have HT : Hid (w2.ownsRow wr.heap.size 3 1 tu (k / 2) (ils (trn (dS p back) (dW k p back) p) (k / 2))) := ht; have HB2 : Hid (Below wr.heap.size wr w2) := hb; clear ht hb)
        | (go_at_call 17; refine (trR_all hm HN.out (HWW.out.call HB2.out) (by omega) (fun i _ j _ => dr_bounds HP.out i j) (dS_bounds HP.out back) (by have := HP.out.bounds; omega) HT.out (fun t => trn_bounds (by have := HP.out.bounds; omega) (dS_bounds HP.out back) t) (own_ltg HWW.out.row) (fun i hi => own_ltg (HWW.out.rows i hi))).mono ?_; rintro e w3 ⟨rfl, h3, h4⟩; have HW3 : Hid (Rws w3 w.heap.size g k cp c gs cs (ctf (dmf p (dS p back) (trn (dS p back) (dW k p back) p)) k (dr c p back T) m)) := h3; have HK3 : Hid (Kdd (fun q => q = g ∨ ∃ i, i < k ∧ q = gs i) w2 w3) := h4; clear h3 h4)
        | (go_at_call 20; refine (inOrdR hm HN.out HW3.out).mono ?_; rintro e w4 ⟨u, rfl, h5, h6⟩; have HU : Hid (w4.ownsRow w3.heap.size 29 1 u k (vls (fun q => rv gs cs c (rvp m q)) k)) := h5; have HB4 : Hid (Below w3.heap.size w3 w4) := h6; clear h5 h6))
      refine bodyPost_ret (v := .tuple #[u, .bool true]) (by simp [results, Tryd.results6, go_sem]) rfl ?_
      have kb : Below w.heap.size w w3 := (bstep HB.out HB2.out).trans ⟨HK3.out.os, HK3.out.tape, HK3.out.output, HK3.out.size, fun q hq => HK3.out.block q (by have := (bstep HB.out HB2.out).size; omega) (by
        rintro (e | ⟨i, hi, e⟩)
        · have := (World.ownsRow.lt HWW.out.row g rfl).1; omega
        · have := (World.ownsRow.lt (HWW.out.rows i hi) (gs i) rfl).1; omega)⟩
      have RF : ∀ q, q < k → rho m (rvp m q) = q ∧ rvp m q < k := fun q hq => by
        have := rev_facts hm (show q < 2 ^ m by have := HN.out; omega)
        exact ⟨this.1, by have h7 := this.2.1; have := HN.out; omega⟩
      have W4 := HW3.out.call HB4.out
      refine ⟨u, fun q => gs (rvp m q), fun q => cs (rvp m q), rfl, ⟨own_base HU.out kb.size, fun q hq => ?_, fun q q2 hq hq2 e => ?_⟩, bstep kb HB4.out⟩
      · have h8 := W4.rows (rvp m q) (RF q hq).2
        have e9 : ctf (dmf p (dS p back) (trn (dS p back) (dW k p back) p)) k (dr c p back T) m (rvp m q) = d2 k c p back T q := funext fun j => dft_whole HP.out HN.out hm HW.out (dr_inv HP.out j) hq
        rw [e9] at h8
        exact h8
      · have := W4.inj _ _ (RF q hq).2 (RF q2 hq2).2 e
        rw [← (RF q hq).1, this, (RF q2 hq2).1]
end Go.Proofs.YtabdondefoldaaaDoor
