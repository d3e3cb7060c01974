/- PA PB. -/
import Derived.Test.YtddbekacdfohpaaGreatDoorM07
namespace Go.Proofs.YtddbekacdfohpaaGreatDoor
open Go.RowKit

/-- The transform by halves. -/
def fast (bk : Bool) : Nat → (Nat → Option Nat × Option Nat) → Nat → Option Nat × Option Nat
  | 0, P, k => P k
  | j + 1, P, k =>
    let E := fast bk j (fun i => P (2 * i)) (k % 2 ^ j)
    let O := fast bk j (fun i => P (2 * i + 1)) (k % 2 ^ j)
    let s : Int := ((k % 2 ^ j : Nat) : Int) * strd (2 ^ (j + 1)) bk
    if k < 2 ^ j then (cop .add E.1 (cre O.1 O.2 (tre s) (tim s)), cop .add E.2 (cim O.1 O.2 (tre s) (tim s)))
    else (cop .sub E.1 (cre O.1 O.2 (tre s) (tim s)), cop .sub E.2 (cim O.1 O.2 (tre s) (tim s)))

set_option maxRecDepth 100000 in
set_option maxHeartbeats 1000000 in
theorem other_any {w : World} {g n h f : Nat} {X Y : Nat → Nat} (hv : Zr w g n X Y) (hn : n = 2 * h) (hh : h ≤ 64) (hf : f ≤ 1) :
    Calls Tryz.prog 41 #[zv g n, .int .i64 f] w fun e w' => e = .returned (zv w.heap.size h) ∧ Zr w' w.heap.size h (fun i => X (2 * i + f)) (fun i => Y (2 * i + f)) ∧ Below w.heap.size w w' := by
  obtain ⟨i0, hi, hz0, hz1, hz2⟩ := info_parts Tryz.info87c
  obtain ⟨w1, hm, hrow, hgr⟩ := run_makeSlice_full (P := Tryz.prog) w w.heap.size 50 87 i0 (.complex .f64 0 0) 1 Tryz.underlying50 hi hz0 hz1 .i64 .i64 h (by omega) (by rw [hz2]; omega) (by unfold maxLen; omega) (Nat.le_refl _)
  have hbl : Below w.heap.size w w1 := (Below.refl _ _).grown hgr (Nat.le_refl _) (fun _ h => by cases h)
  rw [made_czs] at hrow
  have HR : Hid (Oz w1 w.heap.size w.heap.size h h (fun _ => 0) (fun _ => 0)) := hrow
  have HB : Hid (Below w.heap.size w w1) := hbl
  clear hrow hbl hgr hi hz0 hz1 hz2
  obtain ⟨hlt, hc⟩ := hv
  have HC : Hid (∀ k, k < n → w.cell? ⟨g, k, none⟩ = some (.complex .f64 (X k) (Y k))) := hc
  clear hc
  have hST := rStoreZ
  have hd : (n : Int).tdiv 2 = (h : Int) := by rw [Int.tdiv_eq_ediv_of_nonneg (by omega)]; omega
  go_enter Tryz.func41, Tryz.ntmps41
  go_wp2

  go_loopw [13] (fun i wr => ∃ k : Nat, i = .int .i64 k ∧ k ≤ h ∧ Hid (∃ U V, Oz wr w.heap.size w.heap.size h h U V ∧ (∀ j, j < k → U j = X (2 * j + f) ∧ V j = Y (2 * j + f)) ∧ Below w.heap.size w wr)) (fun i _ => h - (intOf i).toNat)
  case atStart => exact ⟨0, rfl, by omega, fun _ => 0, fun _ => 0, HR.out, fun j hj => by omega, HB.out⟩
  case round =>
    obtain ⟨k, rfl, hk, hrel⟩ := hrel
    obtain ⟨U, V, hown, hxy, hbl⟩ := hrel.out
    have HX : Hid (∀ j, j < k → U j = X (2 * j + f) ∧ V j = Y (2 * j + f)) := hxy
    have HBL : Hid (Below w.heap.size w wr) := hbl
    have HO : Hid (Oz wr w.heap.size w.heap.size h h U V) := hown
    by_cases h1 : k < h
    · have c : wr.cell? ⟨g, 2 * k + f, none⟩ = some (.complex .f64 (X (2 * k + f)) (Y (2 * k + f))) := (hbl.cell (p := ⟨g, 2 * k + f, none⟩) hlt).trans (HC.out _ (by omega))
      have d0 := hown.cell h1
      have z0 := World.ownsRow.frozenAt hown k
      have OP : Hid (Oz (wr.setCell ⟨w.heap.size, k, none⟩ (.complex .f64 (X (2 * k + f)) (Y (2 * k + f)))) w.heap.size w.heap.size h h (fun i => if i = k then X (2 * k + f) else U i) (fun i => if i = k then Y (2 * k + f) else V i)) := hown.put k _ _
      have e1 : 2 * (k : Int) + (f : Int) = ((2 * k + f : Nat) : Int) := by push_cast; rfl
      have e2 : 2 * k + f < n := by omega
      obtain ⟨kk, hkk⟩ : ∃ kk, kk = 2 * k + f := ⟨_, rfl⟩
      have HKK : Hid (kk = 2 * k + f) := hkk
      rw [← hkk] at c OP e1 e2
      clear hkk
      clear hrel hown hxy hbl
      go_wp2

      go_roundw
      case rel =>
        refine ⟨k + 1, by go_num, by omega, _, _, OP.out, fun j hj => ?_, HBL.out.setCell (Nat.le_refl _) _⟩
        by_cases hjk : j = k
        · subst hjk
          rw [if_pos rfl, if_pos rfl, HKK.out]
          exact ⟨rfl, rfl⟩
        · rw [if_neg hjk, if_neg hjk]
          exact HX.out j (by omega)
      case measure => simp [intOf]; omega
    · obtain rfl : h = k := by omega
      clear hrel hown hxy hbl
      go_wp2
      go_ret
      exact ⟨rfl, ⟨(World.ownsRow.lt HO.out _ rfl).2, fun k hk => by rw [HO.out.cell hk, (HX.out k hk).1, (HX.out k hk).2]⟩, HBL.out⟩
end Go.Proofs.YtddbekacdfohpaaGreatDoor

namespace Go.Proofs.YtddbekacdfohpaaGreatDoor
open Go.RowKit

section
variable {P : Program} {md : Region.Mode} {ops : Array Oper} {Q : Exit → Act → World → Prop} {I : World → Prop}
/-- An operation is taken first; its place is told. -/
theorem wpI_takeD {i : Nat} {oi : Oper} {v : Value} (d : Option Tmp) {fuel : Nat} {listed : Array Bool} {a : Act} {w : World} (hi : ops[i]? = some oi) (hd : oi.dst = d)
    (hs : Region.noSelect ops = true) (hf : Region.free md ops listed i = true) (hr : (Region.ready md ops listed).contains i = true)
    (hQ : ∀ c a w, Q (.panic c) (a.put d v) w → Q (.panic c) a w) (hy : YI P ops I oi v a)
    (h : wpI P md ops Q I fuel (listed.setIfInBounds i true) (a.put d v) w) : wpI P md ops Q I (fuel + 1) listed a w := by
  subst hd
  exact wpI_take hi hs hf hr hQ hy h
/-- The same place, written out. -/
theorem wpI_at {fuel : Nat} {listed : Array Bool} {a a' : Act} {w : World} (h : a = a') (hw : wpI P md ops Q I fuel listed a' w) : wpI P md ops Q I fuel listed a w := h ▸ hw
end

theorem Brj.kp {G : Nat} {w w' : World} (h : Brj w) (hG : G ≠ 1) (k : Kp G w w') : Brj w' :=
  ⟨Nat.lt_of_lt_of_le h.size k.size, fun i hi => (k.cell (p := ⟨1, i, none⟩) h.size (Ne.symm hG)).trans (h.cells i hi)⟩

theorem fast_lo (bk : Bool) {j q h n : Nat} (hh : h = 2 ^ j) (hn : n = 2 ^ (j + 1)) (P : Nat → Option Nat × Option Nat) (hq : q < h) : fast bk (j + 1) P q = (cop .add (fast bk j (fun i => P (2 * i)) q).1 (cre (fast bk j (fun i => P (2 * i + 1)) q).1 (fast bk j (fun i => P (2 * i + 1)) q).2 (tre ((q : Int) * strd n bk)) (tim ((q : Int) * strd n bk))), cop .add (fast bk j (fun i => P (2 * i)) q).2 (cim (fast bk j (fun i => P (2 * i + 1)) q).1 (fast bk j (fun i => P (2 * i + 1)) q).2 (tre ((q : Int) * strd n bk)) (tim ((q : Int) * strd n bk)))) := by
  subst hh hn
  simp only [fast, Nat.mod_eq_of_lt hq, if_pos hq]

theorem fast_hi (bk : Bool) {j q h n : Nat} (hh : h = 2 ^ j) (hn : n = 2 ^ (j + 1)) (P : Nat → Option Nat × Option Nat) (hq : q < h) : fast bk (j + 1) P (h + q) = (cop .sub (fast bk j (fun i => P (2 * i)) q).1 (cre (fast bk j (fun i => P (2 * i + 1)) q).1 (fast bk j (fun i => P (2 * i + 1)) q).2 (tre ((q : Int) * strd n bk)) (tim ((q : Int) * strd n bk))), cop .sub (fast bk j (fun i => P (2 * i)) q).2 (cim (fast bk j (fun i => P (2 * i + 1)) q).1 (fast bk j (fun i => P (2 * i + 1)) q).2 (tre ((q : Int) * strd n bk)) (tim ((q : Int) * strd n bk)))) := by
  subst hh hn
  have h1 : (2 ^ j + q) % 2 ^ j = q := by rw [Nat.add_mod_left, Nat.mod_eq_of_lt hq]
  have h2 : ¬ 2 ^ j + q < 2 ^ j := by omega
  simp only [fast, h1, if_neg h2]

/-- What the calls of byHalves stand on. -/
structure Hv (w : World) (G : Nat) (pb : Addr) (bk : Bool) : Prop where
  wh : Whl w G bk
  br : Brj w
  g1 : G ≠ 1
  cb : w.cell? pb = some (.bool bk)
  nb : pb.block ≠ G

theorem Hv.kp {w w' : World} {G : Nat} {pb : Addr} {bk : Bool} (h : Hv w G pb bk) (k : Kp G w w') (hw : Whl w' G bk) : Hv w' G pb bk :=
  ⟨hw, h.br.kp h.g1 k, h.g1, (k.cell (World.block_lt_of_cell? w _ h.cb) h.nb).trans h.cb, h.nb⟩
theorem Hv.below {w w' : World} {G : Nat} {pb : Addr} {bk : Bool} (h : Hv w G pb bk) (hb : Below w.heap.size w w') : Hv w' G pb bk := h.kp ((Kp.refl G w).below hb) (h.wh.below hb)

theorem halves_one {w : World} {G g n : Nat} {pb : Addr} {bk : Bool} {X Y : Nat → Nat} {P : Nat → Option Nat × Option Nat} (hn : n = 1) (hv : Hv w G pb bk) (hz : Zr w g n X Y) (hg : g ≠ G) (hP : ∀ k, k < n → (cn (X k), cn (Y k)) = P k) (f : Value) :
    Calls Tryz.prog 19 #[zv g n, f] w fun e w' => ∃ g' X' Y', e = .returned (zv g' n) ∧ Zr w' g' n X' Y' ∧ g' ≠ G ∧ (∀ k, k < n → (cn (X' k), cn (Y' k)) = fast bk 0 P k) ∧ Whl w' G bk ∧ Kp G w w' := by
  have HZ : Hid (Zr w g n X Y) := hz
  have HV : Hid (Hv w G pb bk) := hv
  have HP : Hid (∀ k, k < n → (cn (X k), cn (Y k)) = P k) := hP
  clear hz hv hP
  subst hn
  go_enter Tryz.func19, Tryz.ntmps19
  go_wp2
  go_ret
  exact ⟨g, X, Y, rfl, HZ.out, hg, fun k hk => HP.out k hk, HV.out.wh, Kp.refl _ _⟩

set_option maxRecDepth 100000 in
set_option maxHeartbeats 4000000 in
theorem halves_step {w : World} {G g n h j : Nat} {pb : Addr} {bk : Bool} {X Y : Nat → Nat} {P : Nat → Option Nat × Option Nat} (hj : j + 1 < 8) (hh : h = 2 ^ j) (hn : n = 2 ^ (j + 1)) (hv : Hv w G pb bk) (hz : Zr w g n X Y) (hg : g ≠ G) (hP : ∀ k, k < n → (cn (X k), cn (Y k)) = P k)
    (IH : ∀ (w : World) (g : Nat) (X Y : Nat → Nat) (P : Nat → Option Nat × Option Nat), Hv w G pb bk → Zr w g h X Y → g ≠ G → (∀ k, k < h → (cn (X k), cn (Y k)) = P k) → Calls Tryz.prog 19 #[zv g h, .func (.func 35) #[] #[.pointer (some ⟨G, 0, none⟩), .pointer (some pb)]] w fun e w' => ∃ g' X' Y', e = .returned (zv g' h) ∧ Zr w' g' h X' Y' ∧ g' ≠ G ∧ (∀ k, k < h → (cn (X' k), cn (Y' k)) = fast bk j P k) ∧ Whl w' G bk ∧ Kp G w w') :
    Calls Tryz.prog 19 #[zv g n, .func (.func 35) #[] #[.pointer (some ⟨G, 0, none⟩), .pointer (some pb)]] w fun e w' => ∃ g' X' Y', e = .returned (zv g' n) ∧ Zr w' g' n X' Y' ∧ g' ≠ G ∧ (∀ k, k < n → (cn (X' k), cn (Y' k)) = fast bk (j + 1) P k) ∧ Whl w' G bk ∧ Kp G w w' := by
  have hp : 1 ≤ h ∧ h ≤ 64 := by
    rw [hh]
    exact ⟨Nat.two_pow_pos j, Nat.pow_le_pow_right (by decide) (by omega : j ≤ 6)⟩
  have hnh : n = 2 * h := by rw [hn, hh, Nat.pow_succ]; omega
  have LO := fun (P : Nat → Option Nat × Option Nat) (q : Nat) (hq : q < h) => fast_lo bk hh hn P hq
  have HI := fun (P : Nat → Option Nat × Option Nat) (q : Nat) (hq : q < h) => fast_hi bk hh hn P hq
  have LOH : Hid (∀ (P : Nat → Option Nat × Option Nat) (q : Nat), q < h → fast bk (j + 1) P q = (cop .add (fast bk j (fun i => P (2 * i)) q).1 (cre (fast bk j (fun i => P (2 * i + 1)) q).1 (fast bk j (fun i => P (2 * i + 1)) q).2 (tre ((q : Int) * strd n bk)) (tim ((q : Int) * strd n bk))), cop .add (fast bk j (fun i => P (2 * i)) q).2 (cim (fast bk j (fun i => P (2 * i + 1)) q).1 (fast bk j (fun i => P (2 * i + 1)) q).2 (tre ((q : Int) * strd n bk)) (tim ((q : Int) * strd n bk))))) := LO
  have HIH : Hid (∀ (P : Nat → Option Nat × Option Nat) (q : Nat), q < h → fast bk (j + 1) P (h + q) = (cop .sub (fast bk j (fun i => P (2 * i)) q).1 (cre (fast bk j (fun i => P (2 * i + 1)) q).1 (fast bk j (fun i => P (2 * i + 1)) q).2 (tre ((q : Int) * strd n bk)) (tim ((q : Int) * strd n bk))), cop .sub (fast bk j (fun i => P (2 * i)) q).2 (cim (fast bk j (fun i => P (2 * i + 1)) q).1 (fast bk j (fun i => P (2 * i + 1)) q).2 (tre ((q : Int) * strd n bk)) (tim ((q : Int) * strd n bk))))) := HI
  have FOR : Hid (∀ W, Hv W G pb bk → Calls Tryz.prog 35 #[.int .i64 n, .pointer (some ⟨G, 0, none⟩), .pointer (some pb)] W fun e w' => ∃ v g, e = .returned v ∧ Trn w' v n bk g ∧ g ≠ G ∧ Whl w' G bk ∧ Kp G W w') :=
    fun W hW => for_any hj hn bk W G pb hW.wh hW.br hW.cb (World.block_lt_of_cell? W _ hW.cb) hW.nb
  have HIHY : Hid (∀ (w : World) (g : Nat) (X Y : Nat → Nat) (P : Nat → Option Nat × Option Nat), Hv w G pb bk → Zr w g h X Y → g ≠ G → (∀ k, k < h → (cn (X k), cn (Y k)) = P k) → Calls Tryz.prog 19 #[zv g h, .func (.func 35) #[] #[.pointer (some ⟨G, 0, none⟩), .pointer (some pb)]] w fun e w' => ∃ g' X' Y', e = .returned (zv g' h) ∧ Zr w' g' h X' Y' ∧ g' ≠ G ∧ (∀ k, k < h → (cn (X' k), cn (Y' k)) = fast bk j P k) ∧ Whl w' G bk ∧ Kp G w w') := IH
  have HZ : Hid (Zr w g n X Y) := hz
  have HV : Hid (Hv w G pb bk) := hv
  have HP : Hid (∀ k, k < n → (cn (X k), cn (Y k)) = P k) := hP
  have HG : Hid (g ≠ G) := hg
  have hGl : G < w.heap.size := hv.wh.1
  have hd : (n : Int).tdiv 2 = (h : Int) := by rw [Int.tdiv_eq_ediv_of_nonneg (by omega)]; omega
  have hn1 : ((n : Int) == 1) = false := by rw [beq_eq_false_iff_ne]; omega
  obtain ⟨i0, hi, hz0, hz1, hz2⟩ := info_parts Tryz.info87c
  have INFO : Hid (Tryz.prog.info? 87 = some i0 ∧ i0.zero = some (.complex .f64 0 0) ∧ i0.size = 1 ∧ i0.bytes = 16) := ⟨hi, hz0, hz1, hz2⟩
  have hST := rStoreZ
  have hcA := rcAdd
  have hcS := rcSub
  have hfc := fwor_cell
  have hff := fwor_frozen
  have HNH : Hid (n = 2 * h) := hnh
  have hlt2 : h < n := by omega
  have hn128 : n ≤ 128 := by omega
  clear hh hn hz hv hP hg IH LO HI hi hz0 hz1 hz2
  have o1 : Calls Tryz.prog 41 #[zv g n, .int .i64 0] w fun e w' => e = .returned (zv w.heap.size h) ∧ Zr w' w.heap.size h (fun i => X (2 * i)) (fun i => Y (2 * i)) ∧ Below w.heap.size w w' := other_any HZ.out hnh hp.2 (f := 0) (by omega)
  clear hnh
  go_enter Tryz.func19, Tryz.ntmps19
  go_wp2_with (first
    | (go_at_call 41; (fail_if_success have := M1); (with_reducible refine o1.mono ?_); rintro e w1 ⟨rfl, z1, b1⟩; have M1 : Hid True := trivial; have j1 := HIHY.out w1 w.heap.size _ _ (fun i => P (2 * i)) (HV.out.below b1) z1 (by omega) (fun k hk => HP.out _ (by have := HNH.out; omega)); have K1 : Hid (Kp G w w1) := (Kp.refl G w).below b1; have V1 : Hid (Hv w1 G pb bk) := HV.out.below b1; clear o1 z1 b1)
    | (go_at_call 19; have Z := M1; (fail_if_success have := M2); (with_reducible refine j1.mono ?_); rintro e w2 ⟨ge, EX, EY, rfl, ze, ne, fe, whe, k2⟩; have M2 : Hid True := trivial; have K2 : Hid (Kp G w w2) := K1.out.trans k2; have V2 : Hid (Hv w2 G pb bk) := V1.out.kp k2 whe; have NE : Hid (ge ≠ G) := ne; have ZE : Hid (Zr w2 ge h EX EY) := ze; have FE : Hid (∀ k, k < h → (cn (EX k), cn (EY k)) = fast bk j (fun i => P (2 * i)) k) := fe; have o2 : Calls Tryz.prog 41 #[zv g n, .int .i64 1] w2 fun e w' => e = .returned (zv w2.heap.size h) ∧ Zr w' w2.heap.size h (fun i => X (2 * i + 1)) (fun i => Y (2 * i + 1)) ∧ Below w2.heap.size w2 w' := other_any (HZ.out.kp HG.out K2.out) HNH.out hp.2 (f := 1) (by omega); clear j1 ze ne fe whe k2)
    | (go_at_call 41; have Z := M2; (fail_if_success have := M3); (with_reducible refine o2.mono ?_); rintro e w3 ⟨rfl, z3, b3⟩; have M3 : Hid True := trivial; have j3 := HIHY.out w3 w2.heap.size _ _ (fun i => P (2 * i + 1)) (V2.out.below b3) z3 (by have := V2.out.wh.1; omega) (fun k hk => HP.out _ (by have := HNH.out; omega)); have K3 : Hid (Kp G w w3) := K2.out.below b3; have V3 : Hid (Hv w3 G pb bk) := V2.out.below b3; have ZE3 : Hid (Zr w3 ge h EX EY) := ZE.out.below b3; clear o2 z3 b3)
    | (go_at_call 19; have Z := M3; (fail_if_success have := M4); (with_reducible refine j3.mono ?_); rintro e w4 ⟨go, OX, OY, rfl, zo, no, fo, who, k4⟩; have M4 : Hid True := trivial; have K4 : Hid (Kp G w w4) := K3.out.trans k4; have V4 : Hid (Hv w4 G pb bk) := V3.out.kp k4 who; have NO : Hid (go ≠ G) := no; have ZO : Hid (Zr w4 go h OX OY) := zo; have FO : Hid (∀ k, k < h → (cn (OX k), cn (OY k)) = fast bk j (fun i => P (2 * i + 1)) k) := fo; have ZE4 : Hid (Zr w4 ge h EX EY) := ZE3.out.kp NE.out k4; have j4 := FOR.out w4 V4.out; clear j3 zo no fo who k4)
    | (go_at_call 35; have Z := M4; (with_reducible refine j4.mono ?_); rintro e w5 ⟨tv, gt, rfl, tr, nt, wh5, k5⟩; have K5 : Hid (Kp G w w5) := K4.out.trans k5; have W5 : Hid (Whl w5 G bk) := wh5; have ZE5 : Hid (Zr w5 ge h EX EY) := ZE4.out.kp NE.out k5; have ZO5 : Hid (Zr w5 go h OX OY) := ZO.out.kp NO.out k5; have TR : Hid (Trn w5 tv n bk gt) := tr; obtain rfl := tr.1; obtain ⟨hi, hz0, hz1, hz2⟩ := INFO.out; obtain ⟨w6, hm, hrow, hgr⟩ := run_makeSlice_full (P := Tryz.prog) w5 w5.heap.size 50 87 i0 (.complex .f64 0 0) 1 Tryz.underlying50 hi hz0 hz1 .i64 .i64 n (by omega) (by rw [hz2]; omega) (by unfold maxLen; omega) (Nat.le_refl _); have hbl : Below w5.heap.size w5 w6 := (Below.refl _ _).grown hgr (Nat.le_refl _) (fun _ h => by cases h); rw [made_czs] at hrow; have HR : Hid (Oz w6 w5.heap.size w5.heap.size n n (fun _ => 0) (fun _ => 0)) := hrow; have HB : Hid (Below w5.heap.size w5 w6) := hbl; clear hrow hbl hgr hi hz0 hz1 hz2 tr nt wh5 k5 j4))
  go_loopw [32] (fun i wr => ∃ k : Nat, i = .int .i64 k ∧ k ≤ h ∧ Hid (∃ U V, Oz wr w5.heap.size w5.heap.size n n U V ∧ (∀ q, q < k → (cn (U q), cn (V q)) = fast bk (j + 1) P q ∧ (cn (U (h + q)), cn (V (h + q))) = fast bk (j + 1) P (h + q)) ∧ Below w5.heap.size w5 wr)) (fun i _ => h - (intOf i).toNat)
  case atStart => exact ⟨0, rfl, by omega, fun _ => 0, fun _ => 0, HR.out, fun j hj => by omega, HB.out⟩
  case round =>
    obtain ⟨k, rfl, hk, hrel⟩ := hrel
    obtain ⟨U, V, hown, hxy, hbl⟩ := hrel.out
    have HX : Hid (∀ q, q < k → (cn (U q), cn (V q)) = fast bk (j + 1) P q ∧ (cn (U (h + q)), cn (V (h + q))) = fast bk (j + 1) P (h + q)) := hxy
    have HBL : Hid (Below w5.heap.size w5 wr) := hbl
    have HO : Hid (Oz wr w5.heap.size w5.heap.size n n U V) := hown
    by_cases h1 : k < h
    · have ce := (ZE5.out.below hbl).2 k h1
      have co := (ZO5.out.below hbl).2 k h1
      obtain ⟨_, tl, TX, TY, tc⟩ := TR.out.below hbl
      obtain ⟨ct, tx, ty⟩ := tc k (by omega)
      have TT : Hid (cn (TX k) = tre ((k : Int) * strd n bk) ∧ cn (TY k) = tim ((k : Int) * strd n bk)) := ⟨tx, ty⟩
      have CE : Hid (wr.cell? ⟨ge, k, none⟩ = some (.complex .f64 (EX k) (EY k))) := ce
      have jt := times_any (OX k) (OY k) (TX k) (TY k)
      obtain ⟨mm, hmm⟩ : ∃ mm, mm = h + k := ⟨_, rfl⟩
      have hhk : (h : Int) + (k : Int) = (mm : Int) := by omega
      have hhn : mm < n := by have := HNH.out; omega
      have HMM : Hid (mm = h + k) := hmm
      clear hmm
      have hkn : k < n := by omega
      have CO : Hid (wr.cell? ⟨go, k, none⟩ = some (.complex .f64 (OX k) (OY k))) := co
      have CT : Hid (wr.cell? ⟨gt, k, none⟩ = some (.complex .f64 (TX k) (TY k))) := ct
      clear hrel hown hxy hbl tc tx ty ce co ct tl
      have l0 : Below w5.heap.size wr wr.drew := (Below.refl _ _).drew
      have rT : ∀ X, Below w5.heap.size wr X → X.cell? ⟨go, k, none⟩ = some (.complex .f64 (OX k) (OY k)) ∧ X.cell? ⟨gt, k, none⟩ = some (.complex .f64 (TX k) (TY k)) ∧ X.cell? ⟨ge, k, none⟩ = some (.complex .f64 (EX k) (EY k)) := fun X hX => ⟨(hX.cell (p := ⟨go, k, none⟩) ZO5.out.1).trans CO.out, (hX.cell (p := ⟨gt, k, none⟩) TR.out.2.1).trans CT.out, (hX.cell (p := ⟨ge, k, none⟩) ZE5.out.1).trans CE.out⟩
      have hsz := HBL.out.size
      go_wp2
      refine wp_region_any (by kernel_rfl) ?_
      change wpAny _ _ _ _ _ _ _ (World.drew _)
      refine wpI_any (I := fun X => Below w5.heap.size wr X) _ _ _ _ ?_
      refine wpI_take (i := 0) (v := ?_) rfl (by kernel_rfl) (by kernel_rfl) (by kernel_rfl) (fun _ _ _ h => h) ⟨by rfl, ?_⟩ ?_
      rotate_left
      · intro X hI; go_simp; try go_bits
        try rw [if_pos (by omega)]
        try with_reducible rfl
      refine wpI_take (i := 1) (v := ?_) rfl (by kernel_rfl) (by kernel_rfl) (by kernel_rfl) (fun _ _ _ h => h) ⟨by rfl, ?_⟩ ?_
      rotate_left
      · intro X hI; go_simp; try go_bits
        try rw [if_pos (by omega)]
        try with_reducible rfl
      refine wpI_take (i := 2) (v := ?_) rfl (by kernel_rfl) (by kernel_rfl) (by kernel_rfl) (fun _ _ _ h => h) ⟨by rfl, ?_⟩ ?_
      rotate_left
      · intro X hI; go_simp; try go_bits
        try rw [if_pos (by omega)]
        try with_reducible rfl
      refine wpI_take (i := 3) (v := ?_) rfl (by kernel_rfl) (by kernel_rfl) (by kernel_rfl) (fun _ _ _ h => h) ⟨by rfl, ?_⟩ ?_
      rotate_left
      · intro X hI; obtain ⟨q1, q2, q3⟩ := rT X hI; go_simp; try go_bits
        try rw [if_pos (by omega)]
        try with_reducible rfl
      refine wpI_take (i := 4) (v := ?_) rfl (by kernel_rfl) (by kernel_rfl) (by kernel_rfl) (fun _ _ _ h => h) ⟨by rfl, ?_⟩ ?_
      rotate_left
      · intro X hI; go_simp; try go_bits
        try rw [if_pos (by omega)]
        try with_reducible rfl
      refine wpI_take (i := 5) (v := ?_) rfl (by kernel_rfl) (by kernel_rfl) (by kernel_rfl) (fun _ _ _ h => h) ⟨by rfl, ?_⟩ ?_
      rotate_left
      · intro X hI; go_simp; try go_bits
        try rw [if_pos (by omega)]
        try with_reducible rfl
      refine wpI_take (i := 6) (v := ?_) rfl (by kernel_rfl) (by kernel_rfl) (by kernel_rfl) (fun _ _ _ h => h) ⟨by rfl, ?_⟩ ?_
      rotate_left
      · intro X hI; go_simp; try go_bits
        try rw [if_pos (by omega)]
        try with_reducible rfl
      refine wpI_take (i := 7) (v := ?_) rfl (by kernel_rfl) (by kernel_rfl) (by kernel_rfl) (fun _ _ _ h => h) ⟨by rfl, ?_⟩ ?_
      rotate_left
      · intro X hI; obtain ⟨q1, q2, q3⟩ := rT X hI; go_simp; try go_bits
        try rw [if_pos (by omega)]
        try with_reducible rfl
      refine wpI_only (i := 8) rfl (by kernel_rfl) l0 (by rfl) ?_
      intro K hK
      go_simp
      go_wp2_with (go_at_call 42; (with_reducible refine (jt _).mono ?_); rintro e x1 ⟨t1, t2, rfl, et1, et2, hb6⟩; have ET : Hid (cn t1 = cre (cn (OX k)) (cn (OY k)) (cn (TX k)) (cn (TY k)) ∧ cn t2 = cim (cn (OX k)) (cn (OY k)) (cn (TX k)) (cn (TY k))) := ⟨et1, et2⟩; have l1 : Below w5.heap.size wr x1 := bgo l0 hsz hb6)
      refine wpI_only (i := 9) rfl (by kernel_rfl) l1 (by rfl) ?_
      intro K hK
      go_simp
      try go_bits
      refine hK _ _ ?_
      refine wpI_done l1 (by kernel_rfl) ?_ _
      have O1 : Hid (Oz x1 w5.heap.size w5.heap.size n n U V) := own_below (own_below HO.out (Below.refl _ _).drew) hb6
      clear hb6 et1 et2 jt
      go_wp2
      refine wp_region_any (by kernel_rfl) ?_
      change wpAny _ _ _ _ _ _ _ (World.drew _)
      refine wpI_any (I := fun X => Below w5.heap.size wr X) _ _ _ _ ?_
      refine wpI_takeD (some 44) (i := 0) (v := ?_) rfl rfl (by kernel_rfl) (by kernel_rfl) (by kernel_rfl) (fun _ _ _ h => h) ⟨by rfl, ?_⟩ ?_
      rotate_left
      · intro X hI; go_simp; try go_bits
        try rw [if_pos (by omega)]
        try with_reducible rfl
      refine wpI_takeD (some 45) (i := 1) (v := ?_) rfl rfl (by kernel_rfl) (by kernel_rfl) (by kernel_rfl) (fun _ _ _ h => h) ⟨by rfl, ?_⟩ ?_
      rotate_left
      · intro X hI; go_simp; try go_bits
        try rw [if_pos (by omega)]
        try with_reducible rfl
      refine wpI_takeD (some 46) (i := 2) (v := ?_) rfl rfl (by kernel_rfl) (by kernel_rfl) (by kernel_rfl) (fun _ _ _ h => h) ⟨by rfl, ?_⟩ ?_
      rotate_left
      · intro X hI; go_simp; try go_bits
        try rw [if_pos (by omega)]
        try with_reducible rfl
      refine wpI_takeD (some 47) (i := 3) (v := ?_) rfl rfl (by kernel_rfl) (by kernel_rfl) (by kernel_rfl) (fun _ _ _ h => h) ⟨by rfl, ?_⟩ ?_
      rotate_left
      · intro X hI; go_simp; try go_bits
        try rw [if_pos (by omega)]
        try with_reducible rfl
      refine wpI_takeD (some 48) (i := 4) (v := .int .i64 h) rfl rfl (by kernel_rfl) (by kernel_rfl) (by kernel_rfl) (fun _ _ _ h => h) ⟨by rfl, ?_⟩ ?_
      · intro X hI; go_simp; try go_bits
        try rw [if_pos (by omega)]
        try trivial
      refine wpI_takeD (some 49) (i := 5) (v := ?_) rfl rfl (by kernel_rfl) (by kernel_rfl) (by kernel_rfl) (fun _ _ _ h => h) ⟨by rfl, ?_⟩ ?_
      rotate_left
      · intro X hI; go_simp; try go_bits
        try rw [if_pos (by omega)]
        try with_reducible rfl
      refine wpI_takeD (some 50) (i := 6) (v := .int .i64 mm) rfl rfl (by kernel_rfl) (by kernel_rfl) (by kernel_rfl) (fun _ _ _ h => h) ⟨by rfl, ?_⟩ ?_
      · intro X hI; go_simp; try go_bits
        try rw [if_pos (by omega)]
        try trivial
      refine wpI_takeD (some 51) (i := 7) (v := ?_) rfl rfl (by kernel_rfl) (by kernel_rfl) (by kernel_rfl) (fun _ _ _ h => h) ⟨by rfl, ?_⟩ ?_
      rotate_left
      · intro X hI; go_simp; try go_bits
        try rw [if_pos (by omega)]
        try with_reducible rfl
      refine wpI_takeD (some 52) (i := 8) (v := ?_) rfl rfl (by kernel_rfl) (by kernel_rfl) (by kernel_rfl) (fun _ _ _ h => h) ⟨by rfl, ?_⟩ ?_
      rotate_left
      · intro X hI; go_simp; try go_bits
        try rw [if_pos (by omega)]
        try with_reducible rfl
      refine wpI_takeD (some 53) (i := 9) (v := ?_) rfl rfl (by kernel_rfl) (by kernel_rfl) (by kernel_rfl) (fun _ _ _ h => h) ⟨by rfl, ?_⟩ ?_
      rotate_left
      · intro X hI; go_simp; try go_bits
        try rw [if_pos (by omega)]
        try with_reducible rfl
      refine wpI_takeD (some 54) (i := 10) (v := ?_) rfl rfl (by kernel_rfl) (by kernel_rfl) (by kernel_rfl) (fun _ _ _ h => h) ⟨by rfl, ?_⟩ ?_
      rotate_left
      · intro X hI; obtain ⟨q1, q2, q3⟩ := rT X hI; go_simp; try go_bits
        try rw [if_pos (by omega)]
        try with_reducible rfl
      refine wpI_takeD (some 55) (i := 11) (v := ?_) rfl rfl (by kernel_rfl) (by kernel_rfl) (by kernel_rfl) (fun _ _ _ h => h) ⟨by rfl, ?_⟩ ?_
      rotate_left
      · intro X hI; go_simp; try go_bits
        try rw [if_pos (by omega)]
        try with_reducible rfl
      refine wpI_takeD (some 57) (i := 13) (v := ?_) rfl rfl (by kernel_rfl) (by kernel_rfl) (by kernel_rfl) (fun _ _ _ h => h) ⟨by rfl, ?_⟩ ?_
      rotate_left
      · intro X hI; go_simp; try go_bits
        try rw [if_pos (by omega)]
        try with_reducible rfl
      refine wpI_takeD (some 58) (i := 14) (v := ?_) rfl rfl (by kernel_rfl) (by kernel_rfl) (by kernel_rfl) (fun _ _ _ h => h) ⟨by rfl, ?_⟩ ?_
      rotate_left
      · intro X hI; go_simp; try go_bits
        try rw [if_pos (by omega)]
        try with_reducible rfl
      refine wpI_takeD (some 59) (i := 15) (v := ?_) rfl rfl (by kernel_rfl) (by kernel_rfl) (by kernel_rfl) (fun _ _ _ h => h) ⟨by rfl, ?_⟩ ?_
      rotate_left
      · intro X hI; go_simp; try go_bits
        try rw [if_pos (by omega)]
        try with_reducible rfl
      refine wpI_takeD (some 60) (i := 16) (v := ?_) rfl rfl (by kernel_rfl) (by kernel_rfl) (by kernel_rfl) (fun _ _ _ h => h) ⟨by rfl, ?_⟩ ?_
      rotate_left
      · intro X hI; obtain ⟨q1, q2, q3⟩ := rT X hI; go_simp; try go_bits
        try rw [if_pos (by omega)]
        try with_reducible rfl
      refine wpI_takeD (some 61) (i := 17) (v := ?_) rfl rfl (by kernel_rfl) (by kernel_rfl) (by kernel_rfl) (fun _ _ _ h => h) ⟨by rfl, ?_⟩ ?_
      rotate_left
      · intro X hI; go_simp; try go_bits
        try rw [if_pos (by omega)]
        try with_reducible rfl
      have l2 := l1.drew
      have O2 := own_below O1.out (Below.refl _ _).drew
      clear l1
      generalize x1.drew = W0 at l2 O2 ⊢
      refine wpI_two (i := 12) (j := 18) rfl rfl (by kernel_rfl) l2 (by rfl) (by rfl) ?_ ?_
      · intro K hK
        have l3 := below_fwor (below_fwor l2 .add (EX k) t1) .add (EY k) t2
        have O3 := own_below O2 (below_fwor (below_fwor (Below.refl _ W0) .add (EX k) t1) .add (EY k) t2)
        have ea1 := cn_fres .add W0 (EX k) t1
        have ea2 := cn_fres .add (fwor .add W0 (EX k) t1) (EY k) t2
        go_simp
        refine hK _ _ ?_
        clear hK K
        generalize fres .add W0 (EX k) t1 = za at ea1 ⊢
        generalize fres .add (fwor .add W0 (EX k) t1) (EY k) t2 = zb at ea2 ⊢
        generalize fwor .add (fwor .add W0 (EX k) t1) (EY k) t2 = W3 at l3 O3 ⊢
        clear l2 O2
        refine wpI_takeD (some 63) (i := 19) (v := .pointer (some ⟨w5.heap.size, k, none⟩)) rfl rfl (by kernel_rfl) (by kernel_rfl) (by kernel_rfl) (fun _ _ _ h => h) ⟨by rfl, ?_⟩ ?_
        · intro X hI; go_simp; try go_bits
          try rw [if_pos (by omega)]
        refine wpI_two (i := 18) (j := 20) rfl rfl (by kernel_rfl) l3 (by rfl) (by rfl) ?_ ?_
        · intro K hK
          have l4 := below_fwor (below_fwor l3 .sub (EX k) t1) .sub (EY k) t2
          have O4 := own_below O3 (below_fwor (below_fwor (Below.refl _ W3) .sub (EX k) t1) .sub (EY k) t2)
          have es1 := cn_fres .sub W3 (EX k) t1
          have es2 := cn_fres .sub (fwor .sub W3 (EX k) t1) (EY k) t2
          go_simp
          refine hK _ _ ?_
          clear hK K
          generalize fres .sub W3 (EX k) t1 = ya at es1 ⊢
          generalize fres .sub (fwor .sub W3 (EX k) t1) (EY k) t2 = yb at es2 ⊢
          generalize fwor .sub (fwor .sub W3 (EX k) t1) (EY k) t2 = W4 at l4 O4 ⊢
          clear l3 O3
          refine wpI_only (i := 20) rfl (by kernel_rfl) l4 (by rfl) ?_
          intro K hK
          have d0 := Oz.cell O4 hkn
          have y0 := World.ownsRow.frozenAt O4 (k)
          have l5 := l4.setCell (p := ⟨w5.heap.size, k, none⟩) (Nat.le_refl _) (.complex .f64 za zb)
          have O5 := Oz.put O4 (k) za zb
          go_simp
          refine hK _ _ ?_
          clear hK K d0 y0
          generalize W4.setCell ⟨w5.heap.size, k, none⟩ (.complex .f64 za zb) = W5 at l5 O5 ⊢
          clear l4 O4
          refine wpI_takeD (some 64) (i := 21) (v := .pointer (some ⟨w5.heap.size, mm, none⟩)) rfl rfl (by kernel_rfl) (by kernel_rfl) (by kernel_rfl) (fun _ _ _ h => h) ⟨by rfl, ?_⟩ ?_
          · intro X hI; go_simp; try go_bits
            try rw [if_pos (by omega)]
          refine wpI_only (i := 22) rfl (by kernel_rfl) l5 (by rfl) ?_
          intro K hK
          have d0 := Oz.cell O5 hhn
          have y0 := World.ownsRow.frozenAt O5 (mm)
          have l6 := l5.setCell (p := ⟨w5.heap.size, mm, none⟩) (Nat.le_refl _) (.complex .f64 ya yb)
          have O6 := Oz.put O5 (mm) ya yb
          go_simp
          refine hK _ _ ?_
          clear hK K d0 y0
          generalize W5.setCell ⟨w5.heap.size, mm, none⟩ (.complex .f64 ya yb) = W6 at l6 O6 ⊢
          clear l5 O5
          refine wpI_done l6 (by kernel_rfl) ?_ _
          have OP : Hid (Oz W6 w5.heap.size w5.heap.size n n (fun i => if i = mm then ya else if i = k then za else U i) (fun i => if i = mm then yb else if i = k then zb else V i)) := O6
          have B8 : Hid (Below w5.heap.size w5 W6) := HBL.out.trans l6
          have E12 : Hid (cn za = cop .add (cn (EX k)) (cn t1) ∧ cn zb = cop .add (cn (EY k)) (cn t2) ∧ cn ya = cop .sub (cn (EX k)) (cn t1) ∧ cn yb = cop .sub (cn (EY k)) (cn t2)) := ⟨ea1, ea2, es1, es2⟩
          clear rT
          go_wp2
          go_roundw
          case rel =>
            refine ⟨k + 1, by go_num, by omega, _, _, OP.out, fun q hq => ?_, B8.out⟩
            obtain rfl := HMM.out
            have e1 : ¬ q = h + k := by omega
            have e2 : ¬ h + q = k := by omega
            obtain ⟨pe1, pe2⟩ := Prod.mk.inj (FE.out k h1)
            obtain ⟨po1, po2⟩ := Prod.mk.inj (FO.out k h1)
            by_cases hqk : q = k
            · subst hqk
              rw [if_neg e1, if_neg e1, if_pos rfl, if_pos rfl, if_pos rfl, if_pos rfl, LOH.out P q h1, HIH.out P q h1]
              rw [E12.out.1, E12.out.2.1, E12.out.2.2.1, E12.out.2.2.2, ET.out.1, ET.out.2, TT.out.1, TT.out.2, pe1, pe2, po1, po2]
              exact ⟨rfl, rfl⟩
            · have e3 : ¬ h + q = h + k := by omega
              rw [if_neg e1, if_neg e1, if_neg hqk, if_neg hqk, if_neg e3, if_neg e3, if_neg e2, if_neg e2]
              exact HX.out q (by omega)
          case measure => simp [intOf]; omega
        · intro K hK
          have d0 := Oz.cell O3 hkn
          have y0 := World.ownsRow.frozenAt O3 (k)
          have l7 := l3.setCell (p := ⟨w5.heap.size, k, none⟩) (Nat.le_refl _) (.complex .f64 za zb)
          have O7 := Oz.put O3 (k) za zb
          go_simp
          refine hK _ _ ?_
          clear hK K d0 y0
          generalize W3.setCell ⟨w5.heap.size, k, none⟩ (.complex .f64 za zb) = W7 at l7 O7 ⊢
          clear l3 O3
          refine wpI_only (i := 18) rfl (by kernel_rfl) l7 (by rfl) ?_
          intro K hK
          have l8 := below_fwor (below_fwor l7 .sub (EX k) t1) .sub (EY k) t2
          have O8 := own_below O7 (below_fwor (below_fwor (Below.refl _ W7) .sub (EX k) t1) .sub (EY k) t2)
          have es1 := cn_fres .sub W7 (EX k) t1
          have es2 := cn_fres .sub (fwor .sub W7 (EX k) t1) (EY k) t2
          go_simp
          refine hK _ _ ?_
          clear hK K
          generalize fres .sub W7 (EX k) t1 = ya at es1 ⊢
          generalize fres .sub (fwor .sub W7 (EX k) t1) (EY k) t2 = yb at es2 ⊢
          generalize fwor .sub (fwor .sub W7 (EX k) t1) (EY k) t2 = W8 at l8 O8 ⊢
          clear l7 O7
          refine wpI_takeD (some 64) (i := 21) (v := .pointer (some ⟨w5.heap.size, mm, none⟩)) rfl rfl (by kernel_rfl) (by kernel_rfl) (by kernel_rfl) (fun _ _ _ h => h) ⟨by rfl, ?_⟩ ?_
          · intro X hI; go_simp; try go_bits
            try rw [if_pos (by omega)]
          refine wpI_only (i := 22) rfl (by kernel_rfl) l8 (by rfl) ?_
          intro K hK
          have d0 := Oz.cell O8 hhn
          have y0 := World.ownsRow.frozenAt O8 (mm)
          have l9 := l8.setCell (p := ⟨w5.heap.size, mm, none⟩) (Nat.le_refl _) (.complex .f64 ya yb)
          have O9 := Oz.put O8 (mm) ya yb
          go_simp
          refine hK _ _ ?_
          clear hK K d0 y0
          generalize W8.setCell ⟨w5.heap.size, mm, none⟩ (.complex .f64 ya yb) = W9 at l9 O9 ⊢
          clear l8 O8
          refine wpI_done l9 (by kernel_rfl) ?_ _
          have OP : Hid (Oz W9 w5.heap.size w5.heap.size n n (fun i => if i = mm then ya else if i = k then za else U i) (fun i => if i = mm then yb else if i = k then zb else V i)) := O9
          have B8 : Hid (Below w5.heap.size w5 W9) := HBL.out.trans l9
          have E12 : Hid (cn za = cop .add (cn (EX k)) (cn t1) ∧ cn zb = cop .add (cn (EY k)) (cn t2) ∧ cn ya = cop .sub (cn (EX k)) (cn t1) ∧ cn yb = cop .sub (cn (EY k)) (cn t2)) := ⟨ea1, ea2, es1, es2⟩
          clear rT
          go_wp2
          go_roundw
          case rel =>
            refine ⟨k + 1, by go_num, by omega, _, _, OP.out, fun q hq => ?_, B8.out⟩
            obtain rfl := HMM.out
            have e1 : ¬ q = h + k := by omega
            have e2 : ¬ h + q = k := by omega
            obtain ⟨pe1, pe2⟩ := Prod.mk.inj (FE.out k h1)
            obtain ⟨po1, po2⟩ := Prod.mk.inj (FO.out k h1)
            by_cases hqk : q = k
            · subst hqk
              rw [if_neg e1, if_neg e1, if_pos rfl, if_pos rfl, if_pos rfl, if_pos rfl, LOH.out P q h1, HIH.out P q h1]
              rw [E12.out.1, E12.out.2.1, E12.out.2.2.1, E12.out.2.2.2, ET.out.1, ET.out.2, TT.out.1, TT.out.2, pe1, pe2, po1, po2]
              exact ⟨rfl, rfl⟩
            · have e3 : ¬ h + q = h + k := by omega
              rw [if_neg e1, if_neg e1, if_neg hqk, if_neg hqk, if_neg e3, if_neg e3, if_neg e2, if_neg e2]
              exact HX.out q (by omega)
          case measure => simp [intOf]; omega
      · intro K hK
        have l10 := below_fwor (below_fwor l2 .sub (EX k) t1) .sub (EY k) t2
        have O10 := own_below O2 (below_fwor (below_fwor (Below.refl _ W0) .sub (EX k) t1) .sub (EY k) t2)
        have es1 := cn_fres .sub W0 (EX k) t1
        have es2 := cn_fres .sub (fwor .sub W0 (EX k) t1) (EY k) t2
        go_simp
        refine hK _ _ ?_
        clear hK K
        generalize fres .sub W0 (EX k) t1 = ya at es1 ⊢
        generalize fres .sub (fwor .sub W0 (EX k) t1) (EY k) t2 = yb at es2 ⊢
        generalize fwor .sub (fwor .sub W0 (EX k) t1) (EY k) t2 = W10 at l10 O10 ⊢
        clear l2 O2
        refine wpI_only (i := 12) rfl (by kernel_rfl) l10 (by rfl) ?_
        intro K hK
        have l11 := below_fwor (below_fwor l10 .add (EX k) t1) .add (EY k) t2
        have O11 := own_below O10 (below_fwor (below_fwor (Below.refl _ W10) .add (EX k) t1) .add (EY k) t2)
        have ea1 := cn_fres .add W10 (EX k) t1
        have ea2 := cn_fres .add (fwor .add W10 (EX k) t1) (EY k) t2
        go_simp
        refine hK _ _ ?_
        clear hK K
        generalize fres .add W10 (EX k) t1 = za at ea1 ⊢
        generalize fres .add (fwor .add W10 (EX k) t1) (EY k) t2 = zb at ea2 ⊢
        generalize fwor .add (fwor .add W10 (EX k) t1) (EY k) t2 = W11 at l11 O11 ⊢
        clear l10 O10
        refine wpI_takeD (some 63) (i := 19) (v := .pointer (some ⟨w5.heap.size, k, none⟩)) rfl rfl (by kernel_rfl) (by kernel_rfl) (by kernel_rfl) (fun _ _ _ h => h) ⟨by rfl, ?_⟩ ?_
        · intro X hI; go_simp; try go_bits
          try rw [if_pos (by omega)]
        refine wpI_only (i := 20) rfl (by kernel_rfl) l11 (by rfl) ?_
        intro K hK
        have d0 := Oz.cell O11 hkn
        have y0 := World.ownsRow.frozenAt O11 (k)
        have l12 := l11.setCell (p := ⟨w5.heap.size, k, none⟩) (Nat.le_refl _) (.complex .f64 za zb)
        have O12 := Oz.put O11 (k) za zb
        go_simp
        refine hK _ _ ?_
        clear hK K d0 y0
        generalize W11.setCell ⟨w5.heap.size, k, none⟩ (.complex .f64 za zb) = W12 at l12 O12 ⊢
        clear l11 O11
        refine wpI_takeD (some 64) (i := 21) (v := .pointer (some ⟨w5.heap.size, mm, none⟩)) rfl rfl (by kernel_rfl) (by kernel_rfl) (by kernel_rfl) (fun _ _ _ h => h) ⟨by rfl, ?_⟩ ?_
        · intro X hI; go_simp; try go_bits
          try rw [if_pos (by omega)]
        refine wpI_only (i := 22) rfl (by kernel_rfl) l12 (by rfl) ?_
        intro K hK
        have d0 := Oz.cell O12 hhn
        have y0 := World.ownsRow.frozenAt O12 (mm)
        have l13 := l12.setCell (p := ⟨w5.heap.size, mm, none⟩) (Nat.le_refl _) (.complex .f64 ya yb)
        have O13 := Oz.put O12 (mm) ya yb
        go_simp
        refine hK _ _ ?_
        clear hK K d0 y0
        generalize W12.setCell ⟨w5.heap.size, mm, none⟩ (.complex .f64 ya yb) = W13 at l13 O13 ⊢
        clear l12 O12
        refine wpI_done l13 (by kernel_rfl) ?_ _
        have OP : Hid (Oz W13 w5.heap.size w5.heap.size n n (fun i => if i = mm then ya else if i = k then za else U i) (fun i => if i = mm then yb else if i = k then zb else V i)) := O13
        have B8 : Hid (Below w5.heap.size w5 W13) := HBL.out.trans l13
        have E12 : Hid (cn za = cop .add (cn (EX k)) (cn t1) ∧ cn zb = cop .add (cn (EY k)) (cn t2) ∧ cn ya = cop .sub (cn (EX k)) (cn t1) ∧ cn yb = cop .sub (cn (EY k)) (cn t2)) := ⟨ea1, ea2, es1, es2⟩
        clear rT
        go_wp2
        go_roundw
        case rel =>
          refine ⟨k + 1, by go_num, by omega, _, _, OP.out, fun q hq => ?_, B8.out⟩
          obtain rfl := HMM.out
          have e1 : ¬ q = h + k := by omega
          have e2 : ¬ h + q = k := by omega
          obtain ⟨pe1, pe2⟩ := Prod.mk.inj (FE.out k h1)
          obtain ⟨po1, po2⟩ := Prod.mk.inj (FO.out k h1)
          by_cases hqk : q = k
          · subst hqk
            rw [if_neg e1, if_neg e1, if_pos rfl, if_pos rfl, if_pos rfl, if_pos rfl, LOH.out P q h1, HIH.out P q h1]
            rw [E12.out.1, E12.out.2.1, E12.out.2.2.1, E12.out.2.2.2, ET.out.1, ET.out.2, TT.out.1, TT.out.2, pe1, pe2, po1, po2]
            exact ⟨rfl, rfl⟩
          · have e3 : ¬ h + q = h + k := by omega
            rw [if_neg e1, if_neg e1, if_neg hqk, if_neg hqk, if_neg e3, if_neg e3, if_neg e2, if_neg e2]
            exact HX.out q (by omega)
        case measure => simp [intOf]; omega
    · obtain rfl : h = k := by omega
      clear hrel hown hxy hbl
      go_wp2
      go_ret
      refine ⟨w5.heap.size, U, V, rfl, ⟨(World.ownsRow.lt HO.out _ rfl).2, fun k hk => HO.out.cell hk⟩, ?_, fun q hq => ?_, W5.out.below HBL.out, K5.out.below HBL.out⟩
      · have := W5.out.1
        omega
      · by_cases hqh : q < h
        · exact (HX.out q hqh).1
        · have := (HX.out (q - h) (by have := HNH.out; omega)).2
          rw [show h + (q - h) = q by omega] at this
          exact this
end Go.Proofs.YtddbekacdfohpaaGreatDoor
