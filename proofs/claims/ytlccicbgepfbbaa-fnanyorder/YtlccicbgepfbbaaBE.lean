/- Balance of the program. -/
import Derived.Test.YtlccicbgepfbbaaBD
namespace Go.Proofs.Ytlccicbgepfbbaa
open Go.RowKit

/-- Wires as plain numbers. -/
def wsn (ss : Nat → Wr) : Ws := ⟨fun i => (ss i).fr.toNat, fun i => (ss i).to.toNat, fun i => (ss i).gi.toNat, fun i => (ss i).ta.toNat⟩

theorem wsn_ok {n m : Nat} {ss : Nat → Wr} (h : Wok (n : Int) m ss) : (wsn ss).ok n m := by
  refine ⟨fun i hi => ?_, fun i hi => ?_, fun i hi => ?_, fun i hi => ?_⟩
  all_goals
    have h1 := h.2.2 i hi
    unfold Wgd at h1
    unfold wsn
    simp only
    omega

/-- What Balance tells of wires that are such: the least numbers, or that there are none. -/
def Bpo (n m : Nat) (ss : Nat → Wr) (w w' : World) (e : Ending) : Prop := (∃ r, Lst (wsn ss) n m r ∧ Pst w w' e n (fun i => (r i : Int)) true) ∨ ((¬ ∃ x, Sol (wsn ss) n m x) ∧ ∀ ys, Pst w w' e 0 ys false)

theorem smN_const (n c : Nat) : smN n (fun _ => c) = n * c := by
  induction n with
  | zero => exact (Nat.zero_mul c).symm
  | succ n ih =>
    show smN n (fun _ => c) + c = _
    rw [ih, Nat.succ_mul]

theorem join_any {w : World} {B G P Q n cf cg m k : Nat} {f g : Nat → Nat} {ss : Nat → Wr} (h : Blc w B G P Q n cf cg (fun i => (f i : Int)) (fun i => (g i : Int))) (hw : Wok (n : Int) m ss) (hk : k < m) (hi : Inv (wsn ss) n k f g) (hs : smN n f ≤ 2000) :
    Calls Try.prog 42 #[.pointer (some ⟨G, 0, none⟩), (ss k).v] w fun e w' => Kd (fun q => q = P ∨ q = Q) w w' ∧ ((∃ f g, e = .returned (.bool true) ∧ Inv (wsn ss) n (k + 1) f g ∧ smN n f ≤ 2000 ∧ Blc w' B G P Q n cf cg (fun i => (f i : Int)) (fun i => (g i : Int))) ∨ (e = .returned (.bool false) ∧ ¬ ∃ x, Sol (wsn ss) n m x)) := by
  have hok := wsn_ok hw
  have hn : n ≤ 20 := by have := hw.1; omega
  have hf : ∀ b, b < n → 1 ≤ f b ∧ f b ≤ 2000 := fun b hb => ⟨hi.pos b hb, by have := smN_one (f := f) hb; omega⟩
  have hF := hok.f k hk
  have hT := hok.t k hk
  have hg := hok.g k hk
  have ha := hok.a k hk
  have h1 := hw.2.2 k hk
  have e0 : ((wsn ss).F k : Int) = (ss k).fr := by unfold Wgd at h1; unfold wsn; simp only; omega
  have e1 : ((wsn ss).T k : Int) = (ss k).to := by unfold Wgd at h1; unfold wsn; simp only; omega
  have e2 : ((wsn ss).G k : Int) = (ss k).gi := by unfold Wgd at h1; unfold wsn; simp only; omega
  have e3 : ((wsn ss).A k : Int) = (ss k).ta := by unfold Wgd at h1; unfold wsn; simp only; omega
  have hv : (ss k).v = .agg #[.int .i64 ((wsn ss).F k : Int), .int .i64 ((wsn ss).T k : Int), .int .i64 ((wsn ss).G k : Int), .int .i64 ((wsn ss).A k : Int), .int .i64 (ss k).ha] := by rw [e0, e1, e2, e3]
  rw [hv]
  by_cases he : g ((wsn ss).F k) = g ((wsn ss).T k)
  · refine (join_same (ss k).ha h hF hT hg.2 ha.2 hf hi.grp hn he).mono ?_
    rintro e w' ⟨rfl, h2, h3⟩
    refine ⟨h3, ?_⟩
    by_cases h4 : f ((wsn ss).F k) * (wsn ss).G k = f ((wsn ss).T k) * (wsn ss).A k
    · exact .inl ⟨f, g, by rw [decide_eq_true h4], inv_same hi he h4, hs, h2⟩
    · exact .inr ⟨by rw [decide_eq_false h4], fun ⟨x, hx⟩ => inv_none hi hF hT he h4 (fun i hi => hx.2.1 i (by omega)) (hx.1 _ hT)⟩
  · refine (join_diff (ss k).ha h hF hT hg ha hf hi.grp hn he rfl rfl).mono ?_
    rintro e w' ⟨rfl, h2, h3⟩
    refine ⟨h3, ?_⟩
    have hj := inv_join hi hF hT hg.1 ha.1 he (fun i hi => ⟨hok.f i (by omega), hok.t i (by omega)⟩) rfl rfl rfl
    by_cases h4 : smN n (joinF f g (g ((wsn ss).F k)) (g ((wsn ss).T k)) (f ((wsn ss).F k) * (wsn ss).G k / Nat.gcd (f ((wsn ss).F k) * (wsn ss).G k) (f ((wsn ss).T k) * (wsn ss).A k)) (f ((wsn ss).T k) * (wsn ss).A k / Nat.gcd (f ((wsn ss).F k) * (wsn ss).G k) (f ((wsn ss).T k) * (wsn ss).A k))) ≤ 2000
    · exact .inl ⟨_, _, by rw [decide_eq_true h4], hj, h4, h2⟩
    · exact .inr ⟨by rw [decide_eq_false h4], inv_few hj (by omega) h4⟩

set_option maxHeartbeats 4000000 in
theorem iBal_bad {w : World} {v : Value} {m : Nat} {ss : Nat → Wr} (n : Int) (hv : Il5 w v m ss) (hm : m ≤ 1048576) (h : ¬ Wok n m ss) (ys : Nat → Int) :
    Calls Try.prog 11 #[.int .i64 n, v] w fun e w' => Pst w w' e 0 ys false := by
  have i1 := iWok_any n hv hm
  rw [decide_eq_false h] at i1
  go_enter Try.func11, Try.ntmps11
  go_wp2_with (go_at_call 31; (with_reducible refine i1.mono ?_); rintro e w2 ⟨rfl, hb⟩; have BX : Hid (Below w.heap.size w w2) := hb; clear hb)
  go_ret2
  exact ⟨_, rfl, own_base (nil_own w2 ys) BX.out.size, bstep BX.out (below_one _ _)⟩

set_option maxRecDepth 20000 in
set_option maxHeartbeats 8000000 in
theorem iBal_any {w : World} {v : Value} {n m : Nat} {ss : Nat → Wr} (hv : Il5 w v m ss) (hw : Wok (n : Int) m ss) :
    Calls Try.prog 11 #[.int .i64 (n : Int), v] w fun e w' => Bpo n m ss w w' e := by
  have h40 := hw.2.1
  have hn := hw.1
  have i1 := iWok_any (n : Int) hv (by omega)
  rw [decide_eq_true hw] at i1
  have HW : Hid (Wok (n : Int) m ss) := hw
  have n20 : n ≤ 20 := by omega
  have n1 : 1 ≤ n := by omega
  obtain ⟨ao, cap, rfl, hcap, hc⟩ := hv
  have HC : Hid (0 < m → ∃ b off, ao = some ⟨b, off, none⟩ ∧ b < w.heap.size ∧ ∀ k, k < m → w.cell? ⟨b, off + k * 5, none⟩ = some (.int .i64 (ss k).fr) ∧ w.cell? ⟨b, off + k * 5 + 1, none⟩ = some (.int .i64 (ss k).to) ∧ w.cell? ⟨b, off + k * 5 + 2, none⟩ = some (.int .i64 (ss k).gi) ∧ w.cell? ⟨b, off + k * 5 + 3, none⟩ = some (.int .i64 (ss k).ta) ∧ w.cell? ⟨b, off + k * 5 + 4, none⟩ = some (.int .i64 (ss k).ha)) := hc
  clear hc hw hn
  go_enter Try.func11, Try.ntmps11
  go_wp2_with (first
    | (go_at_call 31; (with_reducible refine i1.mono ?_); rintro e V ⟨rfl, hb⟩; have BX : Hid (Below w.heap.size w V) := hb; clear hb)
    | (go_at_call 41; (with_reducible refine (newB_any V n n20 n1).mono ?_); rintro e V2 ⟨P, Q, cf, cg, rfl, h1, h2⟩; have HB0 : Hid _ := h1; have BY : Hid (Below w.heap.size w V2) := bstep BX.out h2; clear h1 h2))
  clear i1
  obtain ⟨G, hG⟩ : ∃ G, G = V.heap.size := ⟨_, rfl⟩
  rw [← hG] at HB0 ⊢
  have HGV : Hid (w.heap.size ≤ G) := by show _ ≤ _; rw [hG]; exact BX.out.size
  clear hG
  go_loopw [18] (fun i wr => ∃ k : Nat, i = .int .i64 k ∧ k ≤ m ∧ Hid ((∃ f g, Inv (wsn ss) n k f g ∧ smN n f ≤ 2000 ∧ Blc wr (G + 1) G P Q n cf cg (fun i => (f i : Int)) (fun i => (g i : Int))) ∧ Below w.heap.size w wr)) (fun i _ => m - (intOf i).toNat)
  case atStart => exact ⟨0, rfl, by omega, ⟨_, _, inv_0 _ n, by rw [smN_const]; omega, HB0.out⟩, BY.out⟩
  case round =>
    obtain ⟨k, rfl, hk, hrel⟩ := hrel
    obtain ⟨⟨f, g, hiv, hsm, hbc⟩, hbl⟩ := hrel.out
    have HI : Hid (Inv (wsn ss) n k f g) := hiv
    have HS : Hid (smN n f ≤ 2000) := hsm
    have HB : Hid (Blc wr (G + 1) G P Q n cf cg (fun i => (f i : Int)) (fun i => (g i : Int))) := hbc
    have HBL : Hid (Below w.heap.size w wr) := hbl
    clear hrel hiv hsm hbc hbl
    by_cases h1 : k < m
    · have PG : Hid (w.heap.size ≤ P ∧ w.heap.size ≤ Q) := ⟨by have := (World.ownsRow.lt HB.out.of P rfl).1; have := HGV.out; omega, by have := (World.ownsRow.lt HB.out.og Q rfl).1; have := HGV.out; omega⟩
      have hj := join_any (HB.out.below (below_one wr (.cells #[.int .i64 (ss k).fr, .int .i64 (ss k).to, .int .i64 (ss k).gi, .int .i64 (ss k).ta, .int .i64 (ss k).ha] 31))) HW.out h1 HI.out HS.out
      obtain ⟨b, off, rfl, hlt, hcell⟩ := HC.out (by omega)
      have hb := HBL.out
      obtain ⟨c0, c1, c2, c3, c4⟩ := hcell k h1
      obtain ⟨c0, c1, c2, c3, c4⟩ : wr.cell? ⟨b, off + k * 5, none⟩ = some (.int .i64 (ss k).fr) ∧ wr.cell? ⟨b, off + k * 5 + 1, none⟩ = some (.int .i64 (ss k).to) ∧ wr.cell? ⟨b, off + k * 5 + 2, none⟩ = some (.int .i64 (ss k).gi) ∧ wr.cell? ⟨b, off + k * 5 + 3, none⟩ = some (.int .i64 (ss k).ta) ∧ wr.cell? ⟨b, off + k * 5 + 4, none⟩ = some (.int .i64 (ss k).ha) := ⟨(hb.cell (p := ⟨b, off + k * 5, none⟩) hlt).trans c0, (hb.cell (p := ⟨b, off + k * 5 + 1, none⟩) hlt).trans c1, (hb.cell (p := ⟨b, off + k * 5 + 2, none⟩) hlt).trans c2, (hb.cell (p := ⟨b, off + k * 5 + 3, none⟩) hlt).trans c3, (hb.cell (p := ⟨b, off + k * 5 + 4, none⟩) hlt).trans c4⟩
      clear hcell hlt hb
      go_wp2_with (go_at_call 42; (with_reducible refine hj.mono ?_); rintro e V3 ⟨hk3, ho⟩; have B3 : Hid (Below w.heap.size w V3) := Kd.below (bstep HBL.out (below_one _ _)) hk3 (Nat.le_trans HBL.out.size (below_one _ _).size) (by rintro q (rfl | rfl); exact PG.out.1; exact PG.out.2); clear hk3; rcases ho with ⟨f2, g2, rfl, h2, h3, h4⟩ | ⟨rfl, h2⟩)
      · have H2 : Hid _ := h2
        have H3 : Hid _ := h3
        have H4 : Hid _ := h4
        clear h2 h3 h4
        go_wp2
        go_roundw
        case rel => exact ⟨k + 1, by go_num, by omega, ⟨f2, g2, H2.out, H3.out, H4.out⟩, B3.out⟩
        case measure => simp [intOf]; omega
      · have H2 : Hid _ := h2
        clear h2
        go_wp2
        go_ret2
        exact .inr ⟨H2.out, fun ys => ⟨_, rfl, own_base (nil_own V3 ys) B3.out.size, bstep B3.out (below_one _ _)⟩⟩
    · obtain rfl : k = m := by omega
      have c0 := HB.out.rg.c0
      go_wp2
      go_ret2
      exact .inl ⟨f, inv_end HI.out HS.out, _, rfl, own_base HB.out.of (by have := HGV.out; omega), HBL.out⟩
end Go.Proofs.Ytlccicbgepfbbaa
