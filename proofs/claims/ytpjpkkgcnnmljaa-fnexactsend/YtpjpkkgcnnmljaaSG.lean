/- SF SGA SG. -/
import Derived.Test.YtpjpkkgcnnmljaaMO
namespace Go.Proofs.Ytpjpkkgcnnmljaa
open Go.RowKit

/-- What a modem sends: the word, its bits, woven, stirred, the symbols. -/
def sCw (n t : Nat) (y : Nat → Int) (q : Nat) : Int := ((cwd (2 * t) n (nb n y) q : Nat) : Int)
def sB1 (n t r : Nat) (y : Nat → Int) : Nat → Int := wvf (8 * (n + 2 * t)) r (ubv (sCw n t y))
def sB2 (n t r d : Nat) (y : Nat → Int) : Nat → Int := stv 46080 d (sB1 n t r y)
def sQ (n t hf : Nat) : Nat := (8 * (n + 2 * t) + 2 * hf - 1) / (2 * hf)
def sZ (n t r d hf : Nat) (y : Nat → Int) : Nat → Int := mpz (8 * (n + 2 * t)) (sB2 n t r d y) hf
def sM (n t hf ra : Nat) : Nat := (1 + sQ n t hf) * ra
def sL (n t r d hf ra : Nat) (si : Int) (y : Nat → Int) : Nat → Int := zf (hld (sZ n t r d hf y) ra si (sM n t hf ra))

theorem sCw_byt (n t : Nat) {y : Nat → Int} (hy : Byt n y) (m : Nat) : Byt m (sCw n t y) := fun k _ => by
  have h := cwd_lt (L := 2 * t) (nd := n) (d := nb n y) (fun k => by
    unfold nb
    split
    · have := hy k (by assumption); omega
    · omega) k
  unfold sCw
  omega
theorem sB1_bit (n t r : Nat) (y : Nat → Int) (k : Nat) : Bit (sB1 n t r y k) := ubv_bit _ _
theorem sB2_bit (n t r d : Nat) (y : Nat → Int) (k : Nat) : Bit (sB2 n t r d y k) := xb_bit _ _
theorem sQ_b {n t hf : Nat} (hn : 1 ≤ n ∧ n ≤ 40) (ht : 1 ≤ t ∧ t ≤ 8) (hh : Hlf hf) : 1 ≤ sQ n t hf ∧ sQ n t hf ≤ 230 := by
  unfold sQ
  rcases hh with rfl | rfl | rfl | rfl <;> omega
theorem sZ_b (n t r d : Nat) {hf : Nat} (y : Nat → Int) (hh : Hlf hf) (k : Nat) : -1000 ≤ sZ n t r d hf y k ∧ sZ n t r d hf y k ≤ 1000 := by
  have l1 := fun f => lvl_room (n := 8 * (n + 2 * t)) (xs := sB2 n t r d y) (fun k _ => sB2_bit n t r d y k) f hh
  unfold sZ mpz
  split
  · have := l1 (k / 2 * (2 * hf)); omega
  · have := l1 (k / 2 * (2 * hf) + hf); omega

/-- What stands in a passage ahead of each stage. -/
def SSt (p B n t r d hf ra : Nat) (si : Int) (v : Value) (y : Nat → Int) : Nat → World → Prop
  | 0, W => Pas W p ((2 * hf : Nat) : Int) (t : Int) (r : Int) (d : Int) (ra : Int) si v (.slice none 0 0) (.slice none 0 0) ∧ Bl W v n y
  | 1, W => ∃ u, Pas W p ((2 * hf : Nat) : Int) (t : Int) (r : Int) (d : Int) (ra : Int) si u (.slice none 0 0) (.slice none 0 0) ∧ Bl W u (n + 2 * t) (sCw n t y)
  | 2, W => ∃ b u, Pas W p ((2 * hf : Nat) : Int) (t : Int) (r : Int) (d : Int) (ra : Int) si b u (.slice none 0 0) ∧ Il W u (8 * (n + 2 * t)) (ubv (sCw n t y))
  | 3, W => ∃ b u, Pas W p ((2 * hf : Nat) : Int) (t : Int) (r : Int) (d : Int) (ra : Int) si b u (.slice none 0 0) ∧ Il W u (8 * (n + 2 * t)) (sB1 n t r y)
  | 4, W => ∃ b u, Pas W p ((2 * hf : Nat) : Int) (t : Int) (r : Int) (d : Int) (ra : Int) si b u (.slice none 0 0) ∧ Il W u (8 * (n + 2 * t)) (sB2 n t r d y)
  | 5, W => ∃ b i u, Pas W p ((2 * hf : Nat) : Int) (t : Int) (r : Int) (d : Int) (ra : Int) si b i u ∧ Il2 W u (sQ n t hf) (sZ n t r d hf y)
  | _, W => ∃ b i u, Pas W p ((2 * hf : Nat) : Int) (t : Int) (r : Int) (d : Int) (ra : Int) si b i u ∧ W.ownsRow B 47 2 u (sM n t hf ra) (ils (sL n t r d hf ra si y) (sM n t hf ra * 2))

theorem kp_below {B p : Nat} {w W X : World} (h : Below B w W) (hk : Kp p W X) (hp : B ≤ p) (hb : B ≤ W.heap.size) : Below B w X :=
  ⟨hk.os.trans h.os, hk.tape.trans h.tape, hk.output.trans h.output, Nat.le_trans h.size hk.size, fun k hk2 => (hk.block k (by omega) (by omega)).trans (h.block k hk2)⟩
end Go.Proofs.Ytpjpkkgcnnmljaa

namespace Go.Proofs.Ytpjpkkgcnnmljaa
open Go.RowKit

theorem sstep {p n t r d hf ra : Nat} {si : Int} {v : Value} {y : Nat → Int} {w : World} (B : Nat) (hB : B ≤ w.heap.size) (hy : Byt n y) (hn : 1 ≤ n ∧ n ≤ 40) (ht : 1 ≤ t ∧ t ≤ 8) (hr : 1 ≤ r ∧ r ≤ 64) (hd : 1 ≤ d ∧ d ≤ 65535) (hra : 1 ≤ ra ∧ ra ≤ 8) (hsi : 1 ≤ si ∧ si ≤ 10000) (hh : Hlf hf) :
    (∀ W, SSt p B n t r d hf ra si v y 0 W → Kp p w W → Calls Try.prog 23 #[.pointer (some ⟨p, 0, none⟩)] W fun e w' => e = .returned (.bool true) ∧ SSt p B n t r d hf ra si v y 1 w' ∧ Kp p W w') ∧
    (∀ W, SSt p B n t r d hf ra si v y 1 W → Kp p w W → Calls Try.prog 24 #[.pointer (some ⟨p, 0, none⟩)] W fun e w' => e = .returned (.bool true) ∧ SSt p B n t r d hf ra si v y 2 w' ∧ Kp p W w') ∧
    (∀ W, SSt p B n t r d hf ra si v y 2 W → Kp p w W → Calls Try.prog 25 #[.pointer (some ⟨p, 0, none⟩)] W fun e w' => e = .returned (.bool true) ∧ SSt p B n t r d hf ra si v y 3 w' ∧ Kp p W w') ∧
    (∀ W, SSt p B n t r d hf ra si v y 3 W → Kp p w W → Calls Try.prog 26 #[.pointer (some ⟨p, 0, none⟩)] W fun e w' => e = .returned (.bool true) ∧ SSt p B n t r d hf ra si v y 4 w' ∧ Kp p W w') ∧
    (∀ W, SSt p B n t r d hf ra si v y 4 W → Kp p w W → Calls Try.prog 27 #[.pointer (some ⟨p, 0, none⟩)] W fun e w' => e = .returned (.bool true) ∧ SSt p B n t r d hf ra si v y 5 w' ∧ Kp p W w') ∧
    (∀ W, SSt p B n t r d hf ra si v y 5 W → Kp p w W → Calls Try.prog 28 #[.pointer (some ⟨p, 0, none⟩)] W fun e w' => e = .returned (.bool true) ∧ SSt p B n t r d hf ra si v y 6 w' ∧ Kp p W w') := by
  have hq := sQ_b hn ht hh
  refine ⟨fun W hW hk => ?_, fun W hW hk => ?_, fun W hW hk => ?_, fun W hW hk => ?_, fun W hW hk => ?_, fun W hW hk => ?_⟩
  · refine (stg_code hW.1 hW.2 hy ⟨by omega, by omega, by omega⟩).mono ?_
    rintro e w' ⟨rfl, u, h1, h2, h3⟩
    exact ⟨rfl, ⟨u, h1, bl_of_own h2⟩, h3⟩
  · obtain ⟨u0, g1, g2⟩ := hW
    refine (stg_unpack g1 g2 (sCw_byt n t hy _) (by omega)).mono ?_
    rintro e w' ⟨rfl, u, h1, h2, h3⟩
    exact ⟨rfl, ⟨u0, u, h1, il_of_own h2⟩, h3⟩
  · obtain ⟨b, u0, g1, g2⟩ := hW
    refine (stg_weave g1 g2 ⟨by omega, by omega, by omega⟩).mono ?_
    rintro e w' ⟨rfl, u, h1, h2, h3⟩
    exact ⟨rfl, ⟨b, u, h1, il_of_own h2⟩, h3⟩
  · obtain ⟨b, u0, g1, g2⟩ := hW
    refine (stg_stir g1 g2 ⟨⟨by omega, fun k _ => sB1_bit n t r y k⟩, by omega, by omega⟩).mono ?_
    rintro e w' ⟨rfl, u, h1, h2, h3⟩
    exact ⟨rfl, ⟨b, u, h1, il_of_own h2⟩, h3⟩
  · obtain ⟨b, u0, g1, g2⟩ := hW
    refine (stg_place g1 g2 ⟨by omega, fun k _ => sB2_bit n t r d y k⟩ hh rfl).mono ?_
    rintro e w' ⟨rfl, u, h1, h2, h3⟩
    exact ⟨rfl, ⟨b, u0, u, h1, il2_of_own h2⟩, h3⟩
  · obtain ⟨b, i, u0, g1, g2⟩ := hW
    refine (stg_hold g1 g2 hra hsi ⟨hq.1, by omega⟩ (fun k _ => sZ_b n t r d y hh k)).mono ?_
    rintro e w' ⟨rfl, u, h1, h2, h3⟩
    exact ⟨rfl, ⟨b, i, u, h1, own_base h2 (Nat.le_trans hB hk.size)⟩, h3⟩
end Go.Proofs.Ytpjpkkgcnnmljaa

namespace Go.Proofs.Ytpjpkkgcnnmljaa
open Go.RowKit

set_option maxRecDepth 20000 in
set_option maxHeartbeats 8000000 in
theorem iSend_good {w : World} {n t r d hf ra : Nat} {si : Int} {v : Value} {y : Nat → Int} (hv : Bl w v n y) (hy : Byt n y) (hn : 1 ≤ n ∧ n ≤ 40) (ht : 1 ≤ t ∧ t ≤ 8) (hr : 1 ≤ r ∧ r ≤ 64) (hd : 1 ≤ d ∧ d ≤ 65535) (hra : 1 ≤ ra ∧ ra ≤ 8) (hsi : 1 ≤ si ∧ si ≤ 10000) (hh : Hlf hf) :
    Calls Try.prog 7 #[.agg #[.int .i64 ((2 * hf : Nat) : Int), .int .i64 (t : Int), .int .i64 (r : Int), .int .i64 (d : Int), .int .i64 (ra : Int), .int .i64 si], v] w fun e w' => Ppk w w' e (sM n t hf ra) (sL n t r d hf ra si y) true := by
  obtain ⟨wi9, hwi⟩ : ∃ wi9 : Int, wi9 = ((2 * hf : Nat) : Int) := ⟨_, rfl⟩
  rw [← hwi]
  have HWI : Hid (wi9 = ((2 * hf : Nat) : Int)) := hwi
  have hM : Mok wi9 (t : Int) (r : Int) (d : Int) (ra : Int) si := ⟨by rcases hh with rfl | rfl | rfl | rfl <;> omega, by omega, by omega, by omega, by omega, hsi⟩
  have BX : Hid (Below w.heap.size w (w.alloc (.cells #[.int .i64 wi9, .int .i64 (t : Int), .int .i64 (r : Int), .int .i64 (d : Int), .int .i64 (ra : Int), .int .i64 si] 28))) := below_one _ _
  have i1 := iMok_any wi9 (t : Int) (r : Int) (d : Int) (ra : Int) si (w.alloc (.cells #[.int .i64 wi9, .int .i64 (t : Int), .int .i64 (r : Int), .int .i64 (d : Int), .int .i64 (ra : Int), .int .i64 si] 28))
  rw [decide_eq_true hM] at i1
  have i2 := fun W => count_any (n : Int) 40 W
  rw [decide_eq_true (show 1 ≤ (n : Int) ∧ (n : Int) ≤ 40 by omega)] at i2
  have m0 : (w.alloc (.cells #[.int .i64 wi9, .int .i64 (t : Int), .int .i64 (r : Int), .int .i64 (d : Int), .int .i64 (ra : Int), .int .i64 si] 28)).cell? ⟨w.heap.size, 0, none⟩ = some (.int .i64 wi9) := by simp [go_sem]
  have m1 : (w.alloc (.cells #[.int .i64 wi9, .int .i64 (t : Int), .int .i64 (r : Int), .int .i64 (d : Int), .int .i64 (ra : Int), .int .i64 si] 28)).cell? ⟨w.heap.size, 1, none⟩ = some (.int .i64 (t : Int)) := by simp [go_sem]
  have m2 : (w.alloc (.cells #[.int .i64 wi9, .int .i64 (t : Int), .int .i64 (r : Int), .int .i64 (d : Int), .int .i64 (ra : Int), .int .i64 si] 28)).cell? ⟨w.heap.size, 2, none⟩ = some (.int .i64 (r : Int)) := by simp [go_sem]
  have m3 : (w.alloc (.cells #[.int .i64 wi9, .int .i64 (t : Int), .int .i64 (r : Int), .int .i64 (d : Int), .int .i64 (ra : Int), .int .i64 si] 28)).cell? ⟨w.heap.size, 3, none⟩ = some (.int .i64 (d : Int)) := by simp [go_sem]
  have m4 : (w.alloc (.cells #[.int .i64 wi9, .int .i64 (t : Int), .int .i64 (r : Int), .int .i64 (d : Int), .int .i64 (ra : Int), .int .i64 si] 28)).cell? ⟨w.heap.size, 4, none⟩ = some (.int .i64 (ra : Int)) := by simp [go_sem]
  have m5 : (w.alloc (.cells #[.int .i64 wi9, .int .i64 (t : Int), .int .i64 (r : Int), .int .i64 (d : Int), .int .i64 (ra : Int), .int .i64 si] 28)).cell? ⟨w.heap.size, 5, none⟩ = some (.int .i64 si) := by simp [go_sem]
  have sz9 : w.heap.size < (w.alloc (.cells #[.int .i64 wi9, .int .i64 (t : Int), .int .i64 (r : Int), .int .i64 (d : Int), .int .i64 (ra : Int), .int .i64 si] 28)).heap.size := by simp
  have HV : Hid (Bl w v n y) := hv
  have HTH : Hid (∀ (W : World) (p g : Nat), g ≠ p → w.heap.size ≤ W.heap.size → SSt p w.heap.size n t r d hf ra si v y 0 W → (∀ q f, [23, 24, 25, 26, 27, 28][q]? = some f → W.cell? ⟨g, q, none⟩ = some (.func (.func f) #[] #[])) → Calls Try.prog 22 #[.pointer (some ⟨p, 0, none⟩), .slice (some ⟨g, 0, none⟩) 6 6] W fun e w' => e = .returned (.bool true) ∧ SSt p w.heap.size n t r d hf ra si v y 6 w' ∧ Kp p W w') := fun W p g hgp hB hs hc => by
    obtain ⟨h0, h1, h2, h3, h4, h5⟩ := sstep (p := p) (v := v) (w := W) w.heap.size hB hy hn ht hr hd hra hsi hh
    exact through_any (SSt p w.heap.size n t r d hf ra si v y) hgp hs (hc 0 _ rfl) (hc 1 _ rfl) (hc 2 _ rfl) (hc 3 _ rfl) (hc 4 _ rfl) (hc 5 _ rfl) h0 h1 h2 h3 h4 h5
  obtain ⟨ao, cap, rfl, _, _⟩ := hv
  clear hM hy hh hwi
  obtain ⟨v, hv9⟩ : ∃ v, v = Value.slice ao n cap := ⟨_, rfl⟩
  rw [← hv9] at HV HTH
  have HV9 : Hid (v = Value.slice ao n cap) := hv9
  clear hv9
  go_enter Try.func7, Try.ntmps7
  go_upto_region 4 with (first
    | (go_at_call 20; refine i1.mono ?_; rintro e w1 ⟨rfl, hb⟩; have B1 : Hid (Below w.heap.size w w1) := bstep BX.out hb; have q0 := (hb.cell (p := ⟨w.heap.size, 0, none⟩) sz9).trans m0; have q1 := (hb.cell (p := ⟨w.heap.size, 1, none⟩) sz9).trans m1; have q2 := (hb.cell (p := ⟨w.heap.size, 2, none⟩) sz9).trans m2; have q3 := (hb.cell (p := ⟨w.heap.size, 3, none⟩) sz9).trans m3; have q4 := (hb.cell (p := ⟨w.heap.size, 4, none⟩) sz9).trans m4; have q5 := (hb.cell (p := ⟨w.heap.size, 5, none⟩) sz9).trans m5; clear hb)
    | (go_at_call 21; (with_reducible refine (i2 _).mono ?_); rintro e w' ⟨rfl, hw⟩; obtain rfl := hw.symm))
  rw [← HV9.out]
  clear i1 i2 m0 m1 m2 m3 m4 m5 q0 q1 q2 q3 q4 q5 sz9
  obtain ⟨p, hp⟩ : ∃ p, p = w1.heap.size := ⟨_, rfl⟩
  have hsz : (w1.alloc (.cells #[.int .i64 wi9, .int .i64 (t : Int), .int .i64 (r : Int), .int .i64 (d : Int), .int .i64 (ra : Int), .int .i64 si, .int .i64 0, v, .slice none 0 0, .slice none 0 0, .int .i64 0] 56)).heap.size = w1.heap.size + 1 := Array.size_push _
  have BP : Below w.heap.size w (w1.alloc (.cells #[.int .i64 wi9, .int .i64 (t : Int), .int .i64 (r : Int), .int .i64 (d : Int), .int .i64 (ra : Int), .int .i64 si, .int .i64 0, v, .slice none 0 0, .slice none 0 0, .int .i64 0] 56)) := bstep B1.out (below_one _ _)
  have P0 : Pas (w1.alloc (.cells #[.int .i64 wi9, .int .i64 (t : Int), .int .i64 (r : Int), .int .i64 (d : Int), .int .i64 (ra : Int), .int .i64 si, .int .i64 0, v, .slice none 0 0, .slice none 0 0, .int .i64 0] 56)) p wi9 (t : Int) (r : Int) (d : Int) (ra : Int) si v (.slice none 0 0) (.slice none 0 0) := by rw [hp]; exact ⟨by simp [go_sem], by simp [go_sem], by simp [go_sem], by simp [go_sem], by simp [go_sem], by simp [go_sem], by simp [go_sem], by simp [go_sem], by simp [go_sem], by simp [go_sem], by simp [go_sem], by simp [go_sem]⟩
  rw [← hp]
  have HP0 : Hid (Pas (w1.alloc (.cells #[.int .i64 wi9, .int .i64 (t : Int), .int .i64 (r : Int), .int .i64 (d : Int), .int .i64 (ra : Int), .int .i64 si, .int .i64 0, v, .slice none 0 0, .slice none 0 0, .int .i64 0] 56)) p ((2 * hf : Nat) : Int) (t : Int) (r : Int) (d : Int) (ra : Int) si v (.slice none 0 0) (.slice none 0 0)) := by rw [← HWI.out]; exact P0
  have HBP : Hid (Below w.heap.size w (w1.alloc (.cells #[.int .i64 wi9, .int .i64 (t : Int), .int .i64 (r : Int), .int .i64 (d : Int), .int .i64 (ra : Int), .int .i64 si, .int .i64 0, v, .slice none 0 0, .slice none 0 0, .int .i64 0] 56))) := BP
  have hpl : w.heap.size ≤ p := by rw [hp]; exact B1.out.size
  have HPL : Hid (p < (w1.alloc (.cells #[.int .i64 wi9, .int .i64 (t : Int), .int .i64 (r : Int), .int .i64 (d : Int), .int .i64 (ra : Int), .int .i64 si, .int .i64 0, v, .slice none 0 0, .slice none 0 0, .int .i64 0] 56)).heap.size) := by show _ < _; rw [hsz, hp]; omega
  clear P0 BP hsz hp
  generalize w1.alloc (.cells #[.int .i64 wi9, .int .i64 (t : Int), .int .i64 (r : Int), .int .i64 (d : Int), .int .i64 (ra : Int), .int .i64 si, .int .i64 0, v, .slice none 0 0, .slice none 0 0, .int .i64 0] 56) = w2 at *
  have HC2 : Hid (Calls Try.prog 22 #[.pointer (some ⟨p, 0, none⟩), .slice (some ⟨w2.heap.size, 0, none⟩) 6 6] (w2.alloc (.cells #[.func (.func 23) #[] #[], .func (.func 24) #[] #[], .func (.func 25) #[] #[], .func (.func 26) #[] #[], .func (.func 27) #[] #[], .func (.func 28) #[] #[]] 58)) fun e w' => e = .returned (.bool true) ∧ SSt p w.heap.size n t r d hf ra si v y 6 w' ∧ Kp p (w2.alloc (.cells #[.func (.func 23) #[] #[], .func (.func 24) #[] #[], .func (.func 25) #[] #[], .func (.func 26) #[] #[], .func (.func 27) #[] #[], .func (.func 28) #[] #[]] 58)) w') := by
    have b3 := below_one w2 (.cells #[.func (.func 23) #[] #[], .func (.func 24) #[] #[], .func (.func 25) #[] #[], .func (.func 26) #[] #[], .func (.func 27) #[] #[], .func (.func 28) #[] #[]] 58)
    refine HTH.out _ p w2.heap.size (by have := HPL.out; omega) (Nat.le_trans HBP.out.size b3.size) ⟨HP0.out.below b3 HPL.out, HV.out.below (bstep HBP.out b3)⟩ (fun q f hq => ?_)
    match q, hq with
    | 0, h => injection h with h; subst h; simp [go_sem]
    | 1, h => injection h with h; subst h; simp [go_sem]
    | 2, h => injection h with h; subst h; simp [go_sem]
    | 3, h => injection h with h; subst h; simp [go_sem]
    | 4, h => injection h with h; subst h; simp [go_sem]
    | 5, h => injection h with h; subst h; simp [go_sem]
    | q + 6, h => simp at h
  have HB3 : Hid (Below w.heap.size w (w2.alloc (.cells #[.func (.func 23) #[] #[], .func (.func 24) #[] #[], .func (.func 25) #[] #[], .func (.func 26) #[] #[], .func (.func 27) #[] #[], .func (.func 28) #[] #[]] 58))) := bstep HBP.out (below_one _ _)
  obtain ⟨m, hm⟩ : ∃ m, m = sM n t hf ra := ⟨_, rfl⟩
  obtain ⟨zz, hzz⟩ : ∃ zz, zz = sL n t r d hf ra si y := ⟨_, rfl⟩
  have HC3 : Hid (Calls Try.prog 22 #[.pointer (some ⟨p, 0, none⟩), .slice (some ⟨w2.heap.size, 0, none⟩) 6 6] (w2.alloc (.cells #[.func (.func 23) #[] #[], .func (.func 24) #[] #[], .func (.func 25) #[] #[], .func (.func 26) #[] #[], .func (.func 27) #[] #[], .func (.func 28) #[] #[]] 58)) fun e w' => e = .returned (.bool true) ∧ ∃ ua uc, w'.cell? ⟨p, 9, none⟩ = some (.slice ua m uc) ∧ w'.ownsRow w.heap.size 47 2 (.slice ua m uc) m (ils zz (m * 2)) ∧ Below w.heap.size w w') := by
    refine HC2.out.mono ?_
    rintro e w4 ⟨h0, hs, hk⟩
    have hs : ∃ b i u, Pas w4 p ((2 * hf : Nat) : Int) (t : Int) (r : Int) (d : Int) (ra : Int) si b i u ∧ w4.ownsRow w.heap.size 47 2 u (sM n t hf ra) (ils (sL n t r d hf ra si y) (sM n t hf ra * 2)) := hs
    obtain ⟨b, i, u, h1, h2⟩ := hs
    rw [← hm, ← hzz] at h2
    obtain ⟨ua, uc, hu9⟩ := own_slicep h2
    subst hu9
    exact ⟨h0, ua, uc, h1.c9, h2, kp_below HB3.out hk hpl HB3.out.size⟩
  have HMZ : Hid (m = sM n t hf ra ∧ zz = sL n t r d hf ra si y) := ⟨hm, hzz⟩
  clear hm hzz HC2 HTH HV HP0 HB3 HBP B1 BX
  go_wp2_with (first
    | (go_at_call 22; refine HC3.out.mono ?_; rintro e w4 ⟨rfl, ua, uc, c9, h2, hb4⟩; have HO : Hid (w4.ownsRow w.heap.size 47 2 (.slice ua m uc) m (ils zz (m * 2))) := h2; have HB4 : Hid (Below w.heap.size w w4) := hb4; clear h2 hb4))
  go_ret2
  rw [← HMZ.out.1, ← HMZ.out.2]
  exact ⟨_, rfl, HO.out, HB4.out⟩
end Go.Proofs.Ytpjpkkgcnnmljaa
