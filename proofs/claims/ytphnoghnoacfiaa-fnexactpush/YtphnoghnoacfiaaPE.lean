/- Push: in plain numbers; the program. -/
import Derived.Test.YtphnoghnoacfiaaPD
namespace Go.Proofs.Ytphnoghnoacfiaa
open Go.RowKit

/-- The place behind k samples. -/
def plc (n o k : Nat) : Nat := (o + k) % n

/-- The cells behind k samples. -/
def rcl (n o : Nat) (cs xs : Nat → Int) : Nat → Nat → Int
  | 0 => cs
  | k + 1 => fun i => if i = plc n o k then xs k else rcl n o cs xs k i

/-- What is told. -/
def rtl (n o : Nat) (cs xs : Nat → Int) (k : Nat) : Int := rcl n o cs xs k (plc n o k)

theorem plc_lt {n o k : Nat} (h : 0 < n) : plc n o k < n := Nat.mod_lt _ h

theorem plc_zero {n o : Nat} (h : o < n) : plc n o 0 = o := Nat.mod_eq_of_lt h

theorem plc_succ (n o k : Nat) : (plc n o k + 1) % n = plc n o (k + 1) := by
  unfold plc
  rw [Nat.mod_add_mod]
  rfl

/-- What is told: a ring, a list, a bool. -/
def Ppu (w w' : World) (e : Ending) (n : Nat) (cs : Nat → Int) (p : Int) (N : Nat) (ys : Nat → Int) (ok : Bool) : Prop := ∃ c u, e = .returned (.tuple #[.agg #[c, .int .i64 p], u, .bool ok]) ∧ w'.ownsRow w.heap.size 3 1 c n (ils cs n) ∧ w'.ownsRow w.heap.size 3 1 u N (ils ys N) ∧ Apart c u ∧ Below w.heap.size w w'

/-- Good for Push. -/
abbrev GPu (n N : Nat) (cs xs : Nat → Int) (o : Int) : Prop := Rgo n cs o ∧ Sig N xs

theorem Il.at {w : World} {v : Value} {n : Nat} {xs : Nat → Int} (h : Il w v n xs) (hn : 0 < n) {b off n' c : Nat} (hv : v = .slice (some ⟨b, off, none⟩) n' c) : b < w.heap.size := by
  obtain ⟨ao, cap, rfl, _, hc⟩ := h
  obtain ⟨b', off', rfl, hlt, _⟩ := hc hn
  injection hv with h1
  injection h1 with h2
  injection h2 with h3
  omega

theorem push_run {w0 w : World} {lv : Value} {n N o C P : Nat} {cs xs : Nat → Int} (hl : Il w lv N xs) (hN : N ≤ 512) (hn : n ≤ 512) (_ : 0 < n) (ho : o < n) (hc : Cb w w0.heap.size C P n cs o) (hC : w0.heap.size ≤ C) (hb : Below w0.heap.size w0 w)
    (hd : 0 < N → ∀ b off n' c, lv = .slice (some ⟨b, off, none⟩) n' c → b < w0.heap.size) :
    Calls Try.prog 24 #[.iface 41 (.pointer (some ⟨C, 0, none⟩)), lv] w fun e w' => ∃ v', e = .returned v' ∧ w'.ownsRow w.heap.size 3 1 v' N (ils (rtl n o cs xs) N) ∧ Cb w' w0.heap.size C P n (rcl n o cs xs N) (plc n o N) ∧ Below w0.heap.size w0 w' ∧ Kd (CbD C P) w w' := by
  have l1 := hc.rg.lt
  have l2 := World.ownsRow.lt hc.own P rfl
  have hD : ∀ g, CbD C P g → g < w.heap.size := by
    rintro g (rfl | rfl)
    · exact l1
    · exact l2.2
  refine (runR hl (by omega) ⟨C, 0, none⟩ (CbD C P) (CbD C P) (fun k W => Cb W w0.heap.size C P n (rcl n o cs xs k) (plc n o k)) (rtl n o cs xs) ?_ hD hD ?_ ?_ ?_).mono ?_
  · intro k W W' h1 he
    exact h1.block he
  · intro h b off n' c e hd'
    have := hd h b off n' c e
    rcases hd' with rfl | rfl <;> omega
  · intro k W hk h1
    refine (rStep (x := xs k) h1 hn).mono ?_
    rintro e W' ⟨rfl, h2, h3⟩
    rw [plc_succ] at h2
    exact ⟨rfl, h2, h3⟩
  · show Cb w w0.heap.size C P n cs (plc n o 0)
    rw [plc_zero ho]
    exact hc
  · rintro e w' ⟨v', rfl, h1, h2, h3⟩
    refine ⟨v', rfl, h1, h2, Kd.below hb h3 hb.size ?_, h3⟩
    rintro g (rfl | rfl)
    · exact hC
    · exact l2.1

set_option maxRecDepth 20000 in
set_option maxHeartbeats 4000000 in
theorem iPush_good {w : World} {cv lv : Value} {n N o : Nat} {cs xs : Nat → Int} (hc : Il w cv n cs) (hl : Il w lv N xs) (h : GPu n N cs xs (o : Int)) :
    Calls Try.prog 9 #[.agg #[cv, .int .i64 (o : Int)], lv] w fun e w' => Ppu w w' e n (rcl n o cs xs N) (plc n o N : Nat) N (rtl n o cs xs) true := by
  obtain ⟨⟨h1, h2, h3⟩, h4⟩ := h
  have hn := h1.1
  have hN := h4.1
  have h0 : 0 < n := by omega
  have ho : o < n := by omega
  have b1 := below_one w (.cells #[cv, .int .i64 (o : Int)] 26)
  have R1 := Rg.new w cv (.int .i64 (o : Int)) 26
  have s1 : (w.alloc (.cells #[cv, .int .i64 (o : Int)] 26)).heap.size = w.heap.size + 1 := by simp
  generalize hW1 : w.alloc (.cells #[cv, .int .i64 (o : Int)] 26) = W1 at *
  have b2 := below_one W1 (.cells #[.slice none 0 0, .int .i64 0] 26)
  have R2 := Rg.new W1 (.slice none 0 0) (.int .i64 0) 26
  generalize hW2 : W1.alloc (.cells #[.slice none 0 0, .int .i64 0] 26) = W2 at *
  rw [s1] at R2
  have i1 := iRing_any ((hc.below b1).below b2) (by omega) (o : Int)
  rw [decide_eq_true ⟨h1, h2, h3⟩] at i1
  have CI : Hid (Il W2 cv n cs) := (hc.below b1).below b2
  have LI : Hid (Il W2 lv N xs) := (hl.below b1).below b2
  have BW : Hid (Below w.heap.size w W2) := bstep b1 b2
  have q1 : Hid (Rg W2 w.heap.size cv (.int .i64 (o : Int))) := R1.call b2
  have q2 : Hid (Rg W2 (w.heap.size + 1) (.slice none 0 0) (.int .i64 0)) := R2
  have LD : Hid (0 < N → ∀ b off n' c, lv = .slice (some ⟨b, off, none⟩) n' c → b < w.heap.size) := fun h0 b off n' c e => hl.at h0 e
  have H4 : Hid (Sig N xs) := h4
  obtain ⟨ao, cap, rfl, hcap, hcc⟩ := hc
  obtain ⟨lo, lc, rfl, hlc, hcl⟩ := hl
  clear hcc hcl b1 b2 R1 R2 h1 h4
  go_enter Try.func9, Try.ntmps9
  go_upto_region 1 with fail
  clear hW1 hW2 s1
  have c0 := q1.out.c0
  have c1 := q1.out.c1
  go_upto_region 3 with (first
    | (go_at_call 21; (with_reducible refine i1.mono ?_); rintro e w3 ⟨rfl, hb3⟩; have BW : Hid (Below w.heap.size w w3) := bstep BW.out hb3; have CI : Hid (Il w3 (.slice ao n cap) n cs) := CI.out.below hb3; have LI : Hid (Il w3 (.slice lo N lc) N xs) := LI.out.below hb3; have q1 : Hid (Rg w3 w.heap.size (.slice ao n cap) (.int .i64 (o : Int))) := q1.out.call hb3; have q2 : Hid (Rg w3 (w.heap.size + 1) (.slice none 0 0) (.int .i64 0)) := q2.out.call hb3; have i2 := iSig_any LI.out (by omega); rw [decide_eq_true H4.out] at i2; clear hb3)
    | (go_at_call 22; (with_reducible refine i2.mono ?_); rintro e w' ⟨rfl, hw⟩; obtain rfl := hw.symm))
  clear i1 i2 c0 c1
  refine wp_region_any (by kernel_rfl) ?_
  change wpAny _ _ _ _ _ _ _ (World.drew _)
  refine wpI_any (I := fun X => Rg X w.heap.size (.slice ao n cap) (.int .i64 (o : Int)) ∧ Below w3.heap.size w3 X) _ _ _ _ ?_
  have l0 : Rg w3.drew w.heap.size (.slice ao n cap) (.int .i64 (o : Int)) ∧ Below w3.heap.size w3 w3.drew := ⟨q1.out.call (Below.refl _ _).drew, (Below.refl _ _).drew⟩
  refine wpI_take (i := 0) (v := ?_) rfl (by kernel_rfl) (by kernel_rfl) (by kernel_rfl) (fun _ _ _ h => h) ⟨by rfl, ?_⟩ ?_
  rotate_left
  · intro X hI; go_simp; with_reducible rfl
  refine wpI_take (i := 1) (v := ?_) rfl (by kernel_rfl) (by kernel_rfl) (by kernel_rfl) (fun _ _ _ h => h) ⟨by rfl, ?_⟩ ?_
  rotate_left
  · intro X hI; obtain ⟨c0, c1, _, _⟩ := hI.1; go_simp; with_reducible rfl
  refine wpI_take (i := 3) (v := ?_) rfl (by kernel_rfl) (by kernel_rfl) (by kernel_rfl) (fun _ _ _ h => h) ⟨by rfl, ?_⟩ ?_
  rotate_left
  · intro X hI; go_simp; with_reducible rfl
  refine wpI_take (i := 4) (v := ?_) rfl (by kernel_rfl) (by kernel_rfl) (by kernel_rfl) (fun _ _ _ h => h) ⟨by rfl, ?_⟩ ?_
  rotate_left
  · intro X hI; obtain ⟨c0, c1, _, _⟩ := hI.1; go_simp; with_reducible rfl
  refine wpI_only (i := 2) rfl (by kernel_rfl) l0 (by rfl) ?_
  intro K hK
  go_simp
  go_wp2_with (go_at_call 23; refine (copied_any (CI.out.below l0.2) h0 hn).mono ?_; rintro e x1 ⟨rfl, ho1, hb1⟩; have l1 : Rg x1 w.heap.size (.slice ao n cap) (.int .i64 (o : Int)) ∧ Below w3.heap.size w3 x1 := ⟨l0.1.call hb1, bstep l0.2 hb1⟩; have O1 : Hid (x1.ownsRow w3.heap.size 3 1 (.slice (some ⟨w3.heap.size, 0, none⟩) n n) n (ils cs n)) := ho1; clear ho1 hb1)
  refine wpI_take (i := 5) (v := ?_) rfl (by kernel_rfl) (by kernel_rfl) (by kernel_rfl) (fun _ _ _ h => h) ⟨by rfl, ?_⟩ ?_
  rotate_left
  · intro X hI; go_simp; with_reducible rfl
  refine wpI_only (i := 6) rfl (by kernel_rfl) l1 (by rfl) ?_
  intro K hK
  have ba := below_one x1 (.cells #[.slice (some ⟨w3.heap.size, 0, none⟩) n n, .int .i64 (o : Int)] 45)
  have l2 : Rg (x1.alloc (.cells #[.slice (some ⟨w3.heap.size, 0, none⟩) n n, .int .i64 (o : Int)] 45)) w.heap.size (.slice ao n cap) (.int .i64 (o : Int)) ∧ Below w3.heap.size w3 (x1.alloc (.cells #[.slice (some ⟨w3.heap.size, 0, none⟩) n n, .int .i64 (o : Int)] 45)) := ⟨l1.1.call ba, bstep l1.2 ba⟩
  have O2 : Hid (Cb (x1.alloc (.cells #[.slice (some ⟨w3.heap.size, 0, none⟩) n n, .int .i64 (o : Int)] 45)) w.heap.size x1.heap.size w3.heap.size n cs o) := ⟨Rg.new _ _ _ _, own_base (own_below O1.out ba) BW.out.size, by have := (World.ownsRow.lt O1.out w3.heap.size rfl).2; omega, ho⟩
  have L2 : Hid (w.heap.size + 2 ≤ w3.heap.size ∧ w3.heap.size < x1.heap.size) := ⟨by have := q2.out.lt; omega, (World.ownsRow.lt O1.out w3.heap.size rfl).2⟩
  go_simp
  refine hK _ _ ?_
  clear hK K
  refine wpI_only (i := 7) rfl (by kernel_rfl) l2 (by rfl) ?_
  intro K hK
  go_simp
  refine hK _ _ ?_
  clear hK K
  refine wpI_done l2 (by kernel_rfl) ?_ _
  have B2 : Hid (Below w.heap.size w (x1.alloc (.cells #[.slice (some ⟨w3.heap.size, 0, none⟩) n n, .int .i64 (o : Int)] 45))) := BW.out.trans (l2.2.mono BW.out.size)
  have LI2 : Hid (Il (x1.alloc (.cells #[.slice (some ⟨w3.heap.size, 0, none⟩) n n, .int .i64 (o : Int)] 45)) (.slice lo N lc) N xs) := LI.out.below l2.2
  have Q2 : Hid (Rg (x1.alloc (.cells #[.slice (some ⟨w3.heap.size, 0, none⟩) n n, .int .i64 (o : Int)] 45)) (w.heap.size + 1) (.slice none 0 0) (.int .i64 0)) := q2.out.call l2.2
  clear l2 l1 l0 ba O1 q1 q2 CI LI BW
  generalize x1.alloc (.cells #[.slice (some ⟨w3.heap.size, 0, none⟩) n n, .int .i64 (o : Int)] 45) = w4 at *
  generalize x1.heap.size = C at *
  generalize w3.heap.size = P at *
  go_upto_region 5 with (first
    | (go_at_call 24; (with_reducible refine (push_run LI2.out hN hn h0 ho O2.out (by have := L2.out; omega) B2.out LD.out).mono ?_); rintro e w5 ⟨u, rfl, ho5, hc5, hb5, hk5⟩; have U5 : Hid (w5.ownsRow w4.heap.size 3 1 u N (ils (rtl n o cs xs) N)) := ho5; have C5 : Hid (Cb w5 w.heap.size C P n (rcl n o cs xs N) (plc n o N)) := hc5; have B5 : Hid (Below w.heap.size w w5) := hb5; have Q5 : Hid (Rg w5 (w.heap.size + 1) (.slice none 0 0) (.int .i64 0)) := Q2.out.block (hk5.block _ Q2.out.lt (by rintro (e | e) <;> (have := L2.out; omega))); have L4 : Hid (C < w4.heap.size ∧ P < w4.heap.size) := ⟨O2.out.rg.lt, (World.ownsRow.lt O2.out.own P rfl).2⟩; obtain ⟨uo, uc, rfl, huc, hcu⟩ := il_of_own ho5; clear ho5 hc5 hb5 hk5 hcu))
  clear O2 B2 LI2 Q2
  obtain ⟨pp, hpp⟩ : ∃ pp : Nat, pp = plc n o N := ⟨_, rfl⟩
  rw [← hpp] at C5
  have HPP : Hid (pp = plc n o N) := hpp
  clear hpp
  obtain ⟨c0, c1, y0, y1⟩ := C5.out.rg
  obtain ⟨d0, d1, t0, t1⟩ := Q5.out
  have hne1 : C ≠ w.heap.size + 1 := by have := L2.out; omega
  have hne2 : w.heap.size + 1 ≠ C := fun e => hne1 e.symm
  have K6 : Kd (fun k => k = w.heap.size + 1) w5 (((w5.setCell ⟨w.heap.size + 1, 0, none⟩ (.slice (some ⟨P, 0, none⟩) n n)).setCell ⟨w.heap.size + 1, 1, none⟩ (.int .i64 (pp : Int))).drew) := (((Kd.refl (fun k => k = w.heap.size + 1) w5).put (.inl rfl) 0 _).put (.inl rfl) 1 _).drew
  have F1 : Hid (Rg (((w5.setCell ⟨w.heap.size + 1, 0, none⟩ (.slice (some ⟨P, 0, none⟩) n n)).setCell ⟨w.heap.size + 1, 1, none⟩ (.int .i64 (pp : Int))).drew) (w.heap.size + 1) (.slice (some ⟨P, 0, none⟩) n n) (.int .i64 (pp : Int))) := ((Q5.out.put0 _).put1 _).call (Below.refl _ _).drew
  have F2 : Hid ((((w5.setCell ⟨w.heap.size + 1, 0, none⟩ (.slice (some ⟨P, 0, none⟩) n n)).setCell ⟨w.heap.size + 1, 1, none⟩ (.int .i64 (pp : Int))).drew).ownsRow w.heap.size 3 1 (.slice (some ⟨P, 0, none⟩) n n) n (ils (rcl n o cs xs N) n)) := own_kd C5.out.own K6 (fun g hg hd => by have e1 : P = g := Option.some.inj hg; have e2 : g = w.heap.size + 1 := hd; have := L2.out; omega)
  have F3 : Hid ((((w5.setCell ⟨w.heap.size + 1, 0, none⟩ (.slice (some ⟨P, 0, none⟩) n n)).setCell ⟨w.heap.size + 1, 1, none⟩ (.int .i64 (pp : Int))).drew).ownsRow w4.heap.size 3 1 (.slice uo N uc) N (ils (rtl n o cs xs) N)) := own_kd U5.out K6 (fun g hg hd => by have e1 := (World.ownsRow.lt U5.out g hg).1; have e2 : g = w.heap.size + 1 := hd; have := L2.out; have := L4.out; omega)
  have F4 : Hid (Below w.heap.size w (((w5.setCell ⟨w.heap.size + 1, 0, none⟩ (.slice (some ⟨P, 0, none⟩) n n)).setCell ⟨w.heap.size + 1, 1, none⟩ (.int .i64 (pp : Int))).drew)) := ((B5.out.setCell (p := ⟨w.heap.size + 1, 0, none⟩) (by show w.heap.size ≤ w.heap.size + 1; omega) _).setCell (p := ⟨w.heap.size + 1, 1, none⟩) (by show w.heap.size ≤ w.heap.size + 1; omega) _).drew
  clear K6
  go_region
  clear c0 c1 y0 y1 d0 d1 t0 t1
  generalize (((w5.setCell ⟨w.heap.size + 1, 0, none⟩ (.slice (some ⟨P, 0, none⟩) n n)).setCell ⟨w.heap.size + 1, 1, none⟩ (.int .i64 (pp : Int))).drew) = w6 at *
  have AP : Apart (.slice (some ⟨P, 0, none⟩) n n) (.slice uo N uc) := .inr (fun e => by have := (World.ownsRow.lt F3.out P (by rw [← e]; rfl)).1; have := L4.out; omega)
  have c0 := F1.out.c0
  have c1 := F1.out.c1
  go_wp2
  refine bodyPost_ret (v := .tuple #[.agg #[.slice (some ⟨P, 0, none⟩) n n, .int .i64 (pp : Int)], .slice uo N uc, .bool true]) (by simp [results, Try.results9, go_sem, c0, c1]) rfl ?_
  exact ⟨_, _, (by rw [← HPP.out]), F2.out, own_base F3.out (by have := L2.out; have := L4.out; omega), AP, F4.out⟩

theorem nil_own (w : World) (B : Nat) (ys : Nat → Int) : w.ownsRow B 3 1 (.slice none 0 0) 0 (ils ys 0) := ⟨rfl, .inl ⟨rfl, rfl⟩⟩

set_option maxRecDepth 20000 in
set_option maxHeartbeats 4000000 in
theorem iPush_bad {w : World} {cv lv : Value} {n N : Nat} {cs xs : Nat → Int} {o : Int} (hc : Il w cv n cs) (hl : Il w lv N xs) (hn : n ≤ 1048576) (hN : N ≤ 1048576) (h : ¬ GPu n N cs xs o) (zs ys : Nat → Int) :
    Calls Try.prog 9 #[.agg #[cv, .int .i64 o], lv] w fun e w' => Ppu w w' e 0 zs 0 0 ys false := by
  have b1 := below_one w (.cells #[cv, .int .i64 o] 26)
  have R1 := Rg.new w cv (.int .i64 o) 26
  have s1 : (w.alloc (.cells #[cv, .int .i64 o] 26)).heap.size = w.heap.size + 1 := by simp
  generalize hW1 : w.alloc (.cells #[cv, .int .i64 o] 26) = W1 at *
  have b2 := below_one W1 (.cells #[.slice none 0 0, .int .i64 0] 26)
  have R2 := Rg.new W1 (.slice none 0 0) (.int .i64 0) 26
  generalize hW2 : W1.alloc (.cells #[.slice none 0 0, .int .i64 0] 26) = W2 at *
  rw [s1] at R2
  have i1 := iRing_any ((hc.below b1).below b2) hn o
  have LI : Hid (Il W2 lv N xs) := (hl.below b1).below b2
  have BW : Hid (Below w.heap.size w W2) := bstep b1 b2
  have q1 : Hid (Rg W2 w.heap.size cv (.int .i64 o)) := R1.call b2
  have q2 : Hid (Rg W2 (w.heap.size + 1) (.slice none 0 0) (.int .i64 0)) := R2
  obtain ⟨dS, hdS⟩ : ∃ dS, dS = decide (Sig N xs) := ⟨_, rfl⟩
  have DS : Hid (dS = decide (Sig N xs)) := hdS
  clear hdS
  obtain ⟨ao, cap, rfl, hcap, hcc⟩ := hc
  obtain ⟨lo, lc, rfl, hlc, hcl⟩ := hl
  clear hcc hcl b1 b2 R1 R2
  go_enter Try.func9, Try.ntmps9
  go_upto_region 1 with fail
  clear hW1 hW2 s1
  have c0 := q1.out.c0
  have c1 := q1.out.c1
  by_cases h1 : Rgo n cs o
  · rw [decide_eq_true h1] at i1
    obtain rfl : dS = false := by rw [DS.out]; exact decide_eq_false (fun h2 => h ⟨h1, h2⟩)
    clear h h1
    go_upto_region 2 with (first
      | (go_at_call 21; (with_reducible refine i1.mono ?_); rintro e w3 ⟨rfl, hb3⟩; have BW : Hid (Below w.heap.size w w3) := bstep BW.out hb3; have q2 : Hid (Rg w3 (w.heap.size + 1) (.slice none 0 0) (.int .i64 0)) := q2.out.call hb3; have i2 := iSig_any (LI.out.below hb3) hN; rw [← DS.out] at i2; clear hb3)
      | (go_at_call 22; (with_reducible refine i2.mono ?_); rintro e w' ⟨rfl, hw⟩; obtain rfl := hw.symm))
    have V0 : Hid (Below w.heap.size w ((w3.setCell ⟨w.heap.size + 1, 0, none⟩ (.slice none 0 0)).setCell ⟨w.heap.size + 1, 1, none⟩ (.int .i64 0))) := (BW.out.setCell (p := ⟨w.heap.size + 1, 0, none⟩) (by show w.heap.size ≤ w.heap.size + 1; omega) _).setCell (p := ⟨w.heap.size + 1, 1, none⟩) (by show w.heap.size ≤ w.heap.size + 1; omega) _
    have V1 : Hid (Rg ((w3.setCell ⟨w.heap.size + 1, 0, none⟩ (.slice none 0 0)).setCell ⟨w.heap.size + 1, 1, none⟩ (.int .i64 0)) (w.heap.size + 1) (.slice none 0 0) (.int .i64 0)) := (q2.out.put0 _).put1 _
    have hs : ((w3.setCell ⟨w.heap.size + 1, 0, none⟩ (.slice none 0 0)).setCell ⟨w.heap.size + 1, 1, none⟩ (.int .i64 0)).heap.size = w3.heap.size := by simp [World.setCell]
    have O3 : Hid ((((w3.setCell ⟨w.heap.size + 1, 0, none⟩ (.slice none 0 0)).setCell ⟨w.heap.size + 1, 1, none⟩ (.int .i64 0)).alloc (.cells #[] 3)).ownsRow w3.heap.size 3 1 (.slice (some ⟨w3.heap.size, 0, none⟩) 0 0) 0 (ils ys 0)) := by
      have := own_empty ((w3.setCell ⟨w.heap.size + 1, 0, none⟩ (.slice none 0 0)).setCell ⟨w.heap.size + 1, 1, none⟩ (.int .i64 0)) 3 1
      rw [hs] at this
      exact this
    have SZ : Hid (w.heap.size ≤ w3.heap.size) := BW.out.size
    have L3 := q2.out.lt
    obtain ⟨d0, d1, t0, t1⟩ := q2.out
    have hne1 : w.heap.size + 1 ≠ w3.heap.size := (by omega)
    have hne2 : w3.heap.size ≠ w.heap.size + 1 := (by omega)
    clear c0 c1 hs
    go_wp2
    generalize hV : (w3.setCell ⟨w.heap.size + 1, 0, none⟩ (.slice none 0 0)).setCell ⟨w.heap.size + 1, 1, none⟩ (.int .i64 0) = w6 at *
    have V2 := V1.out.call (below_one w6 (.cells #[] 3))
    have c0 := V2.c0
    have c1 := V2.c1
    have B6 := bstep V0.out (below_one w6 (.cells #[] 3))
    generalize w6.alloc (.cells #[] 3) = w7 at *
    refine bodyPost_ret (v := .tuple #[.agg #[.slice none 0 0, .int .i64 0], .slice (some ⟨w3.heap.size, 0, none⟩) 0 0, .bool false]) (by simp [results, Try.results9, go_sem, c0, c1]) rfl ?_
    exact ⟨_, _, rfl, nil_own _ _ _, own_base O3.out SZ.out, .inl rfl, B6⟩
  · rw [decide_eq_false h1] at i1
    clear h h1
    go_upto_region 2 with (first
      | (go_at_call 21; (with_reducible refine i1.mono ?_); rintro e w3 ⟨rfl, hb3⟩; have BW : Hid (Below w.heap.size w w3) := bstep BW.out hb3; have q2 : Hid (Rg w3 (w.heap.size + 1) (.slice none 0 0) (.int .i64 0)) := q2.out.call hb3; clear hb3))
    have V0 : Hid (Below w.heap.size w ((w3.setCell ⟨w.heap.size + 1, 0, none⟩ (.slice none 0 0)).setCell ⟨w.heap.size + 1, 1, none⟩ (.int .i64 0))) := (BW.out.setCell (p := ⟨w.heap.size + 1, 0, none⟩) (by show w.heap.size ≤ w.heap.size + 1; omega) _).setCell (p := ⟨w.heap.size + 1, 1, none⟩) (by show w.heap.size ≤ w.heap.size + 1; omega) _
    have V1 : Hid (Rg ((w3.setCell ⟨w.heap.size + 1, 0, none⟩ (.slice none 0 0)).setCell ⟨w.heap.size + 1, 1, none⟩ (.int .i64 0)) (w.heap.size + 1) (.slice none 0 0) (.int .i64 0)) := (q2.out.put0 _).put1 _
    have hs : ((w3.setCell ⟨w.heap.size + 1, 0, none⟩ (.slice none 0 0)).setCell ⟨w.heap.size + 1, 1, none⟩ (.int .i64 0)).heap.size = w3.heap.size := by simp [World.setCell]
    have O3 : Hid ((((w3.setCell ⟨w.heap.size + 1, 0, none⟩ (.slice none 0 0)).setCell ⟨w.heap.size + 1, 1, none⟩ (.int .i64 0)).alloc (.cells #[] 3)).ownsRow w3.heap.size 3 1 (.slice (some ⟨w3.heap.size, 0, none⟩) 0 0) 0 (ils ys 0)) := by
      have := own_empty ((w3.setCell ⟨w.heap.size + 1, 0, none⟩ (.slice none 0 0)).setCell ⟨w.heap.size + 1, 1, none⟩ (.int .i64 0)) 3 1
      rw [hs] at this
      exact this
    have SZ : Hid (w.heap.size ≤ w3.heap.size) := BW.out.size
    have L3 := q2.out.lt
    obtain ⟨d0, d1, t0, t1⟩ := q2.out
    have hne1 : w.heap.size + 1 ≠ w3.heap.size := (by omega)
    have hne2 : w3.heap.size ≠ w.heap.size + 1 := (by omega)
    clear c0 c1 hs
    go_wp2
    generalize hV : (w3.setCell ⟨w.heap.size + 1, 0, none⟩ (.slice none 0 0)).setCell ⟨w.heap.size + 1, 1, none⟩ (.int .i64 0) = w6 at *
    have V2 := V1.out.call (below_one w6 (.cells #[] 3))
    have c0 := V2.c0
    have c1 := V2.c1
    have B6 := bstep V0.out (below_one w6 (.cells #[] 3))
    generalize w6.alloc (.cells #[] 3) = w7 at *
    refine bodyPost_ret (v := .tuple #[.agg #[.slice none 0 0, .int .i64 0], .slice (some ⟨w3.heap.size, 0, none⟩) 0 0, .bool false]) (by simp [results, Try.results9, go_sem, c0, c1]) rfl ?_
    exact ⟨_, _, rfl, nil_own _ _ _, own_base O3.out SZ.out, .inl rfl, B6⟩
end Go.Proofs.Ytphnoghnoacfiaa
