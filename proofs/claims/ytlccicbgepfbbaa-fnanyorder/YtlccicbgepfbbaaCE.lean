/- A wave fired: the program. -/
import Derived.Test.YtlccicbgepfbbaaCD
import Derived.Maps.OwnOps
import Derived.Maps.OwnSet
namespace Go.Proofs.Ytlccicbgepfbbaa
open Go.RowKit Go.Maps

/-- What is due, and what lies there, behind j firings. -/
def lfs (lf : Nat → Nat) (o : Nat → Nat) : Nat → Nat → Nat
  | 0 => lf
  | j + 1 => dec (lfs lf o j) (o j)

def hsq (ss : Nat → Wr) (h : Nat → Int) (o : Nat → Nat) : Nat → Nat → Int
  | 0 => h
  | j + 1 => frd ss (o j : Int) (hsq ss h o j)

theorem due_gone {D : Dw} {n b : Nat} {lf lf' : Nat → Nat} {x : Dw} (h : Due D n lf) (hb : b < n) (h0 : lf b ≠ 0) (h1 : lf' b = 0) (h2 : ∀ k, k < n → k ≠ b → lf' k = lf k) : Due ((D.put (kb b) x).del (kb b)) n lf' := by
  have hk : WideAt.IsKeyLit (kb b) := trivial
  have ht : Maps.Tidy (D.put (kb b) x) := h.tidy.put hk _
  have hh : Maps.has D (kb b) = true := by
    rw [show kb b = Lit.int .i64 (b : Int) from rfl, h.has, show (b : Int).toNat = b by omega]
    exact decide_eq_true ⟨by omega, by omega, h0⟩
  refine ⟨ht.del _, fun y => ?_, fun c hc hne z => ?_, ?_⟩
  · by_cases e : y = (b : Int)
    · rw [e, show (Lit.int IntKind.i64 (b : Int)) = kb b from rfl, Maps.has_del_same]
      exact (decide_eq_false (fun q => by have := q.2.2; rw [show (b : Int).toNat = b by omega, h1] at this; exact this rfl)).symm
    · rw [Maps.has_del_other (lit_ne e), Maps.has_put_other (lit_ne e), h.has y]
      by_cases e1 : 0 ≤ y ∧ y < n
      · rw [h2 y.toNat (by omega) (by omega)]
      · rw [decide_eq_false (fun q => e1 ⟨q.1, q.2.1⟩), decide_eq_false (fun q => e1 ⟨q.1, q.2.1⟩)]
  · by_cases e : c = b
    · rw [e, h1] at hne; exact absurd rfl hne
    · rw [Maps.atKey_del_other (kb_ne e), Maps.atKey_put_other (kb_ne e), h2 c hc e]
      exact h.val c hc (by rw [← h2 c hc e]; exact hne) z
  · have h3 := Maps.size_del (k := kb b) ht
    rw [Maps.size_put h.tidy, hh, Maps.has_put_same h.tidy.isMap hk, if_pos rfl, if_pos rfl, h.size] at h3
    have h4 := nz_put (f := lf) (g := lf') hb (fun k hk hne => by rw [h2 k hk hne])
    rw [if_neg (show ¬ lf' b ≠ 0 by rw [h1]; simp), if_pos h0] at h4
    omega

theorem kd_grown {w w' : World} {r : Option Nat} (h : Kd (fun x => r = some x) w w') : w.grownBy w' r := ⟨h.os, h.tape, h.output, h.size, fun i hi hne => h.block i hi (fun e => hne e.symm)⟩

theorem lfs_le {lf : Nat → Nat} {o : Nat → Nat} {n : Nat} (h : ∀ b, b < n → lf b ≤ 2000) : ∀ j b, b < n → lfs lf o j b ≤ 2000
  | 0, b, hb => h b hb
  | j + 1, b, hb => by
    have h1 := lfs_le (o := o) h j
    show dec (lfs lf o j) (o j) b ≤ 2000
    unfold dec
    split
    · rename_i e
      have := h1 b hb
      rw [e] at this
      omega
    · exact h1 b hb

/-- The blocks that a round turns. -/
abbrev RnD (po : Option Addr) (m pc M g : Nat) : Prop := (Value.slice po m pc).ownBlock = some g ∨ g = M

set_option maxRecDepth 20000 in
set_option maxHeartbeats 8000000 in
theorem fireAll_any {w : World} {B G M tg tc q : Nat} {po : Option Addr} {pc n m : Nat} {ss : Nat → Wr} {lf : Nat → Nat} {h : Nat → Int} {o : Nat → Nat} (hR : Rnd w B G M po pc n m ss lf h) (hv : Il w (.slice (some ⟨tg, 0, none⟩) q tc) q (fun i => (o i : Int))) (hg : G < tg) (hm : m ≤ 40) (hn : n ≤ 20) (hq : q ≤ 2000)
    (hd : ∀ j, j < q → o j < n ∧ lfs lf o j (o j) ≠ 0) (hf : ∀ j, j < q → Fit m ss (hsq ss h o j)) (hl : ∀ b, b < n → lf b ≤ 2000) :
    Calls Try.prog 72 #[.pointer (some ⟨G, 0, none⟩), .slice (some ⟨tg, 0, none⟩) q tc] w fun e w' => e = .returned (.tuple #[]) ∧ Rnd w' B G M po pc n m ss (lfs lf o q) (hsq ss h o q) ∧ Kd (RnD po m pc M) w w' := by
  have HR : Hid (Rnd w B G M po pc n m ss lf h) := hR
  have HG : Hid (G < tg) := hg
  have HD : Hid (∀ j, j < q → o j < n ∧ lfs lf o j (o j) ≠ 0) := hd
  have HF : Hid (∀ j, j < q → Fit m ss (hsq ss h o j)) := hf
  have HL : Hid (∀ b, b < n → lf b ≤ 2000) := hl
  obtain ⟨ao, cap, he, hcap, hc⟩ := hv
  injection he with he1 he2 he3
  subst he1
  subst he3
  have HC : Hid (0 < q → tg < w.heap.size ∧ ∀ k, k < q → w.cell? ⟨tg, k, none⟩ = some (.int .i64 (o k : Int))) := fun h0 => by
    obtain ⟨b, off, e, h1, h2⟩ := hc h0
    injection e with e
    injection e with e1 e2 e3
    subst e1
    subst e2
    exact ⟨h1, fun k hk => by have := h2 k hk; rw [Nat.zero_add] at this; exact this⟩
  clear hc hd hf hl hR hg
  go_enter Try.func72, Try.ntmps72
  go_wp2
  go_loopw [5, 8] (fun _ i wr => ∃ k : Nat, i = .int .i64 k ∧ k ≤ q ∧ Hid (Rnd wr B G M po pc n m ss (lfs lf o k) (hsq ss h o k) ∧ Kd (RnD po m pc M) w wr)) (fun _ i _ => q - (intOf i).toNat)
  case atStart => exact ⟨0, rfl, by omega, HR.out, Kd.refl _ _⟩
  case round =>
    obtain ⟨k, rfl, hk, hrel⟩ := hrel
    have HRN : Hid (Rnd wr B G M po pc n m ss (lfs lf o k) (hsq ss h o k)) := hrel.out.1
    have HK : Hid (Kd (RnD po m pc M) w wr) := hrel.out.2
    clear hrel
    by_cases h1 : k < q
    · have hnd : ¬ RnD po m pc M tg := by
        rintro (e | e)
        · have := HRN.out.pm tg e; have := HRN.out.mg; have := HG.out; omega
        · have := HRN.out.mg; have := HG.out; omega
      have a0 : wr.cell? ⟨tg, k, none⟩ = some (.int .i64 (o k : Int)) := (World.cell?_of_block (w := w) (a := ⟨tg, k, none⟩) (HK.out.block tg (HC.out (by omega)).1 hnd)).trans ((HC.out (by omega)).2 k h1)
      have c0 := HRN.out.rg.c0
      obtain ⟨hb, hne⟩ := HD.out k h1
      have hle := lfs_le (o := o) HL.out k (o k) hb
      obtain ⟨y, hy⟩ : ∃ y, lfs lf o k (o k) = y + 1 := ⟨lfs lf o k (o k) - 1, by omega⟩
      have HY : Hid (lfs lf o k (o k) = y + 1) := hy
      have hy2 : y ≤ 2000 := by omega
      have HNE : Hid (lfs lf o k (o k) ≠ 0) := hne
      have ifr := iFire_any (ss := nt ss (hsq ss h o k)) (o k : Int) HRN.out.on (fit_nt (HF.out k h1)) (by omega)
      obtain ⟨D, hd, hmo⟩ := HRN.out.om
      have HDU : Hid (Due D n (lfs lf o k)) := hd
      have HMO : Hid (wr.ownsMap Try.prog 3 (plainElem Try.prog 3) M (Maps.size D) D) := hmo
      obtain ⟨bk, hbk⟩ : ∃ b, b = o k := ⟨_, rfl⟩
      have HBK : Hid (bk = o k) := hbk
      rw [← hbk] at a0 hb hy hne ifr
      have HVAL : Hid (∀ z, D.atKey (kb bk) z = .lit (.int .i64 ((y : Int) + 1))) := fun z => by rw [hbk, hd.val (o k) (by rw [← hbk]; exact hb) (by rw [HY.out]; omega) z, HY.out]; rfl
      have hsz : Hid (Maps.size D < maxLen) := by show _ < _; rw [hd.size]; have := nz_le n (lfs lf o k); unfold maxLen; omega
      have hwk : Hid ((Lit.int .i64 (bk : Int)).wf = true) := wf_nat (by omega)
      have hwy : Hid ((Lit.int .i64 (y : Int)).wf = true) := wf_nat (by omega)
      clear hd hmo hy hne hle hbk hnd
      have HBN : Hid (bk < n) := hb
      clear hb
      by_cases hy0 : y = 0
      · have HY0 : Hid (y = 0) := hy0
        have hb0 : ((y : Int) == 0) = true := beq_iff_eq.2 (by omega)
        clear hy0
        go_wp2_with (first
          | (go_at_call 53; (with_reducible refine ifr.mono ?_); rintro e w2 ⟨rfl, h5, h6⟩; have ON2 : Hid (w2.ownsRow B 31 5 (.slice po m pc) m (ils (zs (nt ss (frd ss (bk : Int) (hsq ss h o k)))) (m * 5))) := h5; have RG2 : Hid (Rg w2 G (.slice po m pc) (.map (some M))) := rg_kd HRN.out.rg h6 (fun e => by have := HRN.out.pm G e; have := HRN.out.mg; omega); have HK2 : Hid (Kd (RnD po m pc M) w w2) := HK.out.trans (h6.mono fun g hg => .inl hg); have HM2 : Hid (w2.ownsMap Try.prog 3 (plainElem Try.prog 3) M (Maps.size D) D) := HMO.out.kept (kd_grown h6) (by intro e; have := HRN.out.pm M e.symm; omega); have c1 := RG2.out.c1; clear h5 h6)
          | (at_lookup; (fail_if_success have := M1); refine wpList_lookup_own_int _ rfl _ _ 96 rfl 3 3 .i64 law3 Try.underlying96 Try.underlying3 (zeroE _) M (Maps.size D) D rfl HM2.out _ _ rfl (Maps.keyOf_int_mk Try.underlying3 hwk.out) ?_; intro c hat hwc; have M1 : Hid True := trivial; rw [HVAL.out] at hat; obtain rfl : (y : Int) + 1 = c := (by injection hat with hat; injection hat with _ hat); clear hat hwc)
          | (at_mapUpdate; refine wpList_mapUpdate_own _ rfl _ _ _ 96 rfl 3 3 law3 Try.underlying96 _ M (Maps.size D) D rfl HM2.out hsz.out _ _ _ rfl rfl (Maps.keyOf_int_mk Try.underlying3 hwk.out) (.lit (.int .i64 (y : Int))) [] (by go_simp; exact plainElem_int Try.underlying3 hwy.out) ?_; intro w3 hown3 hgrow3; have HM3 : Hid (w3.ownsMap Try.prog 3 (plainElem Try.prog 3) M (Maps.size (D.put (kb bk) (.lit (.int .i64 (y : Int))))) (D.put (kb bk) (.lit (.int .i64 (y : Int))))) := own_norm hown3; have HK3 : Hid (Kd (fun g => g = M) w2 w3) := grownS_kd hgrow3; have RG3 : Hid (Rg w3 G (.slice po m pc) (.map (some M))) := rg_kd RG2.out HK3.out (by have := HRN.out.mg; omega); have c13 := RG3.out.c1; have ON3 : Hid _ := own_kd ON2.out HK3.out (fun g hg e => by have := HRN.out.pm g hg; omega); have HKW : Hid (Kd (RnD po m pc M) w w3) := HK2.out.trans (HK3.out.mono fun g hg => .inr hg); clear hown3 hgrow3)
          | (at_lookup; have Z := M1; refine wpList_lookup_own_int _ rfl _ _ 96 rfl 3 3 .i64 law3 Try.underlying96 Try.underlying3 (zeroE _) M _ (D.put (kb bk) (.lit (.int .i64 (y : Int)))) rfl HM3.out _ _ rfl (Maps.keyOf_int_mk Try.underlying3 hwk.out) ?_; intro c hat hwc; rw [show (Lit.int IntKind.i64 (bk : Int)) = kb bk from rfl, Maps.atKey_put_same HDU.out.tidy.isMap (show WideAt.IsKeyLit (kb bk) from trivial)] at hat; obtain rfl : (y : Int) = c := (by injection hat with hat; injection hat with _ hat); clear hat hwc)
          | (at_delete; refine wpList_delete_own _ rfl _ _ 96 3 rfl 3 law3 Try.underlying96 _ M _ (D.put (kb bk) (.lit (.int .i64 (y : Int)))) rfl HM3.out _ _ rfl (Maps.keyOf_int_mk Try.underlying3 hwk.out) ?_; intro w4 hown4 hturn4; have HM4 : Hid (w4.ownsMap Try.prog 3 (plainElem Try.prog 3) M (Maps.size ((D.put (kb bk) (.lit (.int .i64 (y : Int)))).del (kb bk))) ((D.put (kb bk) (.lit (.int .i64 (y : Int)))).del (kb bk))) := own_norm hown4; have HK4 : Hid (Kd (fun g => g = M) w3 w4) := turned_kd hturn4; clear hown4 hturn4)
          | go_in)
        try go_frame
        go_wp2
        go_roundw
        case rel =>
          refine ⟨k + 1, by go_num, by omega, ⟨rg_kd RG3.out HK4.out (by have := HRN.out.mg; omega), ?_, ⟨_, due_gone HDU.out HBN.out (by rw [HBK.out]; exact HNE.out) ?_ ?_, HM4.out⟩, HRN.out.pm, HRN.out.mb, HRN.out.mg⟩, HKW.out.trans (HK4.out.mono fun g hg => .inr hg)⟩
          · have h8 := own_kd ON3.out HK4.out (fun g hg e => by have := HRN.out.pm g hg; omega)
            rw [HBK.out] at h8
            exact h8
          · show dec (lfs lf o k) (o k) bk = 0
            unfold dec
            rw [if_pos HBK.out, HY.out, HY0.out]
          · intro j hj hne
            show dec (lfs lf o k) (o k) j = lfs lf o k j
            unfold dec
            rw [if_neg (by rw [← HBK.out]; exact hne)]
        case measure => simp [intOf]; omega
      · have HY0 : Hid (y ≠ 0) := hy0
        have hb0 : ((y : Int) == 0) = false := beq_false_of_ne (by omega)
        clear hy0
        go_wp2_with (first
          | (go_at_call 53; (with_reducible refine ifr.mono ?_); rintro e w2 ⟨rfl, h5, h6⟩; have ON2 : Hid (w2.ownsRow B 31 5 (.slice po m pc) m (ils (zs (nt ss (frd ss (bk : Int) (hsq ss h o k)))) (m * 5))) := h5; have RG2 : Hid (Rg w2 G (.slice po m pc) (.map (some M))) := rg_kd HRN.out.rg h6 (fun e => by have := HRN.out.pm G e; have := HRN.out.mg; omega); have HK2 : Hid (Kd (RnD po m pc M) w w2) := HK.out.trans (h6.mono fun g hg => .inl hg); have HM2 : Hid (w2.ownsMap Try.prog 3 (plainElem Try.prog 3) M (Maps.size D) D) := HMO.out.kept (kd_grown h6) (by intro e; have := HRN.out.pm M e.symm; omega); have c1 := RG2.out.c1; clear h5 h6)
          | (at_lookup; (fail_if_success have := M1); refine wpList_lookup_own_int _ rfl _ _ 96 rfl 3 3 .i64 law3 Try.underlying96 Try.underlying3 (zeroE _) M (Maps.size D) D rfl HM2.out _ _ rfl (Maps.keyOf_int_mk Try.underlying3 hwk.out) ?_; intro c hat hwc; have M1 : Hid True := trivial; rw [HVAL.out] at hat; obtain rfl : (y : Int) + 1 = c := (by injection hat with hat; injection hat with _ hat); clear hat hwc)
          | (at_mapUpdate; refine wpList_mapUpdate_own _ rfl _ _ _ 96 rfl 3 3 law3 Try.underlying96 _ M (Maps.size D) D rfl HM2.out hsz.out _ _ _ rfl rfl (Maps.keyOf_int_mk Try.underlying3 hwk.out) (.lit (.int .i64 (y : Int))) [] (by go_simp; exact plainElem_int Try.underlying3 hwy.out) ?_; intro w3 hown3 hgrow3; have HM3 : Hid (w3.ownsMap Try.prog 3 (plainElem Try.prog 3) M (Maps.size (D.put (kb bk) (.lit (.int .i64 (y : Int))))) (D.put (kb bk) (.lit (.int .i64 (y : Int))))) := own_norm hown3; have HK3 : Hid (Kd (fun g => g = M) w2 w3) := grownS_kd hgrow3; have RG3 : Hid (Rg w3 G (.slice po m pc) (.map (some M))) := rg_kd RG2.out HK3.out (by have := HRN.out.mg; omega); have c13 := RG3.out.c1; have ON3 : Hid _ := own_kd ON2.out HK3.out (fun g hg e => by have := HRN.out.pm g hg; omega); have HKW : Hid (Kd (RnD po m pc M) w w3) := HK2.out.trans (HK3.out.mono fun g hg => .inr hg); clear hown3 hgrow3)
          | (at_lookup; have Z := M1; refine wpList_lookup_own_int _ rfl _ _ 96 rfl 3 3 .i64 law3 Try.underlying96 Try.underlying3 (zeroE _) M _ (D.put (kb bk) (.lit (.int .i64 (y : Int)))) rfl HM3.out _ _ rfl (Maps.keyOf_int_mk Try.underlying3 hwk.out) ?_; intro c hat hwc; rw [show (Lit.int IntKind.i64 (bk : Int)) = kb bk from rfl, Maps.atKey_put_same HDU.out.tidy.isMap (show WideAt.IsKeyLit (kb bk) from trivial)] at hat; obtain rfl : (y : Int) = c := (by injection hat with hat; injection hat with _ hat); clear hat hwc)
          | go_in)
        try go_frame
        go_wp2
        go_roundw
        case rel =>
          refine ⟨k + 1, by go_num, by omega, ⟨RG3.out, ?_, ⟨_, due_put HDU.out HBN.out HY0.out ?_ ?_, HM3.out⟩, HRN.out.pm, HRN.out.mb, HRN.out.mg⟩, HKW.out⟩
          · have h8 := ON3.out
            rw [HBK.out] at h8
            exact h8
          · show dec (lfs lf o k) (o k) bk = y
            unfold dec
            rw [if_pos HBK.out, HY.out]
            omega
          · intro j hj hne
            show dec (lfs lf o k) (o k) j = lfs lf o k j
            unfold dec
            rw [if_neg (by rw [← HBK.out]; exact hne)]
        case measure => simp [intOf]; omega
    · obtain rfl : k = q := by omega
      go_wp2
      go_end0
      exact ⟨rfl, HRN.out, HK.out⟩
end Go.Proofs.Ytlccicbgepfbbaa
