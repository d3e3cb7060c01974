/- A round begun. -/
import Derived.Test.YtlccicbgepfbbaaCA
namespace Go.Proofs.Ytlccicbgepfbbaa
open Go.RowKit

theorem law3 : Maps.Keyed Try.prog 3 := Maps.int_keyed Try.underlying3

theorem zeroE (w : World) : (zeroValue 3).run Try.prog w = .ok (.int .i64 0) w := by kernel_rfl

theorem wf_nat {x : Int} (h : -9000000000000000000 ≤ x ∧ x ≤ 9000000000000000000) : (Lit.int .i64 x).wf = true := by
  simp [Lit.wf, IntKind.min, IntKind.max, IntKind.bits, IntKind.signed]
  omega

theorem nz_le (n : Nat) (lf : Nat → Nat) : nz n lf ≤ n := by
  have h : nz n lf ≤ smN n (fun _ => 1) := smN_le fun k _ => by
    show (if lf k ≠ 0 then 1 else 0) ≤ 1
    split <;> omega
  rw [smN_const] at h
  omega

/-- A round of a net in memory: the net, what is due. -/
structure Rnd (w : World) (B G M : Nat) (po : Option Addr) (pc n m : Nat) (ss : Nat → Wr) (lf : Nat → Nat) (h : Nat → Int) : Prop where
  rg : Rg w G (.slice po m pc) (.map (some M))
  on : w.ownsRow B 31 5 (.slice po m pc) m (ils (zs (nt ss h)) (m * 5))
  om : ∃ D : Dw, Due D n lf ∧ w.ownsMap Try.prog 3 (plainElem Try.prog 3) M (Maps.size D) D
  pm : ∀ g, (Value.slice po m pc).ownBlock = some g → g < M
  mb : B ≤ M
  mg : M < G

theorem Rnd.mlt {w : World} {B G M : Nat} {po : Option Addr} {pc n m : Nat} {ss : Nat → Wr} {lf : Nat → Nat} {h : Nat → Int} (r : Rnd w B G M po pc n m ss lf h) : M < w.heap.size := by
  obtain ⟨D, _, hm⟩ := r.om
  exact hm.lt

theorem below_grown {w w' : World} (h : Below w.heap.size w w') : w.grownBy w' none := ⟨h.os, h.tape, h.output, h.size, fun i hi _ => h.block i hi⟩

theorem grown_belowN {w w' : World} (h : w.grownBy w' none) : Below w.heap.size w w' := ⟨h.os, h.tape, h.output, h.size, fun i hi => h.block i hi (by simp)⟩

theorem Rnd.below {w w' : World} {B G M : Nat} {po : Option Addr} {pc n m : Nat} {ss : Nat → Wr} {lf : Nat → Nat} {h : Nat → Int} (r : Rnd w B G M po pc n m ss lf h) (hb : Below w.heap.size w w') : Rnd w' B G M po pc n m ss lf h := by
  obtain ⟨D, hd, hm⟩ := r.om
  exact ⟨r.rg.block (hb.block G r.rg.lt), own_below r.on hb, ⟨D, hd, hm.kept (below_grown hb) (by simp)⟩, r.pm, r.mb, r.mg⟩

/-- A map turned: blocks of cells are as they were. -/
theorem turned_kd {w w' : World} {M : Nat} (h : w.mapTurned w' M) : Kd (fun g => g = M) w w' := by
  have g := h.grown
  exact ⟨g.os, g.tape, g.output, g.size, fun k hk hd => g.block k hk (fun e => hd (by injection e))⟩

theorem grownS_kd {w w' : World} {M : Nat} (g : w.grownBy w' (some M)) : Kd (fun g => g = M) w w' :=
  ⟨g.os, g.tape, g.output, g.size, fun k hk hd => g.block k hk (fun e => hd (by injection e))⟩

theorem rg_kd {D : Nat → Prop} {w w' : World} {G : Nat} {x y : Value} (h : Rg w G x y) (hk : Kd D w w') (hd : ¬ D G) : Rg w' G x y := h.block (hk.block G h.lt hd)

set_option maxRecDepth 20000 in
set_option maxHeartbeats 8000000 in
theorem newR_any {w : World} {v u : Value} {n m : Nat} {ss : Nat → Wr} {r : Nat → Nat} (hv : Ow w v m ss) (hu : Il w u n (fun i => (r i : Int))) (hm : m ≤ 40) (hn : n ≤ 20) (hr : ∀ b, b < n → 1 ≤ r b ∧ r b ≤ 2000) :
    Calls Try.prog 70 #[v, u] w fun e w' => ∃ G M po pc, e = .returned (.pointer (some ⟨G, 0, none⟩)) ∧ Rnd w' w.heap.size G M po pc n m ss (fun b => if b < n then r b else 0) (hav ss) ∧ Below w.heap.size w w' := by
  have HV : Hid (Ow w v m ss) := hv
  have HR : Hid (∀ b, b < n → 1 ≤ r b ∧ r b ≤ 2000) := hr
  have HU : Hid (Il w u n (fun i => (r i : Int))) := hu
  obtain ⟨ao, cap, rfl, hcap, hc⟩ := hu
  have HC : Hid (0 < n → ∃ b off, ao = some ⟨b, off, none⟩ ∧ b < w.heap.size ∧ ∀ k, k < n → w.cell? ⟨b, off + k, none⟩ = some (.int .i64 (r k : Int))) := hc
  clear hc hv hr
  have hmm := @run_makeMap Try.prog
  go_enter Try.func70, Try.ntmps70
  go_wp2_with (go_at_call 49; (with_reducible refine (newNet_any HV.out (by omega)).mono ?_); rintro e V ⟨x, rfl, ho, hb⟩; obtain ⟨po, pc, rfl, _⟩ := own_open ho; have X0 : Hid (V.ownsRow w.heap.size 31 5 (.slice po m pc) m (ils (zs ss) (m * 5))) := ho; have B0 : Hid (Below w.heap.size w V) := hb; clear hb ho)
  clear hmm
  obtain ⟨M, hM⟩ : ∃ M, M = V.heap.size := ⟨_, rfl⟩
  have HM : Hid (M = V.heap.size) := hM
  have R0 : Hid (Rnd ((V.alloc (.map #[] 0)).alloc (.cells #[.slice po m pc, .map (some V.heap.size)] 98)) w.heap.size (V.heap.size + 1) V.heap.size po pc n m ss (fun b => if b < 0 then r b else 0) (hav ss)) := by
    have b1 : Below V.heap.size V (V.alloc (.map #[] 0)) := below_one _ _
    have b2 : Below (V.alloc (.map #[] 0)).heap.size (V.alloc (.map #[] 0)) ((V.alloc (.map #[] 0)).alloc (.cells #[.slice po m pc, .map (some V.heap.size)] 98)) := below_one _ _
    have e1 : (V.alloc (.map #[] 0)).heap.size = V.heap.size + 1 := by simp
    have hd : Due (.map []) n (fun b => if b < 0 then r b else 0) := by
      have h := due_0 n
      rw [show (fun b => if b < 0 then r b else 0) = (fun _ => 0) from funext fun b => if_neg (by omega)]
      exact h
    refine ⟨?_, own_below (own_below X0.out b1) b2, ⟨_, hd, ((World.ownsMap_made V Try.prog 3 (plainElem Try.prog 3)).mono (Nat.zero_le _)).alloc _⟩, fun g hg => (World.ownsRow.lt X0.out g hg).2, B0.out.size, Nat.lt_succ_self _⟩
    have h := Rg.new (V.alloc (.map #[] 0)) (.slice po m pc) (.map (some V.heap.size)) 98
    rw [e1] at h
    exact h
  have B1 : Hid (Below w.heap.size w ((V.alloc (.map #[] 0)).alloc (.cells #[.slice po m pc, .map (some V.heap.size)] 98))) := bstep (bstep B0.out (below_one _ _)) (below_one _ _)
  rw [← hM] at R0 B1 ⊢
  clear hM
  generalize (V.alloc (.map #[] 0)).alloc (.cells #[.slice po m pc, .map (some M)] 98) = W0 at *
  go_loopw [6, 7, 15] (fun _ _ i wr => ∃ k : Nat, i = .int .i64 k ∧ k ≤ n ∧ Hid (Rnd wr w.heap.size (M + 1) M po pc n m ss (fun b => if b < k then r b else 0) (hav ss) ∧ Below w.heap.size w wr)) (fun _ _ i _ => n - (intOf i).toNat)
  case atStart => exact ⟨0, rfl, by omega, R0.out, B1.out⟩
  case round =>
    obtain ⟨k, rfl, hk, hrel⟩ := hrel
    have HRN : Hid (Rnd wr w.heap.size (M + 1) M po pc n m ss (fun b => if b < k then r b else 0) (hav ss)) := hrel.out.1
    have HB : Hid (Below w.heap.size w wr) := hrel.out.2
    clear hrel
    by_cases h1 : k < n
    · obtain ⟨b, off, rfl, hlt, hcell⟩ := HC.out (by omega)
      have c0 := (HB.out.cell (p := ⟨b, off + k, none⟩) hlt).trans (hcell k h1)
      clear hcell hlt
      have c1 := HRN.out.rg.c1
      obtain ⟨D, hd, hmo⟩ := HRN.out.om
      have HD : Hid (Due D n (fun b => if b < k then r b else 0)) := hd
      have HMO : Hid (wr.ownsMap Try.prog 3 (plainElem Try.prog 3) M (Maps.size D) D) := hmo
      have hsz : Hid (Maps.size D < maxLen) := by show _ < _; rw [hd.size]; have := nz_le n (fun b => if b < k then r b else 0); unfold maxLen; omega
      obtain ⟨rk1, rk2⟩ := HR.out k h1
      obtain ⟨x, hx⟩ : ∃ x, x = r k := ⟨_, rfl⟩
      have HX : Hid (x = r k) := hx
      rw [← hx] at c0 rk1 rk2
      clear hx hd hmo
      have hwf : Hid ((Lit.int .i64 (x : Int)).wf = true) := wf_nat (by omega)
      have hwk : Hid ((Lit.int .i64 (k : Int)).wf = true) := wf_nat (by omega)
      go_wp2_with (first
        | (at_mapUpdate; refine wpList_mapUpdate_own _ rfl _ _ _ 96 rfl 3 3 law3 Try.underlying96 _ M (Maps.size D) D rfl HMO.out hsz.out _ _ _ rfl rfl (Maps.keyOf_int_mk Try.underlying3 hwk.out) _ [] (plainElem_int Try.underlying3 hwf.out) ?_; intro w1 hown1 hgrow1; have HO1 : Hid (w1.ownsMap Try.prog 3 (plainElem Try.prog 3) M (Maps.size (D.put (kb k) (.lit (.int .i64 (x : Int))))) (D.put (kb k) (.lit (.int .i64 (x : Int))))) := own_norm hown1; have HK1 : Hid (Kd (fun g => g = M) wr w1) := grownS_kd hgrow1; clear hown1 hgrow1)
        | go_in)
      try go_frame
      go_wp2
      go_roundw
      case rel =>
        refine ⟨k + 1, by go_num, by omega, ⟨rg_kd HRN.out.rg HK1.out (by omega), own_kd HRN.out.on HK1.out (fun g hg e => by have := HRN.out.pm g hg; omega), ⟨_, due_put HD.out h1 (v := x) (by omega) ?_ ?_, HO1.out⟩, HRN.out.pm, HRN.out.mb, HRN.out.mg⟩, Kd.below HB.out HK1.out HB.out.size (by rintro g rfl; exact HRN.out.mb)⟩
        · show (if k < k + 1 then r k else 0) = x
          rw [if_pos (by omega), HX.out]
        · intro j hj hne
          show (if j < k + 1 then r j else 0) = (if j < k then r j else 0)
          by_cases e : j < k
          · rw [if_pos e, if_pos (by omega)]
          · rw [if_neg e, if_neg (by omega)]
      case measure => simp [intOf]; omega
    · obtain rfl : k = n := by omega
      go_wp2
      go_ret
      exact ⟨M + 1, M, po, pc, rfl, HRN.out, HB.out⟩
end Go.Proofs.Ytlccicbgepfbbaa
