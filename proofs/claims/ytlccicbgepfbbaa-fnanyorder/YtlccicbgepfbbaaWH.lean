/- Firing: the program. -/
import Derived.Test.YtlccicbgepfbbaaWG
import Derived.BigRegion
import Derived.Deep.QuietTactic
namespace Go.Proofs.Ytlccicbgepfbbaa
open Go.RowKit

/-- Wires behind a firing, and behind k of its wires. -/
def nfr (ss : Nat → Wr) (b : Int) : Nat → Wr := nt ss (frd ss b (hav ss))
def nup (ss : Nat → Wr) (b : Int) (k : Nat) : Nat → Wr := nt ss (upf ss b (hav ss) k)

theorem nup_0 (ss : Nat → Wr) (b : Int) : nup ss b 0 = ss := by unfold nup; rw [upf_0]; rfl

theorem nup_m (ss : Nat → Wr) (b : Int) (m : Nat) : ils (zs (nup ss b m)) (m * 5) = ils (zs (nfr ss b)) (m * 5) := zs_congr fun i hi => by
  unfold nup nfr nt upf
  rw [if_pos hi]

theorem nup_put {ss : Nat → Wr} {b : Int} {k : Nat} {y : Int} (h : frd ss b (hav ss) k = y) : zs (nup ss b (k + 1)) = fun j => if j = k * 5 + 4 then y else zs (nup ss b k) j := by
  rw [zs_put4]
  congr 1
  funext i
  by_cases e : i = k
  · rw [if_pos e, e]
    show nt ss (upf ss b (hav ss) (k + 1)) k = _
    rw [← upf_put]
    show Wr.mk _ _ _ _ (if k = k then _ else _) = _
    rw [if_pos rfl, h]
    rfl
  · rw [if_neg e]
    unfold nup nt
    rw [← upf_put]
    show Wr.mk _ _ _ _ (if i = k then _ else _) = _
    rw [if_neg e]

theorem nup_same {ss : Nat → Wr} {b : Int} {k : Nat} (h : frd ss b (hav ss) k = (ss k).ha) : nup ss b (k + 1) = nup ss b k := by
  funext i
  unfold nup nt
  rw [← upf_put]
  by_cases e : i = k
  · rw [e, upf_at]
    show Wr.mk _ _ _ _ (if k = k then _ else _) = _
    rw [if_pos rfl, h]
    rfl
  · show Wr.mk _ _ _ _ (if i = k then _ else _) = _
    rw [if_neg e]

set_option maxHeartbeats 8000000 in
theorem iFire_some {w : World} {B g m cap : Nat} {ss : Nat → Wr} (bb : Int) (hu : w.ownsRow B 31 5 (.slice (some ⟨g, 0, none⟩) m cap) m (ils (zs ss) (m * 5))) (hf : Fit m ss (hav ss)) (hm : m ≤ 1048576) :
    Calls Try.prog 53 #[.slice (some ⟨g, 0, none⟩) m cap, .int .i64 bb] w fun e w' => e = .returned (.tuple #[]) ∧ w'.ownsRow B 31 5 (.slice (some ⟨g, 0, none⟩) m cap) m (ils (zs (nfr ss bb)) (m * 5)) ∧ Kd (fun x => x = g) w w' := by
  have hg := World.ownsRow.lt hu g rfl
  have HG : Hid (g < w.heap.size) := hg.2
  clear hg
  have HU : Hid (w.ownsRow B 31 5 (.slice (some ⟨g, 0, none⟩) m cap) m (ils (zs ss) (m * 5))) := hu
  have HF : Hid (Fit m ss (hav ss)) := hf
  clear hu hf
  go_enter Try.func53, Try.ntmps53
  go_wp2
  go_loopw [4, 8] (fun _ i wr => ∃ k : Nat, i = .int .i64 k ∧ k ≤ m ∧ Hid (wr.ownsRow B 31 5 (.slice (some ⟨g, 0, none⟩) m cap) m (ils (zs (nup ss bb k)) (m * 5)) ∧ Kd (fun x => x = g) w wr)) (fun _ i _ => m - (intOf i).toNat)
  case atStart => exact ⟨0, rfl, by omega, by rw [nup_0]; exact HU.out, Kd.refl _ _⟩
  case round =>
    obtain ⟨k, rfl, hk, hrel⟩ := hrel
    by_cases h1 : k < m
    · have HO : Hid (wr.ownsRow B 31 5 (.slice (some ⟨g, 0, none⟩) m cap) m (ils (zs (nup ss bb k)) (m * 5))) := hrel.out.1
      have HK : Hid (Kd (fun x => x = g) w wr) := hrel.out.2
      clear hrel
      have a0 := own5_cell HO.out (j := k * 5) (by omega)
      have a1 := own5_cell HO.out (j := k * 5 + 1) (by omega)
      have a2 := own5_cell HO.out (j := k * 5 + 2) (by omega)
      have a3 := own5_cell HO.out (j := k * 5 + 3) (by omega)
      have a4 := own5_cell HO.out (j := k * 5 + 4) (by omega)
      have e0 : zs (nup ss bb k) (k * 5) = (ss k).fr := zs_at _ k 0 (by omega)
      have e1 : zs (nup ss bb k) (k * 5 + 1) = (ss k).to := zs_at _ k 1 (by omega)
      have e2 : zs (nup ss bb k) (k * 5 + 2) = (ss k).gi := zs_at _ k 2 (by omega)
      have e3 : zs (nup ss bb k) (k * 5 + 3) = (ss k).ta := zs_at _ k 3 (by omega)
      have e4 : zs (nup ss bb k) (k * 5 + 4) = (ss k).ha := (zs_at _ k 4 (by omega)).trans (upf_at ss bb (hav ss) k)
      rw [e0] at a0
      rw [e1] at a1
      rw [e2] at a2
      rw [e3] at a3
      rw [e4] at a4
      clear e0 e1 e2 e3 e4
      have z4 := World.ownsRow.frozenAt HO.out (k * 5 + 4)
      have hgl : g < wr.heap.size := Nat.lt_of_lt_of_le HG.out HK.out.size
      have hgn : ¬ g = wr.heap.size := by omega
      obtain ⟨⟨x1, x2⟩, ⟨x3, x4⟩, ⟨x5, x6⟩⟩ := HF.out k h1
      unfold hav at x1 x2
      obtain ⟨x, hx⟩ : ∃ x, x = (ss k).ha := ⟨_, rfl⟩
      obtain ⟨ta, hta⟩ : ∃ x, x = (ss k).ta := ⟨_, rfl⟩
      obtain ⟨gi, hgi⟩ : ∃ x, x = (ss k).gi := ⟨_, rfl⟩
      obtain ⟨fr, hfr⟩ : ∃ x, x = (ss k).fr := ⟨_, rfl⟩
      obtain ⟨to, hto⟩ : ∃ x, x = (ss k).to := ⟨_, rfl⟩
      have HX : Hid (x = (ss k).ha ∧ ta = (ss k).ta ∧ gi = (ss k).gi ∧ fr = (ss k).fr ∧ to = (ss k).to) := ⟨hx, hta, hgi, hfr, hto⟩
      rw [← hx] at a4 x1 x2
      rw [← hta] at a3 x5 x6
      rw [← hgi] at a2 x3 x4
      rw [← hfr] at a0
      rw [← hto] at a1
      clear hx hta hgi hfr hto
      by_cases ht : to = bb
      · by_cases hr : fr = bb
        · skip
          have HT : Hid (to = bb) := ht
          subst ht
          have HR : Hid True := trivial
          subst hr
          have HV : Hid (frd ss fr (hav ss) k = ((x - ta) + gi)) := by show _ = _; unfold frd stp1 stp2 hav; rw [← HX.out.1, ← HX.out.2.1, ← HX.out.2.2.1, ← HX.out.2.2.2.1, ← HX.out.2.2.2.2, if_pos rfl, if_pos rfl]
          have HB1 : Hid (Below wr.heap.size wr (wr.alloc (.cells #[.int .i64 fr, .int .i64 fr, .int .i64 gi, .int .i64 ta, .int .i64 x] 31))) := below_one _ _
          go_wp2
          go_region
          go_wp2
          go_region
          go_wp2
          go_roundw
          case rel =>
            have st := (World.ownsRow.stored (World.ownsRow.stored HO.out (k * 5 + 4) (.int .i64 (x - ta))).1 (k * 5 + 4) (.int .i64 ((x - ta) + gi))).1
            rw [ils_put, ils_put] at st
            refine ⟨k + 1, by go_num, by omega, ?_, (kd_drew (kd_drew (Kd.trans (Kd.put (Kd.put HK.out (.inl rfl) (k * 5 + 4) (.int .i64 (x - ta))) (.inl rfl) (k * 5 + 4) (.int .i64 ((x - ta) + gi))) (Kd.of_below (below_one _ _)))))⟩
            rw [nup_put HV.out, ils_congr (g := fun j => if j = k * 5 + 4 then _ else zs (nup ss fr k) j) fun j hj => rfl]
            rw [ils_congr (g := fun j => if j = k * 5 + 4 then ((x - ta) + gi) else zs (nup ss fr k) j) fun j hj => ?_] at st
            · exact (own_drew (own_drew (own_below st (below_one _ _))))
            · by_cases e : j = k * 5 + 4
              · simp only [if_pos e]
              · simp only [if_neg e]
          case measure => simp [intOf]; omega
        · skip
          have HT : Hid (to = bb) := ht
          subst ht
          have HR : Hid (¬ fr = to) := hr
          have HV : Hid (frd ss to (hav ss) k = (x - ta)) := by show _ = _; unfold frd stp1 stp2 hav; rw [← HX.out.1, ← HX.out.2.1, ← HX.out.2.2.1, ← HX.out.2.2.2.1, ← HX.out.2.2.2.2, if_pos rfl, if_neg HR.out]
          have HB1 : Hid (Below wr.heap.size wr (wr.alloc (.cells #[.int .i64 fr, .int .i64 to, .int .i64 gi, .int .i64 ta, .int .i64 x] 31))) := below_one _ _
          go_wp2
          go_region
          go_wp2
          go_roundw
          case rel =>
            have st := (World.ownsRow.stored HO.out (k * 5 + 4) (.int .i64 (x - ta))).1
            rw [ils_put] at st
            refine ⟨k + 1, by go_num, by omega, ?_, (kd_drew (Kd.trans (Kd.put HK.out (.inl rfl) (k * 5 + 4) (.int .i64 (x - ta))) (Kd.of_below (below_one _ _))))⟩
            rw [nup_put HV.out, ils_congr (g := fun j => if j = k * 5 + 4 then _ else zs (nup ss to k) j) fun j hj => rfl]
            rw [ils_congr (g := fun j => if j = k * 5 + 4 then (x - ta) else zs (nup ss to k) j) fun j hj => ?_] at st
            · exact (own_drew (own_below st (below_one _ _)))
            · by_cases e : j = k * 5 + 4
              · simp only [if_pos e]
              · simp only [if_neg e]
          case measure => simp [intOf]; omega
      · by_cases hr : fr = bb
        · skip
          have HT : Hid (¬ to = bb) := ht
          have HR : Hid (fr = bb) := hr
          subst hr
          have HV : Hid (frd ss fr (hav ss) k = (x + gi)) := by show _ = _; unfold frd stp1 stp2 hav; rw [← HX.out.1, ← HX.out.2.1, ← HX.out.2.2.1, ← HX.out.2.2.2.1, ← HX.out.2.2.2.2, if_neg HT.out, if_pos rfl]
          have HB1 : Hid (Below wr.heap.size wr (wr.alloc (.cells #[.int .i64 fr, .int .i64 to, .int .i64 gi, .int .i64 ta, .int .i64 x] 31))) := below_one _ _
          go_wp2
          go_region
          go_wp2
          go_roundw
          case rel =>
            have st := (World.ownsRow.stored HO.out (k * 5 + 4) (.int .i64 (x + gi))).1
            rw [ils_put] at st
            refine ⟨k + 1, by go_num, by omega, ?_, (kd_drew (Kd.trans (Kd.put HK.out (.inl rfl) (k * 5 + 4) (.int .i64 (x + gi))) (Kd.of_below (below_one _ _))))⟩
            rw [nup_put HV.out, ils_congr (g := fun j => if j = k * 5 + 4 then _ else zs (nup ss fr k) j) fun j hj => rfl]
            rw [ils_congr (g := fun j => if j = k * 5 + 4 then (x + gi) else zs (nup ss fr k) j) fun j hj => ?_] at st
            · exact (own_drew (own_below st (below_one _ _)))
            · by_cases e : j = k * 5 + 4
              · simp only [if_pos e]
              · simp only [if_neg e]
          case measure => simp [intOf]; omega
        · skip
          have HT : Hid (¬ to = bb) := ht
          have HR : Hid (¬ fr = bb) := hr
          have HV : Hid (frd ss bb (hav ss) k = x) := by show _ = _; unfold frd stp1 stp2 hav; rw [← HX.out.1, ← HX.out.2.1, ← HX.out.2.2.1, ← HX.out.2.2.2.1, ← HX.out.2.2.2.2, if_neg HT.out, if_neg HR.out]
          have HB1 : Hid (Below wr.heap.size wr (wr.alloc (.cells #[.int .i64 fr, .int .i64 to, .int .i64 gi, .int .i64 ta, .int .i64 x] 31))) := below_one _ _
          go_wp2
          go_roundw
          case rel => exact ⟨k + 1, by go_num, by omega, by rw [nup_same (HV.out.trans HX.out.1)]; exact own_below HO.out HB1.out, HK.out.trans (Kd.of_below HB1.out)⟩
          case measure => simp [intOf]; omega
    · obtain rfl : k = m := by omega
      have HR : Hid _ := hrel.out
      clear hrel
      go_wp2
      go_end0
      exact ⟨rfl, by rw [← nup_m]; exact HR.out.1, HR.out.2⟩
end Go.Proofs.Ytlccicbgepfbbaa
