/- Firing. -/
import Derived.Test.YtlccicbgepfbbaaWF
import Derived.BigRegion
import Derived.Deep.QuietTactic
namespace Go.Proofs.Ytlccicbgepfbbaa
open Go.RowKit

/-- Nothing old has turned but in the blocks of D. -/
structure Kd (D : Nat → Prop) (w w' : World) : Prop where
  os : w'.os = w.os
  tape : w'.tape = w.tape
  output : w'.output = w.output
  size : w.heap.size ≤ w'.heap.size
  block : ∀ k, k < w.heap.size → ¬ D k → w'.heap[k]? = w.heap[k]?

theorem Kd.refl (D : Nat → Prop) (w : World) : Kd D w w := ⟨rfl, rfl, rfl, Nat.le_refl _, fun _ _ _ => rfl⟩

theorem Kd.trans {D : Nat → Prop} {w w1 w2 : World} (h : Kd D w w1) (h' : Kd D w1 w2) : Kd D w w2 :=
  ⟨h'.os.trans h.os, h'.tape.trans h.tape, h'.output.trans h.output, Nat.le_trans h.size h'.size, fun k hk hd => (h'.block k (Nat.lt_of_lt_of_le hk h.size) hd).trans (h.block k hk hd)⟩

theorem Kd.mono {D E : Nat → Prop} {w w1 : World} (h : Kd D w w1) (hd : ∀ g, D g → E g) : Kd E w w1 := ⟨h.os, h.tape, h.output, h.size, fun k hk he => h.block k hk (fun x => he (hd k x))⟩

theorem Kd.of_below {D : Nat → Prop} {w w1 : World} (h : Below w.heap.size w w1) : Kd D w w1 := ⟨h.os, h.tape, h.output, h.size, fun k hk _ => h.block k hk⟩

theorem Kd.put {D : Nat → Prop} {w w' : World} (h : Kd D w w') {g : Nat} (hg : D g ∨ w.heap.size ≤ g) (j : Nat) (u : Value) : Kd D w (w'.setCell ⟨g, j, none⟩ u) :=
  ⟨h.os, h.tape, h.output, by simpa [World.setCell] using h.size, fun k hk hd => (Below.heap_setCell _ _ _ _ (by rintro rfl; rcases hg with hg | hg; exact hd hg; omega)).trans (h.block k hk hd)⟩

theorem Kd.below {D : Nat → Prop} {B : Nat} {w0 w w' : World} (hb : Below B w0 w) (h : Kd D w w') (hB : B ≤ w.heap.size) (hd : ∀ g, D g → B ≤ g) : Below B w0 w' :=
  hb.trans ⟨h.os, h.tape, h.output, h.size, fun k hk => h.block k (by omega) (fun x => by have := hd k x; omega)⟩

theorem own_kd {D : Nat → Prop} {w w' : World} {B s n : Nat} {e : TypeId} {v : Value} {xs : List Value} (h : w.ownsRow B e s v n xs) (hk : Kd D w w') (hd : ∀ g, v.ownBlock = some g → ¬ D g) : w'.ownsRow B e s v n xs := by
  refine ⟨h.1, ?_⟩
  rcases h.2 with h' | ⟨g', cap', cur, rfl, hb', hg, rest⟩
  · exact .inl h'
  · exact .inr ⟨g', cap', cur, rfl, hb', (hk.block g' (Array.getElem?_eq_some_iff.1 hg).1 (hd g' rfl)).trans hg, rest⟩


/-- Behind k wires of a firing. -/
def upf (ss : Nat → Wr) (b : Int) (h : Nat → Int) (k i : Nat) : Int := if i < k then frd ss b h i else h i

theorem upf_0 (ss : Nat → Wr) (b : Int) (h : Nat → Int) : upf ss b h 0 = h := by funext i; unfold upf; rw [if_neg (by omega)]

theorem upf_at (ss : Nat → Wr) (b : Int) (h : Nat → Int) (k : Nat) : upf ss b h k k = h k := by unfold upf; rw [if_neg (by omega)]

theorem upf_put (ss : Nat → Wr) (b : Int) (h : Nat → Int) (k : Nat) : (fun i => if i = k then frd ss b h k else upf ss b h k i) = upf ss b h (k + 1) := by
  funext i
  unfold upf
  by_cases e : i = k
  · rw [if_pos e, if_pos (by omega), e]
  · rw [if_neg e]
    by_cases h1 : i < k
    · rw [if_pos h1, if_pos (by omega)]
    · rw [if_neg h1, if_neg (by omega)]

theorem upf_m (ss : Nat → Wr) (b : Int) (h : Nat → Int) (m : Nat) : ils (upf ss b h m) m = ils (frd ss b h) m := ils_congr fun i hi => by unfold upf; rw [if_pos hi]

theorem kd_draw {D : Nat → Prop} {w w' : World} (h : Kd D w w') (n : Nat) : Kd D w (w'.drewN n) := ⟨h.os, h.tape, h.output, h.size, h.block⟩

theorem kd_drew {D : Nat → Prop} {w w' : World} (h : Kd D w w') : Kd D w w'.drew := ⟨h.os, h.tape, h.output, h.size, h.block⟩

theorem own_drew {w : World} {B s n : Nat} {e : TypeId} {v : Value} {xs : List Value} (h : w.ownsRow B e s v n xs) : w.drew.ownsRow B e s v n xs := own_below h (Below.refl _ _).drew

theorem own_draw {w : World} {B s n : Nat} {e : TypeId} {v : Value} {xs : List Value} (h : w.ownsRow B e s v n xs) (q : Nat) : (w.drewN q).ownsRow B e s v n xs := own_below h (below_dn w q)

set_option maxHeartbeats 8000000 in
theorem sFire_some {w0 w : World} {v : Value} {g m cap : Nat} {ss : Nat → Wr} {h : Nat → Int} (bb : Int) (hv : Il5 w0 v m ss) (hb0 : Below w0.heap.size w0 w) (hu : w.ownsRow w0.heap.size 3 1 (.slice (some ⟨g, 0, none⟩) m cap) m (ils h m)) (hf : Fit m ss h) (hm : m ≤ 1048576) :
    Calls Try.prog 48 #[v, .slice (some ⟨g, 0, none⟩) m cap, .int .i64 bb] w fun e w' => e = .returned (.tuple #[]) ∧ w'.ownsRow w0.heap.size 3 1 (.slice (some ⟨g, 0, none⟩) m cap) m (ils (frd ss bb h) m) ∧ Kd (fun x => x = g) w w' := by
  have hg := World.ownsRow.lt hu g rfl
  have HG : Hid (w0.heap.size ≤ g) := hg.1
  clear hg
  have HU : Hid (w.ownsRow w0.heap.size 3 1 (.slice (some ⟨g, 0, none⟩) m cap) m (ils h m)) := hu
  have HB0 : Hid (Below w0.heap.size w0 w) := hb0
  have HF : Hid (Fit m ss h) := hf
  obtain ⟨ao, cap2, rfl, hcap2, hc⟩ := hv
  have HC : Hid (0 < m → ∃ b off, ao = some ⟨b, off, none⟩ ∧ b < w0.heap.size ∧ ∀ k, k < m → w0.cell? ⟨b, off + k * 5, none⟩ = some (.int .i64 (ss k).fr) ∧ w0.cell? ⟨b, off + k * 5 + 1, none⟩ = some (.int .i64 (ss k).to) ∧ w0.cell? ⟨b, off + k * 5 + 2, none⟩ = some (.int .i64 (ss k).gi) ∧ w0.cell? ⟨b, off + k * 5 + 3, none⟩ = some (.int .i64 (ss k).ta) ∧ w0.cell? ⟨b, off + k * 5 + 4, none⟩ = some (.int .i64 (ss k).ha)) := hc
  clear hc hu hb0 hf
  go_enter Try.func48, Try.ntmps48
  go_wp2
  go_loopw [6] (fun i wr => ∃ k : Nat, i = .int .i64 k ∧ k ≤ m ∧ Hid (wr.ownsRow w0.heap.size 3 1 (.slice (some ⟨g, 0, none⟩) m cap) m (ils (upf ss bb h k) m) ∧ Kd (fun x => x = g) w wr)) (fun i _ => m - (intOf i).toNat)
  case atStart => exact ⟨0, rfl, by omega, by rw [upf_0]; exact HU.out, Kd.refl _ _⟩
  case round =>
    obtain ⟨k, rfl, hk, hrel⟩ := hrel
    by_cases h1 : k < m
    · have HO : Hid (wr.ownsRow w0.heap.size 3 1 (.slice (some ⟨g, 0, none⟩) m cap) m (ils (upf ss bb h k) m)) := hrel.out.1
      have HK : Hid (Kd (fun x => x = g) w wr) := hrel.out.2
      clear hrel
      have c5 : wr.cell? ⟨g, k, none⟩ = some (.int .i64 (h k)) := by
        have := World.ownsRow.cellAt HO.out k (by omega)
        rw [ils_get h1, upf_at] at this
        exact this
      have z5 := World.ownsRow.frozenAt HO.out k
      obtain ⟨⟨x1, x2⟩, ⟨x3, x4⟩, ⟨x5, x6⟩⟩ := HF.out k h1
      obtain ⟨b, off, rfl, hlt, hcell⟩ := HC.out (by omega)
      have hb := Kd.below HB0.out HK.out HB0.out.size (by rintro _ rfl; exact HG.out)
      obtain ⟨c0, c1, c2, c3, c4⟩ := hcell k h1
      obtain ⟨c0, c1, c2, c3, c4⟩ : wr.cell? ⟨b, off + k * 5, none⟩ = some (.int .i64 (ss k).fr) ∧ wr.cell? ⟨b, off + k * 5 + 1, none⟩ = some (.int .i64 (ss k).to) ∧ wr.cell? ⟨b, off + k * 5 + 2, none⟩ = some (.int .i64 (ss k).gi) ∧ wr.cell? ⟨b, off + k * 5 + 3, none⟩ = some (.int .i64 (ss k).ta) ∧ wr.cell? ⟨b, off + k * 5 + 4, none⟩ = some (.int .i64 (ss k).ha) := ⟨(hb.cell (p := ⟨b, off + k * 5, none⟩) hlt).trans c0, (hb.cell (p := ⟨b, off + k * 5 + 1, none⟩) hlt).trans c1, (hb.cell (p := ⟨b, off + k * 5 + 2, none⟩) hlt).trans c2, (hb.cell (p := ⟨b, off + k * 5 + 3, none⟩) hlt).trans c3, (hb.cell (p := ⟨b, off + k * 5 + 4, none⟩) hlt).trans c4⟩
      have hne : ¬ b = g := by have := HG.out; omega
      clear hcell hlt hb
      obtain ⟨x, hx⟩ : ∃ x, x = h k := ⟨_, rfl⟩
      obtain ⟨ta, hta⟩ : ∃ x, x = (ss k).ta := ⟨_, rfl⟩
      obtain ⟨gi, hgi⟩ : ∃ x, x = (ss k).gi := ⟨_, rfl⟩
      have HX : Hid (x = h k ∧ ta = (ss k).ta ∧ gi = (ss k).gi) := ⟨hx, hta, hgi⟩
      rw [← hx] at c5 x1 x2
      rw [← hta] at c3 x5 x6
      rw [← hgi] at c2 x3 x4
      clear hx hta hgi c4
      by_cases ht : (ss k).to = bb
      · by_cases hr : (ss k).fr = bb
        · skip
          rw [ht] at c1
          rw [hr] at c0
          have HT : Hid ((ss k).to = bb) := ht
          have HR : Hid ((ss k).fr = bb) := hr
          clear ht
          clear hr
          have HV : Hid (frd ss bb h k = ((x - ta) + gi)) := by show _ = _; unfold frd stp1 stp2; rw [if_pos HT.out, if_pos HR.out, ← HX.out.1, ← HX.out.2.1, ← HX.out.2.2]
          go_wp2
          go_region
          go_wp2
          go_region
          go_wp2
          go_roundw
          case rel =>
            have st := (own_drew (own_drew (World.ownsRow.stored (World.ownsRow.stored HO.out k (.int .i64 (x - ta))).1 k (.int .i64 ((x - ta) + gi))).1))
            rw [ils_put, ils_put] at st
            refine ⟨k + 1, by go_num, by omega, ?_, (kd_drew (kd_drew (Kd.put (Kd.put HK.out (.inl rfl) k (.int .i64 (x - ta))) (.inl rfl) k (.int .i64 ((x - ta) + gi)))))⟩
            rw [ils_congr (g := upf ss bb h (k + 1)) fun i hi => ?_] at st
            · exact st
            · rw [← upf_put]
              by_cases e : i = k
              · simp only [if_pos e]; exact HV.out.symm
              · simp only [if_neg e]
          case measure => simp [intOf]; omega
        · skip
          rw [ht] at c1
          have HT : Hid ((ss k).to = bb) := ht
          have HR : Hid (¬ (ss k).fr = bb) := hr
          clear ht
          have HV : Hid (frd ss bb h k = (x - ta)) := by show _ = _; unfold frd stp1 stp2; rw [if_pos HT.out, if_neg HR.out, ← HX.out.1, ← HX.out.2.1]
          go_wp2
          go_region
          go_wp2
          go_roundw
          case rel =>
            have st := (own_drew (World.ownsRow.stored HO.out k (.int .i64 (x - ta))).1)
            rw [ils_put] at st
            refine ⟨k + 1, by go_num, by omega, ?_, (kd_drew (Kd.put HK.out (.inl rfl) k (.int .i64 (x - ta))))⟩
            rw [ils_congr (g := upf ss bb h (k + 1)) fun i hi => ?_] at st
            · exact st
            · rw [← upf_put]
              by_cases e : i = k
              · simp only [if_pos e]; exact HV.out.symm
              · simp only [if_neg e]
          case measure => simp [intOf]; omega
      · by_cases hr : (ss k).fr = bb
        · skip
          rw [hr] at c0
          have HT : Hid (¬ (ss k).to = bb) := ht
          have HR : Hid ((ss k).fr = bb) := hr
          clear hr
          have HV : Hid (frd ss bb h k = (x + gi)) := by show _ = _; unfold frd stp1 stp2; rw [if_neg HT.out, if_pos HR.out, ← HX.out.1, ← HX.out.2.2]
          go_wp2
          go_region
          go_wp2
          go_roundw
          case rel =>
            have st := (own_drew (World.ownsRow.stored HO.out k (.int .i64 (x + gi))).1)
            rw [ils_put] at st
            refine ⟨k + 1, by go_num, by omega, ?_, (kd_drew (Kd.put HK.out (.inl rfl) k (.int .i64 (x + gi))))⟩
            rw [ils_congr (g := upf ss bb h (k + 1)) fun i hi => ?_] at st
            · exact st
            · rw [← upf_put]
              by_cases e : i = k
              · simp only [if_pos e]; exact HV.out.symm
              · simp only [if_neg e]
          case measure => simp [intOf]; omega
        · skip
          have HT : Hid (¬ (ss k).to = bb) := ht
          have HR : Hid (¬ (ss k).fr = bb) := hr
          have HV : Hid (frd ss bb h k = x) := by show _ = _; unfold frd stp1 stp2; rw [if_neg HT.out, if_neg HR.out, ← HX.out.1]
          go_wp2
          go_roundw
          case rel =>
            refine ⟨k + 1, by go_num, by omega, ?_, HK.out⟩
            rw [ils_congr (g := upf ss bb h k) fun i hi => ?_]
            · exact HO.out
            · rw [← upf_put]
              by_cases e : i = k
              · simp only [if_pos e]; rw [HV.out, HX.out.1, e, upf_at]
              · simp only [if_neg e]
          case measure => simp [intOf]; omega
    · obtain rfl : k = m := by omega
      have HR : Hid _ := hrel.out
      clear hrel
      go_wp2
      go_end0
      exact ⟨rfl, by rw [← upf_m]; exact HR.out.1, HR.out.2⟩
end Go.Proofs.Ytlccicbgepfbbaa
