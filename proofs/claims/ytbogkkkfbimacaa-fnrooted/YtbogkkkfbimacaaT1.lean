/- RootsTo: the program's step, one root more. -/
import Derived.Test.YtbogkkkfbimacaaL5
import Derived.Laws.AppendOwn
namespace Go.Proofs.Ytbogkkkfbimacaa
open Go.RowKit

/-- The slice holds the n complex numbers (xs, ys). -/
def Fz (w : World) (v : Value) (n : Nat) (xs ys : Nat → Nat) : Prop := ∃ ao cap, v = .slice ao n cap ∧ n ≤ cap ∧ (0 < n → ∃ b off, ao = some ⟨b, off, none⟩ ∧ b < w.heap.size ∧ ∀ k, k < n → w.cell? ⟨b, off + k, none⟩ = some (.complex .f64 (xs k) (ys k)))

theorem Fz.below {w w' : World} {v : Value} {n : Nat} {xs ys : Nat → Nat} (h : Fz w v n xs ys) (hb : Below w.heap.size w w') : Fz w' v n xs ys := by
  obtain ⟨ao, cap, rfl, hcap, hc⟩ := h
  refine ⟨ao, cap, rfl, hcap, fun h0 => ?_⟩
  obtain ⟨b, off, rfl, hlt, hcell⟩ := hc h0
  exact ⟨b, off, rfl, Nat.lt_of_lt_of_le hlt hb.size, fun k hk => (hb.cell (p := ⟨b, off + k, none⟩) hlt).trans (hcell k hk)⟩

theorem own_below {w w' : World} {B s n : Nat} {e : TypeId} {v : Value} {xs : List Value} (h : w.ownsRow B e s v n xs) (hb : Below w.heap.size w w') : w'.ownsRow B e s v n xs := by
  refine ⟨h.1, ?_⟩
  rcases h.2 with h' | ⟨g', cap', cur, h', hb', hg, rest⟩
  · exact .inl h'
  · exact .inr ⟨g', cap', cur, h', hb', (hb.block g' (Array.getElem?_eq_some_iff.1 hg).1).trans hg, rest⟩

/-- The first k complex numbers, as cells. -/
def czs (X Y : Nat → Nat) (k : Nat) : List Value := (List.range k).map fun i => .complex .f64 (X i) (Y i)

theorem czs_snoc (X Y : Nat → Nat) (k x y : Nat) : czs X Y k ++ [.complex .f64 x y] = czs (fun i => if i = k then x else X i) (fun i => if i = k then y else Y i) (k + 1) := by
  unfold czs
  rw [List.range_succ, List.map_append]
  congr 1
  · apply List.map_congr_left
    intro i hi
    have : ¬ i = k := by have := List.mem_range.1 hi; omega
    simp [this]
  · simp

theorem fz_of_own {w : World} {B n : Nat} {v : Value} {X Y : Nat → Nat} (h : w.ownsRow B 40 1 v n (czs X Y n)) : Fz w v n X Y := by
  rcases h.2 with ⟨rfl, rfl⟩ | ⟨g, cap, cur, rfl, hb, hg, hc, _⟩
  · exact ⟨none, 0, rfl, Nat.le_refl _, fun h => absurd h (by omega)⟩
  · refine ⟨_, _, rfl, hc, fun h0 => ⟨g, 0, rfl, (Array.getElem?_eq_some_iff.1 hg).1, fun k hk => ?_⟩⟩
    rw [Nat.zero_add, World.ownsRow.cellAt h k (by omega)]
    simp [czs, hk]

theorem Try.info40 : (Try.prog.info? 40).map (fun i => (i.zero, i.size, i.bytes)) = some (some (.complex .f64 0 0), 1, 16) := by kernel_rfl

theorem one_new (w : World) (v : Value) (t : TypeId) : ∀ j u, [v][j]? = some u → (w.alloc (.cells #[v] t)).cell? ((⟨w.heap.size, 0, none⟩ : Addr).add j) = some u := by
  intro j u h
  match j, h with
  | 0, h => simp at h; subst h; simp [Addr.add]
  | n + 1, h => simp at h

/-- What a step of RootsTo makes of a list: each number the next lower one less the root times the own. -/
def cnext (w1 w2 : Option Nat) (P : Nat → Option Nat × Option Nat) (k : Nat) : Option Nat × Option Nat :=
  (cop .sub (if k = 0 then some 0 else (P (k - 1)).1) (cre w1 w2 (P k).1 (P k).2), cop .sub (if k = 0 then some 0 else (P (k - 1)).2) (cim w1 w2 (P k).1 (P k).2))

theorem own_empty (w : World) (t : TypeId) (s : Nat) : (w.alloc (.cells #[] t)).ownsRow w.heap.size t s (.slice (some ⟨w.heap.size, 0, none⟩) 0 0) 0 [] :=
  ⟨by simp, .inr ⟨w.heap.size, 0, #[], rfl, Nat.le_refl _, heap_alloc_new w _, Nat.le_refl _, by decide, by simp, by simp⟩⟩

theorem grown_below {w W w3 : World} {B s n : Nat} {e : TypeId} {v : Value} {xs : List Value} (h : Below B w W) (hB : B ≤ w.heap.size) (ho : W.ownsRow B e s v n xs) (hg : W.grownBy w3 v.ownBlock) : Below B w w3 :=
  h.grown hg (Nat.le_trans hB h.size) (fun k hk => (World.ownsRow.lt ho k hk).1)

set_option maxHeartbeats 4000000 in
theorem withRoot_any {w : World} {v : Value} {n : Nat} {X Y : Nat → Nat} (a1 a2 : Nat) (hv : Fz w v n X Y) (hn : n ≤ 128) :
    Calls Try.prog 31 #[v, .complex .f64 a1 a2] w fun e w' => ∃ v' X' Y', e = .returned v' ∧ Fz w' v' (n + 1) X' Y' ∧ (∀ k, k < n → cn (X' k) = (cnext (cn a1) (cn a2) (fun i => (cn (X i), cn (Y i))) k).1 ∧ cn (Y' k) = (cnext (cn a1) (cn a2) (fun i => (cn (X i), cn (Y i))) k).2) ∧ X' n = 4607182418800017408 ∧ Y' n = 0 ∧ Below w.heap.size w w' := by
  obtain ⟨i0, hi, hz0, hz1, hz2⟩ := info_parts Try.info40
  obtain ⟨ao, cap, rfl, hcap, hc⟩ := hv
  have HC : Hid _ := hc
  clear hc
  have hS := rcSub
  go_enter Try.func31, Try.ntmps31
  go_wp2
  go_loopw [5, 6, 8, 12] (fun nx lo _ i wr => ∃ k L1 L2 : Nat, i = .int .i64 k ∧ k ≤ n ∧ lo = .complex .f64 L1 L2 ∧ Hid (cn L1 = (if k = 0 then some 0 else cn (X (k - 1))) ∧ cn L2 = (if k = 0 then some 0 else cn (Y (k - 1))) ∧ (∃ X' Y', wr.ownsRow w.heap.size 40 1 nx k (czs X' Y' k) ∧ ∀ j, j < k → cn (X' j) = (cnext (cn a1) (cn a2) (fun i => (cn (X i), cn (Y i))) j).1 ∧ cn (Y' j) = (cnext (cn a1) (cn a2) (fun i => (cn (X i), cn (Y i))) j).2) ∧ Below w.heap.size w wr)) (fun _ _ _ i _ => n - (intOf i).toNat)
  case atStart => exact ⟨0, 0, 0, rfl, by omega, rfl, cn_zero, cn_zero, ⟨fun _ => 0, fun _ => 0, own_empty w 40 1, fun j hj => by omega⟩, below_one _ _⟩
  case round =>
    obtain ⟨k, L1, L2, rfl, hk, rfl, hrel⟩ := hrel
    by_cases h1 : k < n
    · obtain ⟨b, off, rfl, hlt, hcell⟩ := HC.out (by omega)
      have c : wr.cell? ⟨b, off + k, none⟩ = some (.complex .f64 (X k) (Y k)) := (hrel.out.2.2.2.cell (p := ⟨b, off + k, none⟩) hlt).trans (hcell k h1)
      have ht := fun W => times_any a1 a2 (X k) (Y k) W
      obtain ⟨X', Y', ho, hx⟩ := hrel.out.2.2.1
      have HO : Hid _ := ho
      have HX : Hid _ := hx
      have HB : Hid _ := hrel.out.2.2.2
      have HL : Hid _ := And.intro hrel.out.1 hrel.out.2.1
      clear ho hx hrel hcell
      go_wp2_with (first | (go_at_call 25; refine (ht _).mono ?_; rintro e w2 ⟨p1, p2, rfl, ep1, ep2, hb2⟩; have hd := below_fwor (below_fwor (Below.refl w2.heap.size w2) .sub L1 p1) .sub L2 p2; have ex := cn_fres .sub w2 L1 p1; have ey := cn_fres .sub (fwor .sub w2 L1 p1) L2 p2; have hb3 := bstep (bstep hb2 hd) (below_one (fwor .sub (fwor .sub w2 L1 p1) L2 p2) (.cells #[.complex .f64 (fres .sub w2 L1 p1) (fres .sub (fwor .sub w2 L1 p1) L2 p2)] 40)); have HO3 := own_below HO.out hb3; have HB3 := bstep HB.out hb3) | (at_builtin; refine wpList_append_own _ rfl _ _ 45 rfl w.heap.size 40 i0 (.complex .f64 0 0) 1 16 Try.underlying45 hi hz0 hz1 hz2 rfl (by decide) _ _ _ rfl HO3 ⟨(fwor .sub (fwor .sub w2 L1 p1) L2 p2).heap.size, 0, none⟩ 1 1 [.complex .f64 (fres .sub w2 L1 p1) (fres .sub (fwor .sub w2 L1 p1) L2 p2)] rfl rfl (one_new _ _ _) (by simp [Value.oneCell']) (by unfold maxLen; omega) (by omega) HB3.size ?_))
      intro v' w4 hown' hgrow _
      have HB4 : Hid _ := grown_below HB3 (Nat.le_refl _) HO3 hgrow
      rw [czs_snoc] at hown'
      have HO4 : Hid _ := hown'
      have E1 : Hid _ := And.intro ex ep1
      have E2 : Hid _ := And.intro ey ep2
      clear hown' hgrow HB3 HO3 hb3 hd hb2 ex ey ep1 ep2
      go_wp2
      go_roundw
      case rel =>
        refine ⟨k + 1, X k, Y k, by go_num, by omega, rfl, by simp, by simp, ⟨_, _, HO4.out, fun j hj => ?_⟩, HB4.out⟩
        by_cases hjk : j = k
        · subst hjk
          simp only [if_pos, E1.out.1, E1.out.2, E2.out.1, E2.out.2, HL.out.1, HL.out.2, cnext]
          exact ⟨trivial, trivial⟩
        · simp only [if_neg hjk]
          exact HX.out j (by omega)
      case measure => simp [intOf]; omega
    · obtain rfl : k = n := by omega
      obtain ⟨X', Y', ho, hx⟩ := hrel.out.2.2.1
      have hb3 := below_one wr (.cells #[.complex .f64 4607182418800017408 0] 40)
      have HO3 := own_below ho hb3
      have HB3 := bstep hrel.out.2.2.2 hb3
      have HX : Hid _ := hx
      clear ho hx hrel HC
      go_wp2_with (at_builtin; refine wpList_append_own _ rfl _ _ 45 rfl w.heap.size 40 i0 (.complex .f64 0 0) 1 16 Try.underlying45 hi hz0 hz1 hz2 rfl (by decide) _ _ _ rfl HO3 ⟨wr.heap.size, 0, none⟩ 1 1 [.complex .f64 4607182418800017408 0] rfl rfl (one_new _ _ _) (by simp [Value.oneCell']) (by unfold maxLen; omega) (by omega) HB3.size ?_)
      intro v' w4 hown' hgrow _
      have HB4 : Hid _ := grown_below HB3 (Nat.le_refl _) HO3 hgrow
      rw [czs_snoc] at hown'
      have HO4 : Hid _ := hown'
      clear hown' hgrow HB3 HO3 hb3
      go_wp2
      go_ret
      refine ⟨_, _, _, rfl, fz_of_own HO4.out, fun j hj => ?_, by simp, by simp, HB4.out⟩
      have hjk : ¬ j = k := by omega
      simp only [if_neg hjk]
      exact HX.out j hj
end Go.Proofs.Ytbogkkkfbimacaa
