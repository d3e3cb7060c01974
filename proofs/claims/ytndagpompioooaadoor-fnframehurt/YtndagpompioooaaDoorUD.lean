/- Some numbers read. -/
import Derived.Test.YtndagpompioooaaDoorUC
import Derived.Test.YtndagpompioooaaDoorD4
import Derived.Test.YtndagpompioooaaDoorAP
namespace Go.Proofs.YtndagpompioooaaDoor
open Go.RowKit

/-- A list as a function. -/
def lf (L : List Int) (i : Nat) : Int := L.getD i 0

theorem lf_left {L M : List Int} {i : Nat} (h : i < L.length) : lf (L ++ M) i = lf L i := by
  unfold lf
  rw [List.getD_eq_getElem?_getD, List.getD_eq_getElem?_getD, List.getElem?_append_left h]

theorem lf_right {L M : List Int} {i : Nat} (h : L.length ≤ i) : lf (L ++ M) i = lf M (i - L.length) := by
  unfold lf
  rw [List.getD_eq_getElem?_getD, List.getD_eq_getElem?_getD, List.getElem?_append_right h]

theorem lf_new (L : List Int) (x : Int) : lf (L ++ [x]) L.length = x := by
  rw [lf_right (Nat.le_refl _), Nat.sub_self]
  rfl

theorem len_snoc (L : List Int) (x : Int) : (L ++ [x]).length = L.length + 1 := by rw [List.length_append, List.length_singleton]

theorem ils_lf_snoc (L : List Int) (x : Int) : ils (lf L) L.length ++ [.int .i64 x] = ils (lf (L ++ [x])) (L.length + 1) := by
  rw [ils_snoc, lf_new]
  congr 1
  exact ils_congr fun k hk => (lf_left hk).symm

/-- One more in a row. -/
theorem ol_snoc {w : World} {B : Nat} {v : Value} {L : List Int} {x : Int} (h : w.ownsRow B 3 1 v (L.length + 1) (ils (lf L) L.length ++ [.int .i64 x])) : w.ownsRow B 3 1 v (L ++ [x]).length (ils (lf (L ++ [x])) (L ++ [x]).length) := by
  rw [len_snoc, ← ils_lf_snoc]
  exact h

theorem Only.keep {g : Nat} {w w' : World} (h : Only g w w') : Keep g w w' := ⟨h.os, h.tape, h.output, h.size, fun k hk _ => h.block k hk⟩

theorem Rdr.at {W W' : World} {G Bx n a B : Nat} {v : Value} {b : Nat → Int} (h : Rdr W G Bx v n a b) (hb : Below B W W') (hG : G < B) : Rdr W' G Bx v n a b := by
  obtain ⟨ao, cap, rfl, hcap, hc⟩ := h.il
  refine ⟨(hb.cell hG).trans h.c0, (hb.cell hG).trans h.c1, (hb.cell hG).trans h.c2, (hb.frozen hG).trans h.z2, (hb.cell (Nat.lt_trans h.bl hG)).trans h.bx, h.bl, _, _, rfl, hcap, fun h0 => ?_⟩
  obtain ⟨bb, off, e1, e2, e3⟩ := hc h0
  exact ⟨bb, off, e1, e2, fun k hk => (hb.cell (p := ⟨bb, off + k, none⟩) (Nat.lt_trans e2 hG)).trans (e3 k hk)⟩

theorem unf_in {u : Nat} (h : u ≤ 2000000000) : -1000000001 ≤ unf u ∧ unf u ≤ 1000000001 := by
  unfold unf
  split <;> omega

/-- What numbers tells: the numbers, or a panic. -/
def Nms (w w' : World) (e : Ending) (G Bx : Nat) (v : Value) (n k m : Nat) (b : Nat → Int) : Prop :=
  (∃ R a' u, rdn b n k m = some (R, a') ∧ e = .returned u ∧ w'.ownsRow w.heap.size 3 1 u R.length (ils (lf R) R.length) ∧ Rdr w' G Bx v n a' b ∧ Keep G w w') ∨ (rdn b n k m = none ∧ e = pan 3 ∧ Keep G w w')

set_option maxRecDepth 20000 in
set_option maxHeartbeats 8000000 in
theorem numbers_any {w : World} {G Bx n k m : Nat} {v : Value} {b : Nat → Int} (h : Rdr w G Bx v n 0 b) (hb : ∀ i, i < n → Bit (b i)) (hn : n ≤ 1048576) (hk : k ≤ 30) (hm : m ≤ 128) :
    Calls Tryd.prog 52 #[.pointer (some ⟨G, 0, none⟩), .int .i64 (k : Int), .int .i64 (m : Int)] w fun e w' => Nms w w' e G Bx v n k m b := by
  obtain ⟨i0, hi, hz0, hz1, hz2⟩ := info_parts Tryd.info3
  have HB : Hid (∀ i, i < n → Bit (b i)) := hb
  have HR0 : Hid (Rdr (w.alloc (.cells #[] 3)) G Bx v n 0 b) := h.below (below_one _ _)
  have hGw : G < w.heap.size := h.lt
  have OW : Hid ((w.alloc (.cells #[] 3)).ownsRow w.heap.size 3 1 (.slice (some ⟨w.heap.size, 0, none⟩) 0 0) 0 []) := own_empty w 3 1
  have KP : Hid (Keep G w (w.alloc (.cells #[] 3))) := (Keep.refl G w).call (below_one _ _)
  clear h hb
  go_enter Tryd.func52, Tryd.ntmps52
  go_wp2
  generalize w.alloc (.cells #[] 3) = W at *
  go_loopw [7, 10] (fun q iv wr => ∃ (j a : Nat) (R : List Int), iv = .int .i64 j ∧ j ≤ m ∧ a ≤ n ∧ R.length = j ∧ Hid (rdn b n k j = some (R, a)) ∧ Hid (wr.ownsRow w.heap.size 3 1 q R.length (ils (lf R) R.length)) ∧ Hid (Rdr wr G Bx v n a b) ∧ Hid (Keep G w wr)) (fun _ iv _ => m - (intOf iv).toNat)
  case atStart => exact ⟨0, 0, [], rfl, by omega, by omega, rfl, rfl, OW.out, HR0.out, KP.out⟩
  case round =>
    clear OW HR0 KP
    obtain ⟨j, a, R, rfl, hj, ha, hR, HN, HO, HR, HK⟩ := hrel
    have hs9 : w.heap.size ≤ wr.heap.size := HK.out.size
    by_cases h1 : j < m
    · cases hq : rd1 b n k a with
      | none =>
        have HF : Hid (rdn b n k m = none) := rdn_none (rdn_stop HN.out hq) m (by omega)
        have HQ : Hid (rd1 b n k a = none) := hq
        clear hq
        go_wp2_with (first
          | (go_at_call 77; refine (number_none HR.out HB.out hn ha hk HQ.out).mono ?_; rintro e w2 ⟨rfl, ho⟩; have HK : Hid (Keep G w w2) := HK.out.trans ho.keep; clear ho))
        exact ⟨rfl, .inr ⟨HF.out, rfl, HK.out⟩⟩
      | some p =>
        obtain ⟨u, a'⟩ := p
        have HQ : Hid (rd1 b n k a = some (u, a')) := hq
        obtain ⟨hu, _, ha', _⟩ := rd1_told hq
        have HX : Hid (rdn b n k (j + 1) = some (R ++ [unf u], a')) := rdn_next HN.out hq
        have hui := unf_in hu
        have hl9 := len_snoc R (unf u)
        obtain ⟨x, hx⟩ : ∃ x, x = unf u := ⟨_, rfl⟩
        have HXU : Hid (x = unf u) := hx
        rw [← hx] at HX hl9 hui
        clear hq hx
        go_wp2_with (first
          | (go_at_call 77; refine (number_some HR.out HB.out hn ha hk HQ.out).mono ?_; rw [← HXU.out]; rintro e w2 ⟨rfl, hr, ho⟩; have HO3 : Hid ((w2.alloc (.cells #[.int .i64 x] 3)).ownsRow w.heap.size 3 1 _ R.length (ils (lf R) R.length)) := own_below (own_only HO.out ho hGw) (below_one _ _); have hs3 : w.heap.size ≤ (w2.alloc (.cells #[.int .i64 x] 3)).heap.size := Nat.le_trans (Nat.le_trans hs9 ho.size) (below_one _ _).size; have hs2 : w.heap.size ≤ w2.heap.size := Nat.le_trans hs9 ho.size; have HR2 : Hid (Rdr w2 G Bx v n a' b) := hr; have HK2 : Hid (Keep G w w2) := HK.out.trans ho.keep; clear hr ho)
          | (at_builtin; refine wpList_append_own _ rfl _ _ 24 rfl w.heap.size 3 i0 (.int .i64 0) 1 8 Tryd.underlying24 hi hz0 hz1 hz2 rfl (by decide) _ _ _ rfl HO3.out ⟨w2.heap.size, 0, none⟩ 1 1 [.int .i64 x] rfl rfl (one_new _ _ _) (by simp [Value.oneCell']) (by unfold maxLen; omega) (by omega) hs3 ?_; intro v' w4 hown' hgrow _; have HO4 : Hid (w4.ownsRow w.heap.size 3 1 v' (R ++ [x]).length (ils (lf (R ++ [x])) (R ++ [x]).length)) := ol_snoc hown'; have BG : Hid (Below w.heap.size w2 w4) := grown_below ((below_one w2 _).mono hs2) hs2 HO3.out hgrow; clear hown' hgrow))
        go_roundw
        case rel => exact ⟨j + 1, a', R ++ [x], by go_num, by omega, ha', by rw [hl9, hR], HX.out, HO4.out, HR2.out.at BG.out hGw, HK2.out.below BG.out⟩
        case measure => simp [intOf]; omega
    · obtain rfl : j = m := by omega
      go_wp2
      go_ret
      exact .inl ⟨R, a, _, HN.out, rfl, HO.out, HR.out, HK.out⟩
end Go.Proofs.YtndagpompioooaaDoor
