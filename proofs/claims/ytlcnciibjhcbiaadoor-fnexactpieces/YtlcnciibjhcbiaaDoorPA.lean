/- Every other number of a row. -/
import Derived.Test.YtlcnciibjhcbiaaDoorOG
namespace Go.Proofs.YtlcnciibjhcbiaaDoor
open Go.RowKit

/-- The transform by halves. -/
def fast (bk : Bool) : Nat → (Nat → Option Nat × Option Nat) → Nat → Option Nat × Option Nat
  | 0, P, k => P k
  | j + 1, P, k =>
    let E := fast bk j (fun i => P (2 * i)) (k % 2 ^ j)
    let O := fast bk j (fun i => P (2 * i + 1)) (k % 2 ^ j)
    let s : Int := ((k % 2 ^ j : Nat) : Int) * strd (2 ^ (j + 1)) bk
    if k < 2 ^ j then (cop .add E.1 (cre O.1 O.2 (tre s) (tim s)), cop .add E.2 (cim O.1 O.2 (tre s) (tim s)))
    else (cop .sub E.1 (cre O.1 O.2 (tre s) (tim s)), cop .sub E.2 (cim O.1 O.2 (tre s) (tim s)))

set_option maxRecDepth 100000 in
set_option maxHeartbeats 1000000 in
theorem other_any {w : World} {g n h f : Nat} {X Y : Nat → Nat} (hv : Zr w g n X Y) (hn : n = 2 * h) (hh : h ≤ 64) (hf : f ≤ 1) :
    Calls Tryd.prog 52 #[zv g n, .int .i64 f] w fun e w' => e = .returned (zv w.heap.size h) ∧ Zr w' w.heap.size h (fun i => X (2 * i + f)) (fun i => Y (2 * i + f)) ∧ Below w.heap.size w w' := by
  obtain ⟨i0, hi, hz0, hz1, hz2⟩ := info_parts Tryd.info51c
  obtain ⟨w1, hm, hrow, hgr⟩ := run_makeSlice_full (P := Tryd.prog) w w.heap.size 47 51 i0 (.complex .f64 0 0) 1 Tryd.underlying47 hi hz0 hz1 .i64 .i64 h (by omega) (by rw [hz2]; omega) (by unfold maxLen; omega) (Nat.le_refl _)
  have hbl : Below w.heap.size w w1 := (Below.refl _ _).grown hgr (Nat.le_refl _) (fun _ h => by cases h)
  rw [made_czs] at hrow
  have HR : Hid (Oz w1 w.heap.size w.heap.size h h (fun _ => 0) (fun _ => 0)) := hrow
  have HB : Hid (Below w.heap.size w w1) := hbl
  clear hrow hbl hgr hi hz0 hz1 hz2
  obtain ⟨hlt, hc⟩ := hv
  have HC : Hid (∀ k, k < n → w.cell? ⟨g, k, none⟩ = some (.complex .f64 (X k) (Y k))) := hc
  clear hc
  have hST := rStoreZ
  have hd : (n : Int).tdiv 2 = (h : Int) := by rw [Int.tdiv_eq_ediv_of_nonneg (by omega)]; omega
  go_enter Tryd.func52, Tryd.ntmps52
  go_wp2

  go_loopw [13] (fun i wr => ∃ k : Nat, i = .int .i64 k ∧ k ≤ h ∧ Hid (∃ U V, Oz wr w.heap.size w.heap.size h h U V ∧ (∀ j, j < k → U j = X (2 * j + f) ∧ V j = Y (2 * j + f)) ∧ Below w.heap.size w wr)) (fun i _ => h - (intOf i).toNat)
  case atStart => exact ⟨0, rfl, by omega, fun _ => 0, fun _ => 0, HR.out, fun j hj => by omega, HB.out⟩
  case round =>
    obtain ⟨k, rfl, hk, hrel⟩ := hrel
    obtain ⟨U, V, hown, hxy, hbl⟩ := hrel.out
    have HX : Hid (∀ j, j < k → U j = X (2 * j + f) ∧ V j = Y (2 * j + f)) := hxy
    have HBL : Hid (Below w.heap.size w wr) := hbl
    have HO : Hid (Oz wr w.heap.size w.heap.size h h U V) := hown
    by_cases h1 : k < h
    · have c : wr.cell? ⟨g, 2 * k + f, none⟩ = some (.complex .f64 (X (2 * k + f)) (Y (2 * k + f))) := (hbl.cell (p := ⟨g, 2 * k + f, none⟩) hlt).trans (HC.out _ (by omega))
      have d0 := hown.cell h1
      have z0 := World.ownsRow.frozenAt hown k
      have OP : Hid (Oz (wr.setCell ⟨w.heap.size, k, none⟩ (.complex .f64 (X (2 * k + f)) (Y (2 * k + f)))) w.heap.size w.heap.size h h (fun i => if i = k then X (2 * k + f) else U i) (fun i => if i = k then Y (2 * k + f) else V i)) := hown.put k _ _
      have e1 : 2 * (k : Int) + (f : Int) = ((2 * k + f : Nat) : Int) := by push_cast; rfl
      have e2 : 2 * k + f < n := by omega
      obtain ⟨kk, hkk⟩ : ∃ kk, kk = 2 * k + f := ⟨_, rfl⟩
      have HKK : Hid (kk = 2 * k + f) := hkk
      rw [← hkk] at c OP e1 e2
      clear hkk
      clear hrel hown hxy hbl
      go_wp2

      go_roundw
      case rel =>
        refine ⟨k + 1, by go_num, by omega, _, _, OP.out, fun j hj => ?_, HBL.out.setCell (Nat.le_refl _) _⟩
        by_cases hjk : j = k
        · subst hjk
          rw [if_pos rfl, if_pos rfl, HKK.out]
          exact ⟨rfl, rfl⟩
        · rw [if_neg hjk, if_neg hjk]
          exact HX.out j (by omega)
      case measure => simp [intOf]; omega
    · obtain rfl : h = k := by omega
      clear hrel hown hxy hbl
      go_wp2
      go_ret
      exact ⟨rfl, ⟨(World.ownsRow.lt HO.out _ rfl).2, fun k hk => by rw [HO.out.cell hk, (HX.out k hk).1, (HX.out k hk).2]⟩, HBL.out⟩
end Go.Proofs.YtlcnciibjhcbiaaDoor
