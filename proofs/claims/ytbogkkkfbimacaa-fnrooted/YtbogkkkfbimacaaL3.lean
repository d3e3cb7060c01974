/- PolyPair: the program's steps. -/
import Derived.Test.YtbogkkkfbimacaaL2
namespace Go.Proofs.Ytbogkkkfbimacaa
open Go.RowKit

set_option maxHeartbeats 4000000 in
set_option maxRecDepth 10000 in
theorem step24 {w : World} {ga gl gn b off m cap k A1 A2 x y : Nat} (S1 S2 : Nat) (hk : k < m) (hm : m ≤ 127) (ha : w.cell? ⟨ga, 0, none⟩ = some (.complex .f64 A1 A2)) (hl : w.cell? ⟨gl, 0, none⟩ = some (.slice (some ⟨b, off, none⟩) (m + 1) cap)) (hn : w.cell? ⟨gn, 0, none⟩ = some (.int .i64 m))
    (hx : w.cell? ⟨b, off + (m - 1 - k) * 2, none⟩ = some (.float .f64 x)) (hy : w.cell? ⟨b, off + (m - 1 - k) * 2 + 1, none⟩ = some (.float .f64 y)) :
    Calls Try.prog 33 #[.complex .f64 S1 S2, .int .i64 k, .pointer (some ⟨ga, 0, none⟩), .pointer (some ⟨gl, 0, none⟩), .pointer (some ⟨gn, 0, none⟩)] w fun e w' => ∃ u1 u2, e = .returned (.complex .f64 u1 u2) ∧ cn u1 = cop .add (cre (cn S1) (cn S2) (cn A1) (cn A2)) (cn x) ∧ cn u2 = cop .add (cim (cn S1) (cn S2) (cn A1) (cn A2)) (cn y) ∧ Below w.heap.size w w' := by
  have hA := rcAdd
  have w1 : IntKind.i64.wrap ((m : Int) - 1) = (m : Int) - 1 := by rw [IntKind.wrap_i64]; omega
  have w2 : IntKind.i64.wrap ((m : Int) - 1 - k) = (m : Int) - 1 - k := by rw [IntKind.wrap_i64]; omega
  have hix : (m : Int) - 1 - k < m + 1 := by omega
  have hix0 : (k : Int) ≤ (m : Int) - 1 := by omega
  have l0 : Below w.heap.size w w.drew := (Below.refl _ _).drew
  go_enter Try.func33, Try.ntmps33
  go_upto_region 1 with fail
  refine wp_region_any (by kernel_rfl) ?_
  change wpAny _ _ _ _ _ _ _ (World.drew _)
  refine wpI_any (I := fun X => Below w.heap.size w X) _ _ _ _ ?_
  refine wpI_take (i := 0) (v := ?_) rfl (by kernel_rfl) (by kernel_rfl) (by kernel_rfl) (fun _ _ _ h => h) ⟨by rfl, ?_⟩ ?_
  rotate_left
  · intro X _; go_simp; with_reducible rfl
  refine wpI_take (i := 1) (v := ?_) rfl (by kernel_rfl) (by kernel_rfl) (by kernel_rfl) (fun _ _ _ h => h) ⟨by rfl, ?_⟩ ?_
  rotate_left
  · intro X hI; have c := keepc hI ha; go_simp; with_reducible rfl
  refine wpI_take (i := 3) (v := ?_) rfl (by kernel_rfl) (by kernel_rfl) (by kernel_rfl) (fun _ _ _ h => h) ⟨by rfl, ?_⟩ ?_
  rotate_left
  · intro X hI; have c := keepc hI hl; go_simp; with_reducible rfl
  refine wpI_take (i := 4) (v := ?_) rfl (by kernel_rfl) (by kernel_rfl) (by kernel_rfl) (fun _ _ _ h => h) ⟨by rfl, ?_⟩ ?_
  rotate_left
  · intro X hI; have c := keepc hI hn; go_simp; with_reducible rfl
  refine wpI_take (i := 5) (v := ?_) rfl (by kernel_rfl) (by kernel_rfl) (by kernel_rfl) (fun _ _ _ h => h) ⟨by rfl, ?_⟩ ?_
  rotate_left
  · intro X _; go_simp; with_reducible rfl
  refine wpI_take (i := 6) (v := ?_) rfl (by kernel_rfl) (by kernel_rfl) (by kernel_rfl) (fun _ _ _ h => h) ⟨by rfl, ?_⟩ ?_
  rotate_left
  · intro X _; go_simp; with_reducible rfl
  refine wpI_take (i := 7) (v := ?_) rfl (by kernel_rfl) (by kernel_rfl) (by kernel_rfl) (fun _ _ _ h => h) ⟨by rfl, ?_⟩ ?_
  rotate_left
  · intro X _; go_simp; with_reducible rfl
  refine wpI_take (i := 8) (v := ?_) rfl (by kernel_rfl) (by kernel_rfl) (by kernel_rfl) (fun _ _ _ h => h) ⟨by rfl, ?_⟩ ?_
  rotate_left
  · intro X _; go_simp; with_reducible rfl
  refine wpI_take (i := 9) (v := ?_) rfl (by kernel_rfl) (by kernel_rfl) (by kernel_rfl) (fun _ _ _ h => h) ⟨by rfl, ?_⟩ ?_
  rotate_left
  · intro X hI; have c := keepc hI hx; have c2 := keepc hI hy; go_simp; with_reducible rfl
  refine wpI_only (i := 2) rfl (by kernel_rfl) l0 (by rfl) ?_
  intro K hK
  go_simp
  go_wp2_with (go_at_call 25; refine (times_any _ _ _ _ _).mono ?_; rintro e x2 ⟨p1, p2, rfl, ep1, ep2, hb2⟩; have l1 := bstep l0 hb2)
  refine wpI_only (i := 10) rfl (by kernel_rfl) l1 (by rfl) ?_
  intro K hK
  go_simp
  go_wp2_with (go_at_call 26; refine (toC_any _ _ _).mono ?_; rintro e x10 ⟨rfl, hb10⟩; have l2 := bstep l1 hb10)
  refine wpI_only (i := 11) rfl (by kernel_rfl) l2 (by rfl) ?_
  intro K hK
  go_simp
  have l3 := below_fwor (below_fwor l2 .add p1 x) .add p2 y
  have ex := cn_fres .add x10 p1 x
  have ey := cn_fres .add (fwor .add x10 p1 x) p2 y
  generalize fres .add x10 p1 x = u1 at *
  generalize fres .add (fwor .add x10 p1 x) p2 y = u2 at *
  refine hK _ _ ?_
  refine wpI_only (i := 12) rfl (by kernel_rfl) l3 (by rfl) ?_
  intro K hK
  have l4 := l3
  go_simp
  refine hK _ _ ?_
  refine wpI_done l4 (by kernel_rfl) ?_ _
  go_wp2
  go_ret
  exact ⟨_, _, rfl, by rw [ex, ep1], by rw [ey, ep2], l4⟩

end Go.Proofs.Ytbogkkkfbimacaa
