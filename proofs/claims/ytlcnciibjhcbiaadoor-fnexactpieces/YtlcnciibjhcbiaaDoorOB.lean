/- The closure. -/
import Derived.Test.YtlcnciibjhcbiaaDoorOA
namespace Go.Proofs.YtlcnciibjhcbiaaDoor
open Go.RowKit

set_option maxRecDepth 100000 in
theorem clos_any {n : Nat} (hn : n = 1 ∨ n = 2 ∨ n = 4 ∨ n = 8 ∨ n = 16 ∨ n = 32 ∨ n = 64 ∨ n = 128) (bk : Bool) (w : World) (pn pb pw : Addr) (G off : Nat) (x : Value) (h1 : w.cell? pn = some (.int .i64 n)) (h2 : w.cell? pb = some (.bool bk)) (h3 : w.cell? pw = some (.pointer (some ⟨G, off, none⟩)))
    (h4 : w.cell? ⟨G, off + 3, none⟩ = some x) (z4 : w.frozen? ⟨G, off + 3, none⟩ = false) (l1 : pn.block < w.heap.size) (l2 : pb.block < w.heap.size) (l3 : pw.block < w.heap.size) (l4 : G < w.heap.size) (q1 : ¬ pn.block = G) (q2 : ¬ pb.block = G) (q3 : ¬ pw.block = G) :
    Calls Tryd.prog 47 #[.pointer (some pn), .pointer (some pb), .pointer (some pw)] w fun e w' => e = .returned (.tuple #[]) ∧ ∃ v w1, w' = w1.setCell ⟨G, off + 3, none⟩ v ∧ Trn w1 v n bk w.heap.size ∧ Below w.heap.size w w1 := by
  have i1 := turnsOf_any hn bk
  clear hn
  go_enter Tryd.func47, Tryd.ntmps47
  go_wp2
  refine wp_region_any (by kernel_rfl) ?_
  change wpAny _ _ _ _ _ _ _ (World.drew _)
  refine wpI_any (I := fun X => X.cell? pn = some (.int .i64 n) ∧ X.cell? pb = some (.bool bk) ∧ X.cell? pw = some (.pointer (some ⟨G, off, none⟩))) _ _ _ _ ?_
  refine wpI_take (i := 0) (v := .pointer (some ⟨G, off, none⟩)) rfl (by kernel_rfl) (by kernel_rfl) (by kernel_rfl) (fun _ _ _ h => h) ⟨by rfl, ?_⟩ ?_
  · intro X hI; obtain ⟨c1, c2, c3⟩ := hI; go_simp; try go_bits
    try rw [if_pos (by omega)]
  refine wpI_take (i := 1) (v := .int .i64 n) rfl (by kernel_rfl) (by kernel_rfl) (by kernel_rfl) (fun _ _ _ h => h) ⟨by rfl, ?_⟩ ?_
  · intro X hI; obtain ⟨c1, c2, c3⟩ := hI; go_simp; try go_bits
    try rw [if_pos (by omega)]
  refine wpI_take (i := 2) (v := .bool bk) rfl (by kernel_rfl) (by kernel_rfl) (by kernel_rfl) (fun _ _ _ h => h) ⟨by rfl, ?_⟩ ?_
  · intro X hI; obtain ⟨c1, c2, c3⟩ := hI; go_simp; try go_bits
    try rw [if_pos (by omega)]
  refine wpI_only (i := 3) rfl (by kernel_rfl) ⟨by simpa using h1, by simpa using h2, by simpa using h3⟩ (by rfl) ?_
  intro K hK
  go_simp
  go_wp2_with (go_at_call 48; (with_reducible refine (i1 _).mono ?_); rintro e w1 ⟨v, rfl, ht, hb⟩; have HT : Hid (Trn w1 v n bk w.heap.size) := ht; obtain rfl := ht.1; have HB : Hid (Below w.heap.size w w1) := bstep (Below.refl _ w).drew hb; have k1 := (hb.cell (p := pn) l1).trans (by simpa using h1); have k2 := (hb.cell (p := pb) l2).trans (by simpa using h2); have k3 := (hb.cell (p := pw) l3).trans (by simpa using h3); have k4 := (hb.cell (p := ⟨G, off + 3, none⟩) l4).trans (by simpa using h4); have k5 := (hb.frozen (p := ⟨G, off + 3, none⟩) l4).trans (by simpa using z4); clear hb ht)
  refine wpI_only (i := 4) rfl (by kernel_rfl) ⟨k1, k2, k3⟩ (by rfl) ?_
  intro K hK
  go_simp
  try go_bits
  refine hK _ _ ?_
  refine wpI_only (i := 5) rfl (by kernel_rfl) ⟨k1, k2, k3⟩ (by rfl) ?_
  intro K hK
  go_simp
  try go_bits
  refine hK _ _ ?_
  refine wpI_only (i := 6) rfl (by kernel_rfl) ⟨k1, k2, k3⟩ (by rfl) ?_
  intro K hK
  go_simp
  refine hK _ _ ?_
  refine wpI_done ⟨(World.cell?_setCell_other _ _ _ _ (fun h => q1 (by rw [← h]))).trans k1, (World.cell?_setCell_other _ _ _ _ (fun h => q2 (by rw [← h]))).trans k2, (World.cell?_setCell_other _ _ _ _ (fun h => q3 (by rw [← h]))).trans k3⟩ (by kernel_rfl) ?_ _
  go_end0
  exact ⟨rfl, _, w1, rfl, HT.out, HB.out⟩
end Go.Proofs.YtlcnciibjhcbiaaDoor
