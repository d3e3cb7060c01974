/- Rings: copied; a sample exchanged; a step. -/
import Derived.Test.YtphnoghnoacfiaaPB
import Derived.Test.YtphnoghnoacfiaaI1
import Derived.Laws.CopyRow
import Derived.Deep.RegionWith
namespace Go.Proofs.Ytphnoghnoacfiaa
open Go.RowKit

theorem ils_one (f : Nat → Int) (n : Nat) : ∀ u ∈ ils f n, u.oneCell' = true := by
  intro u hu
  simp only [ils, List.mem_map] at hu
  obtain ⟨i, _, rfl⟩ := hu
  rfl

theorem size3 : (Try.prog.info? 3).map (·.size) = some 1 := by kernel_rfl

theorem copied_own {w : World} {B g n c m : Nat} {f h : Nat → Int} (ho : w.ownsRow B 3 1 (.slice (some ⟨g, 0, none⟩) n c) n (ils f n)) (hm : m ≤ n) :
    ∃ cur : Array Value, w.heap[g]? = some (.cells cur 3 (0, 0)) ∧ m ≤ cur.size ∧ (w.setRow g (cur.toList.take 0 ++ (ils h m ++ cur.toList.drop (0 + (ils h m).length))).toArray).ownsRow B 3 1 (.slice (some ⟨g, 0, none⟩) n c) n (ils (fun i => if i < m then h i else f i) n) ∧ Only g w (w.setRow g (cur.toList.take 0 ++ (ils h m ++ cur.toList.drop (0 + (ils h m).length))).toArray) := by
  rcases ho.2 with ⟨hx, _⟩ | ⟨g', c', cur, hx, hb, hg, h1, h2, h3, h4⟩
  · cases hx
  · injection hx with hx1 hx2 hx3
    injection hx1 with hx1
    injection hx1 with hx1
    subst hx1 hx3
    refine ⟨cur, hg, by omega, ⟨by rw [ils_length, Nat.mul_one], .inr ⟨g, c, _, rfl, hb, setRow_heap w g _ _ 3 _ hg, h1, h2, ?_, ?_⟩⟩, ⟨rfl, rfl, rfl, by simp [World.setRow], fun k hk => setRow_other w g k _ hk⟩⟩
    · simp only [List.size_toArray, List.length_append, List.length_take, List.length_drop, ils_length, Array.length_toList]
      omega
    · rw [List.take_zero, List.nil_append, Nat.zero_add, ils_length]
      apply List.ext_getElem?
      intro i
      by_cases hi : i < n
      · rw [List.getElem?_take_of_lt (by omega), ils_get hi]
        by_cases him : i < m
        · rw [List.getElem?_append_left (by rw [ils_length]; exact him), ils_get him, if_pos him]
        · rw [List.getElem?_append_right (by rw [ils_length]; omega), ils_length, List.getElem?_drop, if_neg him, show m + (i - m) = i by omega]
          have h5 : (List.take (n * 1) cur.toList)[i]? = (ils f n)[i]? := by rw [h4]
          rw [List.getElem?_take_of_lt (by omega), ils_get hi] at h5
          exact h5
      · rw [List.getElem?_eq_none (by rw [List.length_take]; omega), List.getElem?_eq_none (by rw [ils_length]; omega)]

theorem copied_run {w : World} {B g n c c2 : Nat} {ad : Addr} {f h : Nat → Int} (ho : w.ownsRow B 3 1 (.slice (some ⟨g, 0, none⟩) n c) n (ils f n)) (hs : ∀ j u, (ils h n)[j]? = some u → w.cell? (ad.add j) = some u) :
    ∃ w', (Builtin.copy_ #[42, 42] 3 #[.slice (some ⟨g, 0, none⟩) n c, .slice (some ad) n c2]).run Try.prog w = .ok (.int .i64 n) w' ∧ w'.ownsRow B 3 1 (.slice (some ⟨g, 0, none⟩) n c) n (ils h n) ∧ Only g w w' := by
  obtain ⟨cur, h1, h2, h3, h4⟩ := copied_own (h := h) ho (Nat.le_refl n)
  have hr := run_copy_row (P := Try.prog) w 42 42 3 3 g 0 n c ad n c2 cur 3 (ils h n) Try.underlying42 size3 h1 (by rw [ils_length]; exact (Nat.min_self n).symm) hs (by rw [ils_length, Nat.zero_add]; exact h2) (ils_one _ _)
  rw [show ils (fun i => if i < n then h i else f i) n = ils h n from ils_congr fun i hi => if_pos hi] at h3
  refine ⟨_, hr.trans ?_, h3, h4⟩
  rw [ils_length]
  rfl

theorem add_at (b off j : Nat) : (⟨b, off, none⟩ : Addr).add j = ⟨b, off + j, none⟩ := by
  unfold Addr.add
  split <;> simp_all

theorem mkd42_run (W : World) {k : Nat} (hk : k ≤ 1048576) : (Instr.makeSlice 42 (.int .i64 (k : Int)) (.int .i64 (k : Int))).run Try.prog W = .ok (.slice (some ⟨W.heap.size, 0, none⟩) k k) (mkd W k) := by
  obtain ⟨i0, hi, hz0, hz1, hz2⟩ := info_parts Try.info3
  have h := run_make (P := Try.prog) W 42 3 i0 (.int .i64 0) Try.underlying42 hi hz0 .i64 .i64 k k (by omega) (Int.le_refl _) (by rw [hz2]; omega) (by omega)
  rw [Int.toNat_natCast, hz1] at h
  exact h

set_option maxHeartbeats 2000000 in
theorem copied_any {w : World} {v : Value} {n : Nat} {xs : Nat → Int} (hv : Il w v n xs) (h0 : 0 < n) (hn : n ≤ 512) : Calls Try.prog 23 #[v] w fun e w' => e = .returned (.slice (some ⟨w.heap.size, 0, none⟩) n n) ∧ w'.ownsRow w.heap.size 3 1 (.slice (some ⟨w.heap.size, 0, none⟩) n n) n (ils xs n) ∧ Below w.heap.size w w' := by
  have hr := mkd42_run w (k := n) (by omega)
  have b1 := mkd_below w n
  have o1 := mkd_own w (k := n) (by omega) (Nat.le_refl _)
  obtain ⟨ao, cap, rfl, hcap, hc⟩ := hv
  obtain ⟨bb, off, rfl, hlt, hcell⟩ := hc h0
  obtain ⟨w2, h2, o2, on2⟩ := copied_run (h := xs) (ad := ⟨bb, off, none⟩) (c2 := cap) o1 (fun j u hj => by
    have hjn : j < n := by
      rcases Nat.lt_or_ge j n with h | h
      · exact h
      · rw [List.getElem?_eq_none (by rw [ils_length]; exact h)] at hj; cases hj
    rw [ils_get hjn] at hj
    injection hj with hj
    subst hj
    rw [add_at]
    exact (b1.cell (p := ⟨bb, off + j, none⟩) hlt).trans (hcell j hjn))
  have HF : Hid (w2.ownsRow w.heap.size 3 1 (.slice (some ⟨w.heap.size, 0, none⟩) n n) n (ils xs n) ∧ Below w.heap.size w w2) := ⟨o2, Below.only b1 on2 (Nat.le_refl _)⟩
  clear hc hcell o1 o2 on2 b1
  go_enter Try.func23, Try.ntmps23
  go_wp2
  go_ret
  exact ⟨rfl, HF.out.1, HF.out.2⟩

set_option maxHeartbeats 2000000 in
theorem exch_any {w : World} {B P m o : Nat} {f : Nat → Int} {x : Int} (h : w.ownsRow B 3 1 (.slice (some ⟨P, 0, none⟩) m m) m (ils f m)) (ho : o < m) (_ : m ≤ 512) : Calls Try.prog 45 #[.slice (some ⟨P, 0, none⟩) m m, .int .i64 (o : Int), .int .i64 x] w fun e w' => e = .returned (.int .i64 (f o)) ∧ w'.ownsRow B 3 1 (.slice (some ⟨P, 0, none⟩) m m) m (ils (fun i => if i = o then x else f i) m) ∧ Only P w w' := by
  have d0 := World.ownsRow.cellAt h o (by omega)
  rw [ils_get ho] at d0
  have z0 := World.ownsRow.frozenAt h o
  have st := (World.ownsRow.stored h o (.int .i64 x)).1
  rw [ils_put] at st
  have HF : Hid ((w.setCell ⟨P, o, none⟩ (.int .i64 x)).ownsRow B 3 1 (.slice (some ⟨P, 0, none⟩) m m) m (ils (fun i => if i = o then x else f i) m) ∧ Only P w (w.setCell ⟨P, o, none⟩ (.int .i64 x))) := ⟨st, (Only.refl P w).put o _⟩
  clear st h
  go_enter Try.func45, Try.ntmps45
  go_wp2
  go_ret
  exact ⟨rfl, HF.out.1, HF.out.2⟩

theorem Kd.only {D : Nat → Prop} {w W W' : World} {g : Nat} (h : Kd D w W) (ho : Only g W W') (hg : D g) : Kd D w W' :=
  ⟨ho.os.trans h.os, ho.tape.trans h.tape, ho.output.trans h.output, Nat.le_trans h.size ho.size, fun k hk hd => (ho.block k (fun e => hd (by rw [e]; exact hg))).trans (h.block k hk hd)⟩

set_option maxHeartbeats 4000000 in
theorem rStep {w : World} {B C P m o : Nat} {f : Nat → Int} {x : Int} (h : Cb w B C P m f o) (hm : m ≤ 512) :
    Calls Try.prog 44 #[.pointer (some ⟨C, 0, none⟩), .int .i64 x] w fun e w' => e = .returned (.int .i64 (f o)) ∧ Cb w' B C P m (fun i => if i = o then x else f i) ((o + 1) % m) ∧ Kd (CbD C P) w w' := by
  have H : Hid (Cb w B C P m f o) := h
  have hlt := h.lt
  have hne := h.ne
  obtain ⟨q, hq⟩ : ∃ q, q = (o + 1) % m := ⟨_, rfl⟩
  rw [← hq]
  have hm2 : q < m := by rw [hq]; exact Nat.mod_lt _ (by omega)
  have i2 := fun W : World => around_any (w := W) (ao := some ⟨P, 0, none⟩) (n := m) (cap := m) (by omega) (by omega) (a := (o : Int) + 1) (by omega)
  have hmod : ((o : Int) + 1 + m) % (m : Int) = (q : Int) := by rw [Int.add_emod_right, hq]; exact_mod_cast rfl
  rw [hmod] at i2
  clear hq hmod h
  go_enter Try.func44, Try.ntmps44
  go_upto_region 1 with fail
  refine wp_region_any (by kernel_rfl) ?_
  change wpAny _ _ _ _ _ _ _ (World.drew _)
  refine wpI_any (I := fun X => Rg X C (.slice (some ⟨P, 0, none⟩) m m) (.int .i64 (o : Int)) ∧ Kd (CbD C P) w X) _ _ _ _ ?_
  have l0 : Rg w.drew C (.slice (some ⟨P, 0, none⟩) m m) (.int .i64 (o : Int)) ∧ Kd (CbD C P) w w.drew := ⟨H.out.drew.rg, (Kd.refl _ _).drew⟩
  have O0 : Hid (w.drew.ownsRow B 3 1 (.slice (some ⟨P, 0, none⟩) m m) m (ils f m)) := H.out.drew.own
  refine wpI_take (i := 0) (v := ?_) rfl (by kernel_rfl) (by kernel_rfl) (by kernel_rfl) (fun _ _ _ h => h) ⟨by rfl, ?_⟩ ?_
  rotate_left
  · intro X hI; go_simp; with_reducible rfl
  refine wpI_take (i := 1) (v := ?_) rfl (by kernel_rfl) (by kernel_rfl) (by kernel_rfl) (fun _ _ _ h => h) ⟨by rfl, ?_⟩ ?_
  rotate_left
  · intro X hI; go_simp; with_reducible rfl
  refine wpI_take (i := 2) (v := ?_) rfl (by kernel_rfl) (by kernel_rfl) (by kernel_rfl) (fun _ _ _ h => h) ⟨by rfl, ?_⟩ ?_
  rotate_left
  · intro X hI; go_simp; with_reducible rfl
  refine wpI_take (i := 3) (v := ?_) rfl (by kernel_rfl) (by kernel_rfl) (by kernel_rfl) (fun _ _ _ h => h) ⟨by rfl, ?_⟩ ?_
  rotate_left
  · intro X hI; obtain ⟨c0, c1, _, _⟩ := hI.1; go_simp; with_reducible rfl
  refine wpI_take (i := 4) (v := ?_) rfl (by kernel_rfl) (by kernel_rfl) (by kernel_rfl) (fun _ _ _ h => h) ⟨by rfl, ?_⟩ ?_
  rotate_left
  · intro X hI; go_simp; with_reducible rfl
  refine wpI_take (i := 5) (v := ?_) rfl (by kernel_rfl) (by kernel_rfl) (by kernel_rfl) (fun _ _ _ h => h) ⟨by rfl, ?_⟩ ?_
  rotate_left
  · intro X hI; go_simp; with_reducible rfl
  refine wpI_take (i := 6) (v := ?_) rfl (by kernel_rfl) (by kernel_rfl) (by kernel_rfl) (fun _ _ _ h => h) ⟨by rfl, ?_⟩ ?_
  rotate_left
  · intro X hI; go_simp; with_reducible rfl
  refine wpI_take (i := 7) (v := ?_) rfl (by kernel_rfl) (by kernel_rfl) (by kernel_rfl) (fun _ _ _ h => h) ⟨by rfl, ?_⟩ ?_
  rotate_left
  · intro X hI; obtain ⟨c0, c1, _, _⟩ := hI.1; go_simp; with_reducible rfl
  refine wpI_take (i := 8) (v := ?_) rfl (by kernel_rfl) (by kernel_rfl) (by kernel_rfl) (fun _ _ _ h => h) ⟨by rfl, ?_⟩ ?_
  rotate_left
  · intro X hI; go_simp; with_reducible rfl
  refine wpI_only (i := 9) rfl (by kernel_rfl) l0 (by rfl) ?_
  intro K hK
  go_simp
  go_wp2_with (go_at_call 45; refine (exch_any O0.out hlt hm).mono ?_; rintro e x1 ⟨rfl, ho1, hon⟩; have l1 : Rg x1 C (.slice (some ⟨P, 0, none⟩) m m) (.int .i64 (o : Int)) ∧ Kd (CbD C P) w x1 := ⟨l0.1.block (hon.block C hne), Kd.only l0.2 hon (.inr rfl)⟩; have O1 : Hid (x1.ownsRow B 3 1 (.slice (some ⟨P, 0, none⟩) m m) m (ils (fun i => if i = o then x else f i) m)) := ho1; clear ho1 hon)
  refine wpI_only (i := 10) rfl (by kernel_rfl) l1 (by rfl) ?_
  intro K hK
  go_simp
  refine hK _ _ ?_
  clear hK K
  refine wpI_done l1 (by kernel_rfl) ?_ _
  have C1 : Hid (Cb x1 B C P m (fun i => if i = o then x else f i) o ∧ Kd (CbD C P) w x1) := ⟨⟨l1.1, O1.out, hne, hlt⟩, l1.2⟩
  clear l1 l0 O1 O0 H
  go_upto_region 2 with fail
  obtain ⟨c0, c1, y0, y1⟩ := C1.out.1.rg
  have H3 : Hid (Cb (x1.setCell ⟨C, 1, none⟩ (.int .i64 (q : Int))).drew B C P m (fun i => if i = o then x else f i) q) := (C1.out.1.putC hm2).drew
  have K3 : Hid (Kd (CbD C P) w (x1.setCell ⟨C, 1, none⟩ (.int .i64 (q : Int))).drew) := (C1.out.2.put (.inl (.inl rfl)) 1 _).drew
  have hwr : IntKind.i64.wrap ((o : Int) + 1) = (o : Int) + 1 := by rw [IntKind.wrap_i64]; omega
  go_region_with ((go_at_call 26; (with_reducible refine (i2 _).mono ?_); rintro e w' ⟨rfl, hw⟩; obtain rfl := hw.symm))
  all_goals
    go_wp2
    go_ret
    exact ⟨rfl, H3.out, K3.out⟩
end Go.Proofs.Ytphnoghnoacfiaa
