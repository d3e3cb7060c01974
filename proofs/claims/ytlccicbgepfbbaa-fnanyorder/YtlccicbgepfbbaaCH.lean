/- Lists put one behind the other. -/
import Derived.Test.YtlccicbgepfbbaaCG
import Derived.Lib.AppendZerosOnto
namespace Go.Proofs.Ytlccicbgepfbbaa
open Go.RowKit

theorem zc_list (k : Nat) : (Builtin.zeroCells (Value.int .i64 0).cells k).toList = List.replicate k (.int .i64 0) := by
  apply List.ext_getElem?
  intro i
  by_cases h : i < k
  · simp [Builtin.zeroCells, Value.cells, h, Nat.mod_one]
  · simp [Builtin.zeroCells, Value.cells, h]

/-- append(s, make([]int, k)...): a row of the call's own, k noughts behind it. -/
theorem zeros_own (w : World) (base ty : Nat) (v : Value) (n k : Nat) (xs : List Value) (hown : w.ownsRow base 3 1 v n xs) (hk : 0 < k) (hn : n + k ≤ 100000) (hbase : base ≤ w.heap.size) :
    ∃ v' w', (Builtin.append_ #[27, 3] ty #[v, .int .i64 (k : Int)]).run Try.prog w = .ok v' w' ∧ w'.ownsRow base 3 1 v' (n + k) (xs ++ List.replicate k (.int .i64 0)) ∧ w.grownBy w' v.ownBlock := by
  obtain ⟨i0, hi, hz0, hz1, hz2⟩ := info_parts Try.info3
  have hzl := zc_list k
  have hzs : (Builtin.zeroCells (Value.int .i64 0).cells k).size = k := by rw [size_zeroCells]; simp [Value.cells]
  have hlen : (xs ++ List.replicate k (Value.int .i64 0)).length = (n + k) * 1 := by rw [List.length_append, hown.1, List.length_replicate]; omega
  have grown : ∀ (old : Nat), old < n + k → ∀ (row : Option Nat),
      (w.drew.alloc (.cells (xs.toArray ++ Builtin.zeroCells (Value.int .i64 0).cells k ++ Builtin.zeroCells (Value.int .i64 0).cells (grownCap w (n + k) old 3 - (n + k))) 3)).ownsRow base 3 1
        (.slice (some ⟨w.heap.size, 0, none⟩) (n + k) (grownCap w (n + k) old 3)) (n + k) (xs ++ List.replicate k (.int .i64 0)) ∧
      w.grownBy (w.drew.alloc (.cells (xs.toArray ++ Builtin.zeroCells (Value.int .i64 0).cells k ++ Builtin.zeroCells (Value.int .i64 0).cells (grownCap w (n + k) old 3 - (n + k))) 3)) row := by
    intro old ho row
    have hge := grownCap_ge w (n + k) old 3
    have hcm : grownCap w (n + k) old 3 ≤ maxLen := grownCap_le_maxLen w (n + k) old 3 (by unfold maxLen; omega)
    refine ⟨⟨hlen, .inr ⟨w.heap.size, _, _, rfl, hbase, heap_alloc_new w.drew _, hge, hcm, ?_, ?_⟩⟩, ⟨rfl, rfl, rfl, by simp, fun k hk _ => heap_alloc_old w.drew _ hk⟩⟩
    · simp only [Array.size_append, List.size_toArray, size_zeroCells, hown.1]
      simp [Value.cells]
      omega
    · simp only [Array.toList_append, List.append_assoc, hzl]
      rw [← List.append_assoc, ← hlen]
      exact List.take_left
  rcases hown.2 with ⟨rfl, rfl⟩ | ⟨g, cap, cur, rfl, hbg, hg, hnc, hcm, hcs, htake⟩
  · have hx : xs = [] := List.eq_nil_of_length_eq_zero (by simpa using hown.1)
    subst hx
    have hr := Lib.run_append_nil_zeros (P := Try.prog) w 27 3 ty 3 i0 (.int .i64 0) .i64 .i64 Try.underlying27 Try.underlying3 hi hz0 k hk (by omega) (by omega) (by rw [hz2]; omega)
    have hgr := grown 0 (by omega) (Value.ownBlock (.slice none 0 0))
    simp only [Nat.zero_add, List.nil_append, Array.empty_append] at hgr ⊢
    exact ⟨_, _, hr, hgr.1, hgr.2⟩
  · by_cases hroom : n + k ≤ cap
    · have hst := run_storeCells_at Try.prog g (n * 1) 3 (List.replicate k (Value.int .i64 0)) 0 cur w hg (by rw [List.length_replicate, hcs]; omega) (by intro u hu; rw [List.eq_of_mem_replicate hu]; rfl)
      simp only [Nat.add_zero, Nat.mul_one] at hst
      have hw : IntKind.i64.wrap (k : Int) = k := by rw [IntKind.wrap_i64]; omega
      have hneg : ¬ ((k : Int) < 0) := by omega
      have h48i : ¬ (281474976710656 < (k : Int) * 8) := by omega
      have hk0 : k ≠ 0 := by omega
      have hr : (Builtin.append_ #[27, 3] ty #[.slice (some ⟨g, 0, none⟩) n cap, .int .i64 (k : Int)]).run Try.prog w = .ok (.slice (some ⟨g, 0, none⟩) (n + k) cap) (w.setRow g (cur.toList.take n ++ List.replicate k (Value.int .i64 0) ++ cur.toList.drop (n + k)).toArray) := by
        simp [Builtin.append_, run_underlying Try.underlying27, run_underlying Try.underlying3, sizeOf, typeInfo, zeroValue, hi, hz0, hz1, hz2, asInt, asIntOf, hw, hneg, h48i, hk0, hroom, Addr.add_lit, hzl]
        have hst2 := hst
        simp at hst2
        rw [hst2]
        rfl
      refine ⟨_, _, hr, ⟨hlen, .inr ⟨g, cap, _, rfl, hbg, setRow_heap w g cur _ 3 _ hg, hroom, hcm, ?_, ?_⟩⟩, ⟨rfl, rfl, rfl, by simp, fun k _ hk => setRow_other w g k _ (fun e => hk (by simp [Value.ownBlock, e]))⟩⟩
      · simp only [List.size_toArray, List.length_append, List.length_take, List.length_drop, Array.length_toList, List.length_replicate]
        omega
      · rw [Nat.mul_one] at htake
        rw [htake, ← hlen]
        exact List.take_left
    · have holds : ∀ j u, xs[j]? = some u → w.drew.cell? ((⟨g, 0, none⟩ : Addr).add j) = some u := hown.cells (g := g) rfl
      have hold := run_firstCells_some (P := Try.prog) w.drew i0.size n ⟨g, 0, none⟩ n cap xs (by rw [hz1]; exact hown.1) holds
      have hr := Lib.run_append_grow_zeros (P := Try.prog) w 27 3 ty 3 i0 (.int .i64 0) .i64 .i64 Try.underlying27 Try.underlying3 hi hz0 (some ⟨g, 0, none⟩) n cap xs hold k hk (by omega) (by omega) (by omega) (by rw [hz2]; omega) (growslice_fits (by omega) (by rw [hz2]; omega))
      have hgr := grown cap (by omega) (Value.ownBlock (.slice (some ⟨g, 0, none⟩) n cap))
      exact ⟨_, _, hr, hgr.1, hgr.2⟩


theorem app_run {w : World} {base B2 n m : Nat} {v xv : Value} {xs : List Value} {ys : Nat → Int} (hown : w.ownsRow base 3 1 v n xs) (hsrc : w.ownsRow B2 3 1 xv m (ils ys m)) (hnm : n + m ≤ 1048576) (hbase : base ≤ w.heap.size) :
    ∃ v' w', (Builtin.append_ #[27, 27] 27 #[v, xv]).run Try.prog w = .ok v' w' ∧ w'.ownsRow base 3 1 v' (n + m) (xs ++ ils ys m) ∧ w.grownBy w' v.ownBlock := by
  obtain ⟨i0, hi, hz0, hz1, hz2⟩ := info_parts Try.info3
  rcases hsrc.2 with ⟨rfl, rfl⟩ | ⟨g, cap, cur, rfl, hb, hg, hcap, _⟩
  · exact ⟨v, w, run_append_owned_none (P := Try.prog) w base 27 27 3 i0 1 Try.underlying27 hi v n xs hown, by simpa [ils] using hown, grown_refl _ _⟩
  · obtain ⟨v', w', h1, h2, h3, _⟩ := run_append_own (P := Try.prog) w base 27 27 3 i0 (.int .i64 0) 1 8 Try.underlying27 hi hz0 hz1 hz2 rfl (by decide) v n xs hown ⟨g, 0, none⟩ m cap (ils ys m) (by rw [ils_length, Nat.mul_one]) (hsrc.cells rfl) (ils_one _ _) (by unfold maxLen; omega) (by omega) hbase
    exact ⟨v', w', h1, h2, h3⟩

theorem wpList_appg {w w' : World} {v xv v' : Value} {ops : Array Oper} {rest : List Oper} {o : Oper} {a : Act} {Q : Exit → Act → World → Prop} (hw : Region.wanted o (yielded ops a.tmps) = true) (s x : Operand)
    (ho : o.op = .call { callee := .builtin .append, args := #[s, x], argTypes := #[27, 27] }) (hty : o.type = 27) (hs : a.eval s = v) (hx : a.eval x = xv) (hr : (Builtin.append_ #[27, 27] 27 #[v, xv]).run Try.prog w = .ok v' w') (h : wpList Try.prog ops Q rest (a.put o.dst v') w') : wpList Try.prog ops Q (o :: rest) a w := by
  refine wpList_step fun K hK => ?_
  simp only [hw, if_true]
  unfold Oper.wp execOp
  simp only [ho, resolve, invoke, builtin, Sem.run_bind, Sem.run_pure, Result.andThen_ok, List.map_toArray, List.map_cons, List.map_nil, hs, hx, hty, hr]
  exact hK _ _ h

theorem wpList_appz {w w' : World} {v xv v' : Value} {ops : Array Oper} {rest : List Oper} {o : Oper} {a : Act} {Q : Exit → Act → World → Prop} (hw : Region.wanted o (yielded ops a.tmps) = true) (s x : Operand)
    (ho : o.op = .call { callee := .builtin .append, args := #[s, x], argTypes := #[27, 3] }) (hty : o.type = 27) (hs : a.eval s = v) (hx : a.eval x = xv) (hr : (Builtin.append_ #[27, 3] 27 #[v, xv]).run Try.prog w = .ok v' w') (h : wpList Try.prog ops Q rest (a.put o.dst v') w') : wpList Try.prog ops Q (o :: rest) a w := by
  refine wpList_step fun K hK => ?_
  simp only [hw, if_true]
  unfold Oper.wp execOp
  simp only [ho, resolve, invoke, builtin, Sem.run_bind, Sem.run_pure, Result.andThen_ok, List.map_toArray, List.map_cons, List.map_nil, hs, hx, hty, hr]
  exact hK _ _ h

set_option maxRecDepth 100000 in
set_option maxHeartbeats 4000000 in
theorem grow_any (w : World) (k : Nat) (hk : k ≤ 2000) : Calls Try.prog 73 #[.slice none 0 0, .int .i64 (k : Int)] w fun e w' => ∃ u, e = .returned u ∧ w'.ownsRow w.heap.size 3 1 u 0 (ils (fun _ => 0) 0) ∧ Below w.heap.size w w' := by
  by_cases h : k = 0
  · subst h
    go_enter Try.func73, Try.ntmps73
    go_wp2
    go_ret
    exact ⟨_, rfl, ⟨rfl, .inl ⟨rfl, rfl⟩⟩, Below.refl _ _⟩
  · have hn : w.ownsRow w.heap.size 3 1 (.slice none 0 0) 0 [] := ⟨rfl, .inl ⟨rfl, rfl⟩⟩
    obtain ⟨v1, w1, hr, ho, hg⟩ := zeros_own w w.heap.size 27 (.slice none 0 0) 0 k [] hn (by omega) (by omega) (Nat.le_refl _)
    have B1 : Hid (Below w.heap.size w w1) := grown_below (Below.refl _ _) (Nat.le_refl _) hn hg
    rw [Nat.zero_add] at ho
    obtain ⟨ao, cap, rfl, hgo⟩ := own_open ho
    obtain ⟨g1, rfl⟩ := hgo (by omega)
    have hkc : k ≤ cap := own_capn ho
    have O1 : Hid (w1.ownsRow w.heap.size 3 1 (.slice (some ⟨g1, 0, none⟩) 0 cap) 0 (ils (fun _ => 0) 0)) := by
      rcases ho.2 with ⟨h1, _⟩ | ⟨g, c, cur, h1, h2, h3, h4, h5, h6, h7⟩
      · cases h1
      · injection h1 with e1 e2 e3
        injection e1 with e1
        injection e1 with e1 e4
        subst e3
        subst e1
        exact ⟨rfl, .inr ⟨g1, cap, cur, rfl, h2, h3, by omega, h5, h6, by simp [ils]⟩⟩
    clear hn ho hg hgo
    have HRR : Hid _ := hr
    clear hr
    go_enter Try.func73, Try.ntmps73
    go_wp2_with (at_builtin; refine wpList_appz rfl _ _ rfl rfl rfl rfl HRR.out ?_)
    go_ret
    exact ⟨_, rfl, O1.out, B1.out⟩

set_option maxRecDepth 20000 in
set_option maxHeartbeats 8000000 in
theorem concat_any {w : World} {B K : Nat} {v : Value} {ms : Nat → Nat} {T : Nat → Nat → Int} (h : Gr B w v K ms T) (h1 : ∀ k, k < K → ms k = 1) (hK : K ≤ 2000) :
    Calls Try.prog 44 #[v] w fun e w' => ∃ u, e = .returned u ∧ w'.ownsRow w.heap.size 3 1 u K (ils (fun k => T k 0) K) ∧ Below w.heap.size w w' := by
  obtain ⟨R, ho, hr⟩ := h
  have HR : Hid (∀ k, k < K → w.ownsRow B 3 1 (R k) 1 (ils (T k) 1)) := fun k hk => by
    have h5 := (hr k hk).1
    rw [h1 k hk] at h5
    exact h5
  have HO : Hid (w.ownsRow B 27 1 v K ((List.range K).map R)) := ho
  obtain ⟨vo, vc, rfl, hvo⟩ := own_open ho
  have HVO : Hid (0 < K → ∃ g, vo = some ⟨g, 0, none⟩) := hvo
  clear ho hr hvo
  go_enter Try.func44, Try.ntmps44
  go_wp2
  go_loopw [3, 5, 11] (fun sz _ i wr => ∃ k : Nat, i = .int .i64 k ∧ k ≤ K ∧ sz = .int .i64 k ∧ Hid (Below w.heap.size w wr)) (fun _ _ i _ => K - (intOf i).toNat)
  case atStart => exact ⟨0, rfl, by omega, rfl, Below.refl _ _⟩
  case round =>
    obtain ⟨k, rfl, hk, rfl, HBW⟩ := hrel
    by_cases h2 : k < K
    · obtain ⟨g, rfl⟩ := HVO.out (by omega)
      have c0 := World.ownsRow.cellAt (own_below HO.out HBW.out) k (by omega)
      rw [show ((List.range K).map R)[k]? = some (R k) by simp [h2]] at c0
      obtain ⟨ro, rc, he, _⟩ := own_open (HR.out k h2)
      rw [he] at c0
      have hk3 : (k : Int) ≤ 2000 := by omega
      clear he
      go_wp2
      go_roundw
      case rel => exact ⟨k + 1, by go_num, by omega, by go_num, HBW.out⟩
      case measure => simp [intOf]; omega
    · have hkK : K = k := by omega
      subst hkK
      clear hk h2
      have ig := grow_any wr K hK
      go_wp2_with (go_at_call 73; (with_reducible refine ig.mono ?_); rintro e V ⟨x, rfl, ho, hb⟩; have X0 : Hid (V.ownsRow wr.heap.size 3 1 x 0 (ils (fun _ => 0) 0)) := ho; have B0 : Hid (Below wr.heap.size wr V) := hb; clear ho hb)
      have X1 : Hid (V.ownsRow w.heap.size 3 1 x 0 (ils (fun k => T k 0) 0)) := own_base X0.out HBW.out.size
      have B1 : Hid (Below w.heap.size w V) := bstep HBW.out B0.out
      clear X0 B0 HBW
      go_loopw [6, 8, 27] (fun u _ i wr => ∃ k : Nat, i = .int .i64 k ∧ k ≤ K ∧ Hid (wr.ownsRow w.heap.size 3 1 u k (ils (fun k => T k 0) k) ∧ Below w.heap.size w wr)) (fun _ _ i _ => K - (intOf i).toNat)
      case atStart => exact ⟨0, rfl, by omega, X1.out, B1.out⟩
      case round =>
        obtain ⟨k, rfl, hk, hrel⟩ := hrel
        have HU : Hid (wr.ownsRow w.heap.size 3 1 u6 k (ils (fun k => T k 0) k)) := hrel.out.1
        have HB : Hid (Below w.heap.size w wr) := hrel.out.2
        clear hrel
        by_cases h2 : k < K
        · obtain ⟨g, rfl⟩ := HVO.out (by omega)
          have c0 := World.ownsRow.cellAt (own_below HO.out HB.out) k (by omega)
          rw [show ((List.range K).map R)[k]? = some (R k) by simp [h2]] at c0
          have hsrc := own_below (HR.out k h2) HB.out
          obtain ⟨ro, rc, he, _⟩ := own_open (HR.out k h2)
          rw [he] at c0 hsrc
          clear he
          obtain ⟨v1, w10, hap1, ho1, hg1⟩ := app_run HU.out hsrc (by omega) HB.out.size
          have HAP1 : Hid _ := hap1
          have O1 : Hid (w10.ownsRow w.heap.size 3 1 v1 (k + 1) (ils (fun k => T k 0) (k + 1))) := by
            rw [ils_snoc]
            exact ho1
          have B10 : Hid (Below w.heap.size w w10) := grown_below HB.out (Nat.le_refl _) HU.out hg1
          clear ho1 hg1 hap1 hsrc
          go_wp2_with (at_builtin; refine wpList_appg rfl _ _ rfl rfl rfl rfl HAP1.out ?_)
          clear HAP1
          try go_frame
          go_wp2
          go_roundw
          case rel => exact ⟨k + 1, by go_num, by omega, O1.out, B10.out⟩
          case measure => simp [intOf]; omega
        · have hkK : K = k := by omega
          subst hkK
          go_wp2
          go_ret
          exact ⟨_, rfl, HU.out, HB.out⟩
end Go.Proofs.Ytlccicbgepfbbaa
