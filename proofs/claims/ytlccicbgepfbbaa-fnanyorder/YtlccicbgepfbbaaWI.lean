/- A net of its own. -/
import Derived.Test.YtlccicbgepfbbaaWH
namespace Go.Proofs.Ytlccicbgepfbbaa
open Go.RowKit

/-- Wires in memory of somebody's own. -/
def Ow (w : World) (v : Value) (m : Nat) (ss : Nat → Wr) : Prop := ∃ B, w.ownsRow B 31 5 v m (ils (zs ss) (m * 5))

theorem Ow.below {w w' : World} {v : Value} {m : Nat} {ss : Nat → Wr} (h : Ow w v m ss) (hb : Below w.heap.size w w') : Ow w' v m ss := by
  obtain ⟨B, h⟩ := h
  exact ⟨B, own_below h hb⟩

theorem Ow.il5 {w : World} {v : Value} {m : Nat} {ss : Nat → Wr} (h : Ow w v m ss) : Il5 w v m ss := by
  obtain ⟨B, h⟩ := h
  exact il5_of_own h

theorem ow_of_own {w : World} {B m : Nat} {v : Value} {ss : Nat → Wr} (h : w.ownsRow B 31 5 v m (ils (zs ss) (m * 5))) : Ow w v m ss := ⟨B, h⟩

theorem Il5.open {w : World} {v : Value} {n : Nat} {ss : Nat → Wr} (h : Il5 w v n ss) : ∃ ao cap, v = .slice ao n cap := by
  obtain ⟨ao, cap, rfl, _⟩ := h
  exact ⟨ao, cap, rfl⟩

theorem sFire_zero (w : World) (ao : Option Addr) (cap : Nat) (u : Value) (bb : Int) : Calls Try.prog 48 #[.slice ao 0 cap, u, .int .i64 bb] w fun e w' => e = .returned (.tuple #[]) ∧ w' = w := by
  go_enter Try.func48, Try.ntmps48
  go_wp2
  go_loopw [6] (fun i wr => i = .int .i64 0 ∧ wr = w) (fun _ _ => 0)
  case atStart => exact ⟨rfl, rfl⟩
  case round =>
    obtain ⟨rfl, rfl⟩ := hrel
    go_wp2
    go_end0
    exact ⟨rfl, rfl⟩

theorem iFire_zero (w : World) (bb : Int) : Calls Try.prog 53 #[.slice none 0 0, .int .i64 bb] w fun e w' => e = .returned (.tuple #[]) ∧ w' = w := by
  go_enter Try.func53, Try.ntmps53
  go_wp2
  go_loopw [4, 8] (fun _ i wr => i = .int .i64 0 ∧ wr = w) (fun _ _ _ => 0)
  case atStart => exact ⟨rfl, rfl⟩
  case round =>
    obtain ⟨rfl, rfl⟩ := hrel
    go_wp2
    go_end0
    exact ⟨rfl, rfl⟩

theorem sFire_any {w0 w : World} {v u : Value} {m : Nat} {ss : Nat → Wr} {h : Nat → Int} (bb : Int) (hv : Il5 w0 v m ss) (hb0 : Below w0.heap.size w0 w) (hu : w.ownsRow w0.heap.size 3 1 u m (ils h m)) (hf : Fit m ss h) (hm : m ≤ 1048576) :
    Calls Try.prog 48 #[v, u, .int .i64 bb] w fun e w' => e = .returned (.tuple #[]) ∧ w'.ownsRow w0.heap.size 3 1 u m (ils (frd ss bb h) m) ∧ Kd (fun x => u.ownBlock = some x) w w' := by
  rcases hu.2 with ⟨rfl, rfl⟩ | ⟨g, cap, cur, rfl, _⟩
  · obtain ⟨ao, cap, rfl⟩ := hv.open
    refine (sFire_zero w ao cap _ bb).mono ?_
    rintro e w' ⟨rfl, rfl⟩
    exact ⟨rfl, hu, Kd.refl _ _⟩
  · refine (sFire_some bb hv hb0 hu hf hm).mono ?_
    rintro e w' ⟨rfl, h1, h2⟩
    exact ⟨rfl, h1, h2.mono (by rintro x rfl; rfl)⟩

theorem iFire_any {w : World} {B m : Nat} {u : Value} {ss : Nat → Wr} (bb : Int) (hu : w.ownsRow B 31 5 u m (ils (zs ss) (m * 5))) (hf : Fit m ss (hav ss)) (hm : m ≤ 1048576) :
    Calls Try.prog 53 #[u, .int .i64 bb] w fun e w' => e = .returned (.tuple #[]) ∧ w'.ownsRow B 31 5 u m (ils (zs (nfr ss bb)) (m * 5)) ∧ Kd (fun x => u.ownBlock = some x) w w' := by
  rcases hu.2 with ⟨rfl, rfl⟩ | ⟨g, cap, cur, rfl, _⟩
  · refine (iFire_zero w bb).mono ?_
    rintro e w' ⟨rfl, rfl⟩
    exact ⟨rfl, hu, Kd.refl _ _⟩
  · refine (iFire_some bb hu hf hm).mono ?_
    rintro e w' ⟨rfl, h1, h2⟩
    exact ⟨rfl, h1, h2.mono (by rintro x rfl; rfl)⟩

theorem app_ty (w : World) (ty : TypeId) (b x : Option Addr) (l c m d : Nat) : (Builtin.append_ #[71, 24] ty #[.slice b l c, .slice x m d]).run Try.prog w = (Builtin.append_ #[71, 71] ty #[.slice b l c, .slice x m d]).run Try.prog w := by
  simp [Builtin.append_, run_underlying Try.underlying71, run_underlying Try.underlying24]

theorem ils_one (f : Nat → Int) (n : Nat) : ∀ u ∈ ils f n, u.oneCell' = true := by
  intro u hu
  simp only [ils, List.mem_map] at hu
  obtain ⟨i, _, rfl⟩ := hu
  rfl

theorem grown_refl (w : World) (r : Option Nat) : w.grownBy w r := ⟨rfl, rfl, rfl, Nat.le_refl _, fun _ _ _ => rfl⟩

theorem net_run {w : World} {base B2 n : Nat} {v xv : Value} {ss : Nat → Wr} (hown : w.ownsRow base 31 5 v 0 []) (hsrc : w.ownsRow B2 31 5 xv n (ils (zs ss) (n * 5))) (hnm : n ≤ 1048576) (hbase : base ≤ w.heap.size) :
    ∃ v' w', (Builtin.append_ #[71, 24] 71 #[v, xv]).run Try.prog w = .ok v' w' ∧ w'.ownsRow base 31 5 v' n (ils (zs ss) (n * 5)) ∧ w.grownBy w' v.ownBlock := by
  obtain ⟨i0, hi, hz0, hz1, hz2⟩ := info_parts Try.info31
  obtain ⟨vb, vc, rfl⟩ : ∃ vb vc, v = .slice vb 0 vc := by
    rcases hown.2 with ⟨rfl, _⟩ | ⟨g, cap, cur, rfl, _⟩
    · exact ⟨_, _, rfl⟩
    · exact ⟨_, _, rfl⟩
  rcases hsrc.2 with ⟨rfl, rfl⟩ | ⟨g, cap, cur, rfl, hb, hg, hcap, _⟩
  · rw [app_ty]; exact ⟨.slice vb 0 vc, w, run_append_owned_none (P := Try.prog) w base 71 71 31 i0 5 Try.underlying71 hi _ 0 [] hown, by simpa [ils] using hown, grown_refl _ _⟩
  · rw [app_ty]
    obtain ⟨v', w', h1, h2, h3, _⟩ := run_append_own (P := Try.prog) w base 71 71 31 i0 (.agg #[.int .i64 0, .int .i64 0, .int .i64 0, .int .i64 0, .int .i64 0]) 5 40 Try.underlying71 hi hz0 hz1 hz2 (by simp [Value.cells]) (by decide) _ 0 [] hown ⟨g, 0, none⟩ n cap (ils (zs ss) (n * 5)) (by rw [ils_length]) (hsrc.cells rfl) (ils_one _ _) (by unfold maxLen; omega) (by omega) hbase
    rw [Nat.zero_add] at h2
    exact ⟨v', w', h1, h2, h3⟩

theorem wpList_appn {w w' : World} {v xv v' : Value} {ops : Array Oper} {rest : List Oper} {o : Oper} {a : Act} {Q : Exit → Act → World → Prop} (hw : Region.wanted o (yielded ops a.tmps) = true) (s x : Operand)
    (ho : o.op = .call { callee := .builtin .append, args := #[s, x], argTypes := #[71, 24] }) (hty : o.type = 71) (hs : a.eval s = v) (hx : a.eval x = xv) (hr : (Builtin.append_ #[71, 24] 71 #[v, xv]).run Try.prog w = .ok v' w') (h : wpList Try.prog ops Q rest (a.put o.dst v') w') : wpList Try.prog ops Q (o :: rest) a w := by
  refine wpList_step fun K hK => ?_
  simp only [hw, if_true]
  unfold Oper.wp execOp
  simp only [ho, resolve, invoke, builtin, Sem.run_bind, Sem.run_pure, Result.andThen_ok, List.map_toArray, List.map_cons, List.map_nil, hs, hx, hty, hr]
  exact hK _ _ h

theorem newNet_any {w : World} {v : Value} {m : Nat} {ss : Nat → Wr} (hv : Ow w v m ss) (hm : m ≤ 1048576) :
    Calls Try.prog 49 #[v] w fun e w' => ∃ u, e = .returned u ∧ w'.ownsRow w.heap.size 31 5 u m (ils (zs ss) (m * 5)) ∧ Below w.heap.size w w' := by
  obtain ⟨B, hv⟩ := hv
  have bE : Below w.heap.size w (w.alloc (.cells #[] 31)) := below_one _ _
  obtain ⟨v1, w10, hap, ho1, hg1⟩ := net_run (own_empty w 31 5) (own_below hv bE) hm (by simp)
  have b10 : Below w.heap.size w w10 := grown_below bE (Nat.le_refl _) (own_empty w 31 5) hg1
  have HAP : Hid _ := hap
  have O1 : Hid _ := ho1
  have B10 : Hid _ := b10
  clear hap ho1 hg1 b10 bE hv
  go_enter Try.func49, Try.ntmps49
  go_wp2_with (at_builtin; refine wpList_appn rfl _ _ rfl rfl rfl rfl HAP.out ?_)
  go_ret
  exact ⟨_, rfl, O1.out, B10.out⟩
end Go.Proofs.Ytlccicbgepfbbaa
