/- Chain: the program's. -/
import Derived.Test.YtmjgaocmmmcnfaaCA
namespace Go.Proofs.Ytmjgaocmmmcnfaa
open Go.RowKit

theorem app_run {w : World} {base B2 n m : Nat} {v xv : Value} {xs : List Value} {ys : Nat → Int} (hown : w.ownsRow base 3 1 v n xs) (hsrc : w.ownsRow B2 3 1 xv m (ils ys m)) (hnm : n + m ≤ 1048576) (hbase : base ≤ w.heap.size) :
    ∃ v' w', (Builtin.append_ #[26, 26] 26 #[v, xv]).run Try.prog w = .ok v' w' ∧ w'.ownsRow base 3 1 v' (n + m) (xs ++ ils ys m) ∧ w.grownBy w' v.ownBlock := by
  obtain ⟨i0, hi, hz0, hz1, hz2⟩ := info_parts Try.info3
  rcases hsrc.2 with ⟨rfl, rfl⟩ | ⟨g, cap, cur, rfl, hb, hg, hcap, _⟩
  · exact ⟨v, w, run_append_owned_none (P := Try.prog) w base 26 26 3 i0 1 Try.underlying26 hi v n xs hown, by simpa [ils] using hown, grown_refl _ _⟩
  · obtain ⟨v', w', h1, h2, h3, _⟩ := run_append_own (P := Try.prog) w base 26 26 3 i0 (.int .i64 0) 1 8 Try.underlying26 hi hz0 hz1 hz2 rfl (by decide) v n xs hown ⟨g, 0, none⟩ m cap (ils ys m) (by rw [ils_length, Nat.mul_one]) (hsrc.cells rfl) (ils_one _ _) (by unfold maxLen; omega) (by omega) hbase
    exact ⟨v', w', h1, h2, h3⟩

theorem wpList_appg {w w' : World} {v xv v' : Value} {ops : Array Oper} {rest : List Oper} {o : Oper} {a : Act} {Q : Exit → Act → World → Prop} (hw : Region.wanted o (yielded ops a.tmps) = true) (s x : Operand)
    (ho : o.op = .call { callee := .builtin .append, args := #[s, x], argTypes := #[26, 26] }) (hty : o.type = 26) (hs : a.eval s = v) (hx : a.eval x = xv) (hr : (Builtin.append_ #[26, 26] 26 #[v, xv]).run Try.prog w = .ok v' w') (h : wpList Try.prog ops Q rest (a.put o.dst v') w') : wpList Try.prog ops Q (o :: rest) a w := by
  refine wpList_step fun K hK => ?_
  simp only [hw, if_true]
  unfold Oper.wp execOp
  simp only [ho, resolve, invoke, builtin, Sem.run_bind, Sem.run_pure, Result.andThen_ok, List.map_toArray, List.map_cons, List.map_nil, hs, hx, hty, hr]
  exact hK _ _ h

/-- No past. -/
abbrev pz : Pa := ⟨0, 0, 0, 0, 0⟩

/-- Behind k sections. -/
def chn (ss : Nat → Se) (xs : Nat → Int) : Nat → Nat → Int
  | 0 => xs
  | k + 1 => irs (ss k) pz (chn ss xs k)

/-- Good for Chain. -/
abbrev GC (ss : Nat → Se) (n N : Nat) (xs : Nat → Int) : Prop := n ≤ 64 ∧ Mds N xs ∧ ∀ k, k < n → (ss k).ok

theorem pz_ok : pz.ok := by
  refine ⟨fun k hk => ?_, by decide⟩
  match k, hk with
  | 0, _ => exact by decide
  | 1, _ => exact by decide
  | 2, _ => exact by decide
  | 3, _ => exact by decide

theorem chn_wth {ss : Nat → Se} {xs : Nat → Int} {N : Nat} (h : Wth 1000000 N xs) : ∀ k, Wth 1000000 N (chn ss xs k)
  | 0 => h
  | _ + 1 => fun _ _ => tap_bounds _

/-- What is told: a list in memory of the call's own, and a bool. -/
def Pch (w w' : World) (e : Ending) (N : Nat) (ys : Nat → Int) (ok : Bool) : Prop := ∃ u, e = .returned (.tuple #[u, .bool ok]) ∧ w'.ownsRow w.heap.size 3 1 u N (ils ys N) ∧ Below w.heap.size w w'

theorem nil_own (w : World) (ys : Nat → Int) : (w.alloc (.cells #[] 3)).ownsRow w.heap.size 3 1 (.slice (some ⟨w.heap.size, 0, none⟩) 0 0) 0 (ils ys 0) := own_empty w 3 1

set_option maxHeartbeats 4000000 in
theorem iChain_good {w : World} {lv v : Value} {n N B : Nat} {ss : Nat → Se} {xs : Nat → Int} (hl : Il5 w lv n ss) (hv : w.ownsRow B 3 1 v N (ils xs N)) (hg : GC ss n N xs) :
    Calls Try.prog 17 #[lv, v] w fun e w' => Pch w w' e N (chn ss xs n) true := by
  have hn : N ≤ 1048576 := Nat.le_trans hg.2.1.1 (by omega)
  have h64 := hg.1
  have HG : Hid (GC ss n N xs) := hg
  have HV : Hid (w.ownsRow B 3 1 v N (ils xs N)) := hv
  have i3 := iMds_any (il_of_own hv) hn
  rw [decide_eq_true hg.2.1] at i3
  obtain ⟨ao, cap, rfl, hcap, hc⟩ := hl
  have HC : Hid (0 < n → ∃ b off, ao = some ⟨b, off, none⟩ ∧ b < w.heap.size ∧ ∀ k, k < n → w.cell? ⟨b, off + k * 5, none⟩ = some (.int .i64 (ss k).b0) ∧ w.cell? ⟨b, off + k * 5 + 1, none⟩ = some (.int .i64 (ss k).b1) ∧ w.cell? ⟨b, off + k * 5 + 2, none⟩ = some (.int .i64 (ss k).b2) ∧ w.cell? ⟨b, off + k * 5 + 3, none⟩ = some (.int .i64 (ss k).a1) ∧ w.cell? ⟨b, off + k * 5 + 4, none⟩ = some (.int .i64 (ss k).a2)) := hc
  clear hc hg hv
  go_enter Try.func17, Try.ntmps17
  go_wp2_with (go_at_call 25; (with_reducible refine i3.mono ?_); rintro e w' ⟨rfl, hw⟩; obtain rfl := hw.symm)
  go_loopw [22] (fun i wr => ∃ k : Nat, i = .int .i64 k ∧ k ≤ n ∧ Hid (Below w.heap.size w wr)) (fun i _ => n - (intOf i).toNat)
  case atStart => exact ⟨0, rfl, by omega, Below.refl _ _⟩
  case round =>
    obtain ⟨k, rfl, hk, hbl⟩ := hrel
    by_cases h1 : k < n
    · obtain ⟨b, off, rfl, hlt, hcell⟩ := HC.out (by omega)
      have hb := hbl.out
      obtain ⟨c0, c1, c2, c3, c4⟩ := hcell k h1
      obtain ⟨c0, c1, c2, c3, c4⟩ : wr.cell? ⟨b, off + k * 5, none⟩ = some (.int .i64 (ss k).b0) ∧ wr.cell? ⟨b, off + k * 5 + 1, none⟩ = some (.int .i64 (ss k).b1) ∧ wr.cell? ⟨b, off + k * 5 + 2, none⟩ = some (.int .i64 (ss k).b2) ∧ wr.cell? ⟨b, off + k * 5 + 3, none⟩ = some (.int .i64 (ss k).a1) ∧ wr.cell? ⟨b, off + k * 5 + 4, none⟩ = some (.int .i64 (ss k).a2) := ⟨(hb.cell (p := ⟨b, off + k * 5, none⟩) hlt).trans c0, (hb.cell (p := ⟨b, off + k * 5 + 1, none⟩) hlt).trans c1, (hb.cell (p := ⟨b, off + k * 5 + 2, none⟩) hlt).trans c2, (hb.cell (p := ⟨b, off + k * 5 + 3, none⟩) hlt).trans c3, (hb.cell (p := ⟨b, off + k * 5 + 4, none⟩) hlt).trans c4⟩
      have i1 := iSec_any (ss k)
      rw [decide_eq_true (HG.out.2.2 k h1)] at i1
      clear hcell hlt hb
      go_wp2_with (go_at_call 23; (with_reducible refine (i1 _).mono ?_); rintro e w2 ⟨rfl, h2⟩; have B2 : Hid (Below w.heap.size w w2) := bstep (bstep hbl.out (below_one _ _)) h2; clear h2)
      go_roundw
      case rel => exact ⟨k + 1, by go_num, by omega, B2.out⟩
      case measure => simp [intOf]; omega
    · obtain rfl : k = n := by omega
      have bE : Below wr.heap.size wr (wr.alloc (.cells #[] 3)) := below_one _ _
      have sE : (wr.alloc (.cells #[] 3)).heap.size = wr.heap.size + 1 := by simp
      obtain ⟨v1, w10, hap1, ho1, hg1⟩ := app_run (own_empty wr 3 1) (own_below (own_below HV.out hbl.out) bE) (by omega) (by omega)
      have b10 : Below wr.heap.size wr w10 := grown_below bE (Nat.le_refl _) (own_empty wr 3 1) hg1
      have HAP1 : Hid _ := hap1
      have O1 : Hid (w10.ownsRow w.heap.size 3 1 v1 N (ils xs N)) := by
        rw [Nat.zero_add] at ho1
        exact own_base ho1 hbl.out.size
      have B10 : Hid (Below w.heap.size w w10) := bstep hbl.out b10
      clear bE sE ho1 hg1 b10 hap1
      go_wp2_with (at_builtin; refine wpList_appg rfl _ _ rfl rfl rfl rfl HAP1.out ?_)
      clear HAP1
      go_loopw [8, 36] (fun u i wr => ∃ j : Nat, i = .int .i64 j ∧ j ≤ k ∧ Hid (wr.ownsRow w.heap.size 3 1 u N (ils (chn ss xs j) N) ∧ Below w.heap.size w wr)) (fun _ i _ => k - (intOf i).toNat)
      case atStart => exact ⟨0, rfl, by omega, O1.out, B10.out⟩
      case round =>
        obtain ⟨j, rfl, hj, hrel⟩ := hrel
        obtain ⟨hO, hB⟩ := hrel.out
        have HO : Hid (wr.ownsRow w.heap.size 3 1 u8 N (ils (chn ss xs j) N)) := hO
        have HB : Hid (Below w.heap.size w wr) := hB
        clear hrel hO
        by_cases h2 : j < k
        · obtain ⟨b, off, rfl, hlt, hcell⟩ := HC.out (by omega)
          have hb := hB
          obtain ⟨c0, c1, c2, c3, c4⟩ := hcell j h2
          obtain ⟨c0, c1, c2, c3, c4⟩ : wr.cell? ⟨b, off + j * 5, none⟩ = some (.int .i64 (ss j).b0) ∧ wr.cell? ⟨b, off + j * 5 + 1, none⟩ = some (.int .i64 (ss j).b1) ∧ wr.cell? ⟨b, off + j * 5 + 2, none⟩ = some (.int .i64 (ss j).b2) ∧ wr.cell? ⟨b, off + j * 5 + 3, none⟩ = some (.int .i64 (ss j).a1) ∧ wr.cell? ⟨b, off + j * 5 + 4, none⟩ = some (.int .i64 (ss j).a2) := ⟨(hb.cell (p := ⟨b, off + j * 5, none⟩) hlt).trans c0, (hb.cell (p := ⟨b, off + j * 5 + 1, none⟩) hlt).trans c1, (hb.cell (p := ⟨b, off + j * 5 + 2, none⟩) hlt).trans c2, (hb.cell (p := ⟨b, off + j * 5 + 3, none⟩) hlt).trans c3, (hb.cell (p := ⟨b, off + j * 5 + 4, none⟩) hlt).trans c4⟩
          clear hcell hlt hb hB
          have RK : Hid (Rk ((wr.alloc (.cells #[.int .i64 (ss j).b0, .int .i64 (ss j).b1, .int .i64 (ss j).b2, .int .i64 (ss j).a1, .int .i64 (ss j).a2] 30)).alloc (.cells #[.int .i64 (ss j).b0, .int .i64 (ss j).b1, .int .i64 (ss j).b2, .int .i64 (ss j).a1, .int .i64 (ss j).a2, .int .i64 0, .int .i64 0, .int .i64 0, .int .i64 0, .int .i64 0] 55)) (wr.heap.size + 1) (ss j) pz) := by
            have hh := Rc.new (wr.alloc (.cells #[.int .i64 (ss j).b0, .int .i64 (ss j).b1, .int .i64 (ss j).b2, .int .i64 (ss j).a1, .int .i64 (ss j).a2] 30)) (ss j).b0 (ss j).b1 (ss j).b2 (ss j).a1 (ss j).a2 0 0 0 0 0 55
            rw [show (wr.alloc (.cells #[.int .i64 (ss j).b0, .int .i64 (ss j).b1, .int .i64 (ss j).b2, .int .i64 (ss j).a1, .int .i64 (ss j).a2] 30)).heap.size = wr.heap.size + 1 by simp] at hh
            exact hh
          have BX : Hid (Below wr.heap.size wr ((wr.alloc (.cells #[.int .i64 (ss j).b0, .int .i64 (ss j).b1, .int .i64 (ss j).b2, .int .i64 (ss j).a1, .int .i64 (ss j).a2] 30)).alloc (.cells #[.int .i64 (ss j).b0, .int .i64 (ss j).b1, .int .i64 (ss j).b2, .int .i64 (ss j).a1, .int .i64 (ss j).a2, .int .i64 0, .int .i64 0, .int .i64 0, .int .i64 0, .int .i64 0] 55))) := bstep (below_one _ _) (below_one _ _)
          have SX : Hid (((wr.alloc (.cells #[.int .i64 (ss j).b0, .int .i64 (ss j).b1, .int .i64 (ss j).b2, .int .i64 (ss j).a1, .int .i64 (ss j).a2] 30)).alloc (.cells #[.int .i64 (ss j).b0, .int .i64 (ss j).b1, .int .i64 (ss j).b2, .int .i64 (ss j).a1, .int .i64 (ss j).a2, .int .i64 0, .int .i64 0, .int .i64 0, .int .i64 0, .int .i64 0] 55)).heap.size = wr.heap.size + 2) := by show _ = _; simp
          go_wp2_with (go_at_call 26; (with_reducible refine (iirs_run (il_of_own (own_below HO.out BX.out)) hn (chn_wth HG.out.2.1.2 j) (HG.out.2.2 j h2) pz_ok RK.out (fun hn0 b off n' c e => by have := Il.at (il_of_own HO.out) hn0 e; omega)).mono ?_); rintro e w3 ⟨u, rfl, h5, _, h7⟩; have O3 : Hid (w3.ownsRow w.heap.size 3 1 u N (ils (chn ss xs (j + 1)) N)) := own_base h5 (by have := SX.out; have := HB.out.size; omega); have B3 : Hid (Below w.heap.size w w3) := Kd.below (bstep HB.out BX.out) h7 (by have := SX.out; have := HB.out.size; omega) (by rintro g rfl; have := HB.out.size; omega); clear h5 h7)
          go_roundw
          case rel => exact ⟨j + 1, by go_num, by omega, O3.out, B3.out⟩
          case measure => simp [intOf]; omega
        · obtain rfl : j = k := by omega
          go_wp2
          refine bodyPost_ret (v := .tuple #[u8, .bool true]) (by simp [results, Try.results17, go_sem]) rfl ?_
          exact ⟨_, rfl, HO.out, HB.out⟩

set_option maxHeartbeats 4000000 in
theorem iChain_bad {w : World} {lv v : Value} {n N B : Nat} {ss : Nat → Se} {xs : Nat → Int} (hl : Il5 w lv n ss) (hv : w.ownsRow B 3 1 v N (ils xs N)) (hn : N ≤ 1048576) (hn2 : n ≤ 1048576) (hg : ¬ GC ss n N xs) (ys : Nat → Int) :
    Calls Try.prog 17 #[lv, v] w fun e w' => Pch w w' e 0 ys false := by
  have HG : Hid (¬ GC ss n N xs) := hg
  have i3 := iMds_any (il_of_own hv) hn
  obtain ⟨ao, cap, rfl, hcap, hc⟩ := hl
  have HC : Hid (0 < n → ∃ b off, ao = some ⟨b, off, none⟩ ∧ b < w.heap.size ∧ ∀ k, k < n → w.cell? ⟨b, off + k * 5, none⟩ = some (.int .i64 (ss k).b0) ∧ w.cell? ⟨b, off + k * 5 + 1, none⟩ = some (.int .i64 (ss k).b1) ∧ w.cell? ⟨b, off + k * 5 + 2, none⟩ = some (.int .i64 (ss k).b2) ∧ w.cell? ⟨b, off + k * 5 + 3, none⟩ = some (.int .i64 (ss k).a1) ∧ w.cell? ⟨b, off + k * 5 + 4, none⟩ = some (.int .i64 (ss k).a2)) := hc
  have HN : Hid (Pch w (w.alloc (.cells #[] 3)) (.returned (.tuple #[.slice (some ⟨w.heap.size, 0, none⟩) 0 0, .bool false])) 0 ys false) := ⟨_, rfl, nil_own w ys, below_one _ _⟩
  clear hc hg hv
  by_cases h64 : n ≤ 64
  · by_cases hm : Mds N xs
    · rw [decide_eq_true hm] at i3
      have HM : Hid (Mds N xs) := hm
      clear hm
      go_enter Try.func17, Try.ntmps17
      go_wp2_with (go_at_call 25; (with_reducible refine i3.mono ?_); rintro e w' ⟨rfl, hw⟩; obtain rfl := hw.symm)
      go_loopw [22] (fun i wr => ∃ k : Nat, i = .int .i64 k ∧ k ≤ n ∧ Hid (Below w.heap.size w wr ∧ ∀ q, q < k → (ss q).ok)) (fun i _ => n - (intOf i).toNat)
      case atStart => exact ⟨0, rfl, by omega, Below.refl _ _, fun q hq => by omega⟩
      case round =>
        obtain ⟨k, rfl, hk, hrel⟩ := hrel
        by_cases h1 : k < n
        · obtain ⟨b, off, rfl, hlt, hcell⟩ := HC.out (by omega)
          have hb := hrel.out.1
          obtain ⟨c0, c1, c2, c3, c4⟩ := hcell k h1
          obtain ⟨c0, c1, c2, c3, c4⟩ : wr.cell? ⟨b, off + k * 5, none⟩ = some (.int .i64 (ss k).b0) ∧ wr.cell? ⟨b, off + k * 5 + 1, none⟩ = some (.int .i64 (ss k).b1) ∧ wr.cell? ⟨b, off + k * 5 + 2, none⟩ = some (.int .i64 (ss k).b2) ∧ wr.cell? ⟨b, off + k * 5 + 3, none⟩ = some (.int .i64 (ss k).a1) ∧ wr.cell? ⟨b, off + k * 5 + 4, none⟩ = some (.int .i64 (ss k).a2) := ⟨(hb.cell (p := ⟨b, off + k * 5, none⟩) hlt).trans c0, (hb.cell (p := ⟨b, off + k * 5 + 1, none⟩) hlt).trans c1, (hb.cell (p := ⟨b, off + k * 5 + 2, none⟩) hlt).trans c2, (hb.cell (p := ⟨b, off + k * 5 + 3, none⟩) hlt).trans c3, (hb.cell (p := ⟨b, off + k * 5 + 4, none⟩) hlt).trans c4⟩
          have i1 := iSec_any (ss k)
          clear hcell hlt hb
          by_cases ho : (ss k).ok
          · rw [decide_eq_true ho] at i1
            have HK : Hid (∀ q, q < k + 1 → (ss q).ok) := fun q hq => by
              by_cases e : q = k
              · rw [e]; exact ho
              · exact hrel.out.2 q (by omega)
            clear ho
            go_wp2_with (go_at_call 23; (with_reducible refine (i1 _).mono ?_); rintro e w2 ⟨rfl, h2⟩; have B2 : Hid (Below w.heap.size w w2) := bstep (bstep hrel.out.1 (below_one _ _)) h2; clear h2)
            go_roundw
            case rel => exact ⟨k + 1, by go_num, by omega, B2.out, HK.out⟩
            case measure => simp [intOf]; omega
          · rw [decide_eq_false ho] at i1
            clear ho
            go_wp2_with (go_at_call 23; (with_reducible refine (i1 _).mono ?_); rintro e w2 ⟨rfl, h2⟩; have B2 : Hid (Below w.heap.size w w2) := bstep (bstep hrel.out.1 (below_one _ _)) h2; clear h2)
            refine bodyPost_ret (v := .tuple #[.slice (some ⟨w2.heap.size, 0, none⟩) 0 0, .bool false]) (by simp [results, Try.results17, go_sem]) rfl ?_
            exact ⟨_, rfl, own_base (nil_own w2 ys) B2.out.size, bstep B2.out (below_one _ _)⟩
        · obtain rfl : k = n := by omega
          exact absurd ⟨h64, HM.out, hrel.out.2⟩ HG.out
    · rw [decide_eq_false hm] at i3
      clear hm
      go_enter Try.func17, Try.ntmps17
      go_wp2_with (go_at_call 25; (with_reducible refine i3.mono ?_); rintro e w' ⟨rfl, hw⟩; obtain rfl := hw.symm)
      refine bodyPost_ret (v := .tuple #[.slice (some ⟨w.heap.size, 0, none⟩) 0 0, .bool false]) (by simp [results, Try.results17, go_sem]) rfl ?_
      exact HN.out
  · go_enter Try.func17, Try.ntmps17
    go_wp2
    refine bodyPost_ret (v := .tuple #[.slice (some ⟨w.heap.size, 0, none⟩) 0 0, .bool false]) (by simp [results, Try.results17, go_sem]) rfl ?_
    exact HN.out
end Go.Proofs.Ytmjgaocmmmcnfaa
