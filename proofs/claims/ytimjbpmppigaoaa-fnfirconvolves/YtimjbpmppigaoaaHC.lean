/- FnFirPieces: the law. -/
import Derived.Test.YtimjbpmppigaoaaHB
import Derived.Test.YtimjbpmppigaoaaTD
namespace Go.Proofs.Ytimjbpmppigaoaa
open Go.RowKit

set_option maxHeartbeats 1000000 in
theorem same_yes {w : World} {u v : Value} {n : Nat} {xs ys : Nat → Int} (hu : Il w u n xs) (hv : Il w v n ys) (hn : n ≤ 1048576) (he : ∀ k, k < n → xs k = ys k) : Calls Try.prog 10 #[u, v] w fun e w' => e = .returned (.bool true) ∧ Below w.heap.size w w' := by
  obtain ⟨ao, cap, rfl, hcap, hc⟩ := hu
  obtain ⟨ao2, cap2, rfl, hcap2, hc2⟩ := hv
  have HC : Hid (0 < n → ∃ b off, ao = some ⟨b, off, none⟩ ∧ b < w.heap.size ∧ ∀ k, k < n → w.cell? ⟨b, off + k, none⟩ = some (.int .i64 (xs k))) := hc
  have HC2 : Hid (0 < n → ∃ b off, ao2 = some ⟨b, off, none⟩ ∧ b < w.heap.size ∧ ∀ k, k < n → w.cell? ⟨b, off + k, none⟩ = some (.int .i64 (ys k))) := hc2
  have HE : Hid (∀ k, k < n → xs k = ys k) := he
  clear hc hc2 he
  go_enter Try.func10, Try.ntmps10
  go_wp2
  go_loopw [5] (fun i wr => ∃ k : Nat, i = .int .i64 k ∧ k ≤ n ∧ Hid (Below w.heap.size w wr)) (fun i _ => n - (intOf i).toNat)
  case atStart => exact ⟨0, rfl, by omega, Below.refl _ _⟩
  case round =>
    obtain ⟨k, rfl, hk, hrel⟩ := hrel
    by_cases h1 : k < n
    · obtain ⟨b, off, rfl, hlt, hcell⟩ := HC.out (by omega)
      obtain ⟨b2, off2, rfl, hlt2, hcell2⟩ := HC2.out (by omega)
      have c := (hrel.out.cell (p := ⟨b, off + k, none⟩) hlt).trans (hcell k h1)
      have c2 := (hrel.out.cell (p := ⟨b2, off2 + k, none⟩) hlt2).trans (hcell2 k h1)
      rw [← HE.out k h1] at c2
      clear hcell hcell2
      go_wp2_with (go_quiet (fail))
      go_roundw
      case rel => exact ⟨k + 1, by go_num, by omega, by first | exact hrel.out | exact below_drewN hrel.out _⟩
      case measure => simp [intOf]; omega
    · obtain rfl : k = n := by omega
      go_wp2
      go_ret
      exact ⟨rfl, hrel.out⟩

theorem il_lo {w : World} {ao : Option Addr} {n cap p : Nat} {xs : Nat → Int} (h : Il w (.slice ao n cap) n xs) (hp : p ≤ n) : Il w (.slice ao p cap) p xs := by
  obtain ⟨ao', cap', he, hcap, hc⟩ := h
  injection he with e1 e2 e3
  subst e1 e3
  exact ⟨ao, cap, rfl, by omega, fun h0 => by
    obtain ⟨b, off, hb, hlt, hcell⟩ := hc (by omega)
    exact ⟨b, off, hb, hlt, fun k hk => hcell k (by omega)⟩⟩

theorem at_x {w : World} {a : Option Addr} {n cap : Nat} (hr : Row w a n) (hn : n ≤ 1048576) : Calls Try.prog 11 #[.slice a n cap, .int .i64 2] w fun e w' => ∃ m : Int, (0 ≤ m ∧ m ≤ 255) ∧ e = .returned (.int .i64 m) ∧ w' = w := by
  by_cases h : 2 < n
  · obtain ⟨b, off, z, rfl, hb, hc, hz0, hz1⟩ := hr 2 h
    clear hr hb
    go_enter Try.func11, Try.ntmps11
    go_wp2
    go_ret
    exact ⟨z, by omega, rfl, rfl⟩
  · clear hr
    go_enter Try.func11, Try.ntmps11
    go_wp2
    go_ret
    exact ⟨(14 + (n : Int)) % 256, by omega, rfl, rfl⟩

/-- Behind k samples, j more. -/
theorem pst_more (st xs : Nat → Int) (k : Nat) : ∀ j, pst (pst st xs k) (fun i => xs (k + i)) j = pst st xs (k + j)
  | 0 => rfl
  | j + 1 => by
    show shf (xs (k + j)) (pst (pst st xs k) (fun i => xs (k + i)) j) = shf (xs (k + j)) (pst st xs (k + j))
    rw [pst_more st xs k j]

theorem fir_more (n : Nat) (f st xs : Nat → Int) (k j : Nat) : fir n f (pst st xs k) (fun i => xs (k + i)) j = fir n f st xs (k + j) := by
  unfold fir
  rw [pst_more]

theorem ils_two (g h : Nat → Int) {k N : Nat} (hk : k ≤ N) (e : ∀ j, j < N - k → h j = g (k + j)) : ils g k ++ ils h (N - k) = ils g N := by
  apply List.ext_getElem?
  intro i
  by_cases h1 : i < k
  · rw [List.getElem?_append_left (by rw [ils_length]; exact h1), ils_get h1, ils_get (by omega)]
  · rw [List.getElem?_append_right (by rw [ils_length]; omega), ils_length]
    by_cases h2 : i < N
    · rw [ils_get (by omega), ils_get h2, e _ (by omega)]
      congr 3
      omega
    · rw [List.getElem?_eq_none (by rw [ils_length]; omega), List.getElem?_eq_none (by rw [ils_length]; omega)]

theorem app_run {w : World} {base B2 n m : Nat} {v xv : Value} {xs : List Value} {ys : Nat → Int} (hown : w.ownsRow base 3 1 v n xs) (hsrc : w.ownsRow B2 3 1 xv m (ils ys m)) (hnm : n + m ≤ 1048576) (hbase : base ≤ w.heap.size) :
    ∃ v' w', (Builtin.append_ #[24, 24] 24 #[v, xv]).run Try.prog w = .ok v' w' ∧ w'.ownsRow base 3 1 v' (n + m) (xs ++ ils ys m) ∧ w.grownBy w' v.ownBlock := by
  obtain ⟨i0, hi, hz0, hz1, hz2⟩ := info_parts Try.info3
  rcases hsrc.2 with ⟨rfl, rfl⟩ | ⟨g, cap, cur, rfl, hb, hg, hcap, _⟩
  · exact ⟨v, w, run_append_owned_none (P := Try.prog) w base 24 24 3 i0 1 Try.underlying24 hi v n xs hown, by simpa [ils] using hown, grown_refl _ _⟩
  · obtain ⟨v', w', h1, h2, h3, _⟩ := run_append_own (P := Try.prog) w base 24 24 3 i0 (.int .i64 0) 1 8 Try.underlying24 hi hz0 hz1 hz2 rfl (by decide) v n xs hown ⟨g, 0, none⟩ m cap (ils ys m) (by rw [ils_length, Nat.mul_one]) (hsrc.cells rfl) (ils_one _ _) (by unfold maxLen; omega) (by omega) hbase
    exact ⟨v', w', h1, h2, h3⟩

theorem wpList_appg {w w' : World} {v xv v' : Value} {ops : Array Oper} {rest : List Oper} {o : Oper} {a : Act} {Q : Exit → Act → World → Prop} (hw : Region.wanted o (yielded ops a.tmps) = true) (s x : Operand)
    (ho : o.op = .call { callee := .builtin .append, args := #[s, x], argTypes := #[24, 24] }) (hty : o.type = 24) (hs : a.eval s = v) (hx : a.eval x = xv) (hr : (Builtin.append_ #[24, 24] 24 #[v, xv]).run Try.prog w = .ok v' w') (h : wpList Try.prog ops Q rest (a.put o.dst v') w') : wpList Try.prog ops Q (o :: rest) a w := by
  refine wpList_step fun K hK => ?_
  simp only [hw, if_true]
  unfold Oper.wp execOp
  simp only [ho, resolve, invoke, builtin, Sem.run_bind, Sem.run_pure, Result.andThen_ok, List.map_toArray, List.map_cons, List.map_nil, hs, hx, hty, hr]
  exact hK _ _ h

theorem lits (W : World) : Il (((W.alloc (.cells #[.int .i64 2, .int .i64 1] 3)).alloc (.cells #[.int .i64 5] 3)).alloc (.cells #[.int .i64 3] 3)) (.slice (some ⟨W.heap.size, 0, none⟩) 2 2) 2 (fun i => if i = 0 then 2 else 1) ∧
    (((W.alloc (.cells #[.int .i64 2, .int .i64 1] 3)).alloc (.cells #[.int .i64 5] 3)).alloc (.cells #[.int .i64 3] 3)).ownsRow (W.heap.size + 1) 3 1 (.slice (some ⟨W.heap.size + 1, 0, none⟩) 1 1) 1 (ils (fun _ => 5) 1) ∧
    Il (((W.alloc (.cells #[.int .i64 2, .int .i64 1] 3)).alloc (.cells #[.int .i64 5] 3)).alloc (.cells #[.int .i64 3] 3)) (.slice (some ⟨W.heap.size + 1 + 1, 0, none⟩) 1 1) 1 (fun _ => 3) ∧
    Below W.heap.size W (((W.alloc (.cells #[.int .i64 2, .int .i64 1] 3)).alloc (.cells #[.int .i64 5] 3)).alloc (.cells #[.int .i64 3] 3)) := by
  have b1 := below_one W (.cells #[.int .i64 2, .int .i64 1] 3)
  have b2 := below_one (W.alloc (.cells #[.int .i64 2, .int .i64 1] 3)) (.cells #[.int .i64 5] 3)
  have b3 := below_one ((W.alloc (.cells #[.int .i64 2, .int .i64 1] 3)).alloc (.cells #[.int .i64 5] 3)) (.cells #[.int .i64 3] 3)
  have s1 : (W.alloc (.cells #[.int .i64 2, .int .i64 1] 3)).heap.size = W.heap.size + 1 := by simp
  have s2 : ((W.alloc (.cells #[.int .i64 2, .int .i64 1] 3)).alloc (.cells #[.int .i64 5] 3)).heap.size = W.heap.size + 1 + 1 := by simp
  have o1 := World.ownsRow_lit (base := W.heap.size) (e := 3) (size := 1) W #[.int .i64 2, .int .i64 1] 2 (Nat.le_refl _) (by unfold maxLen; omega) rfl
  have o2 := one_own (W.alloc (.cells #[.int .i64 2, .int .i64 1] 3)) 5
  have o3 := one_own ((W.alloc (.cells #[.int .i64 2, .int .i64 1] 3)).alloc (.cells #[.int .i64 5] 3)) 3
  rw [s1] at o2
  rw [s2] at o3
  exact ⟨(il_of_own (xs := fun i => if i = 0 then 2 else 1) o1).below (bstep b2 b3), own_below o2 b3, il_of_own (xs := fun _ => 3) o3, bstep (bstep b1 b2) b3⟩

theorem lit11 (W : World) : Il (W.alloc (.cells #[.int .i64 11] 3)) (.slice (some ⟨W.heap.size, 0, none⟩) 1 1) 1 (fun _ => 11) := il_of_own (xs := fun _ => 11) (one_own W 11)

theorem gf_lit : GF 2 1 1 (fun i => if i = 0 then 2 else 1) (fun _ => 5) (fun _ => 3) := by
  refine ⟨⟨⟨⟨by omega, by omega⟩, fun k _ => ?_⟩, ⟨by omega, fun k _ => by dsimp only; omega⟩, rfl⟩, by omega, fun k _ => by dsimp only; omega⟩
  dsimp only
  split <;> omega

/-- What stands behind the first answer. -/
structure Fb (w X : World) (tv sv lv u0 u1 : Value) (n m N n0 n1 : Nat) (f st xs y0 y1 : Nat → Int) : Prop where
  t : Il X tv n f
  s : ∃ B, X.ownsRow B 3 1 sv m (ils st m)
  l : Il X lv N xs
  i0 : Il X u0 n0 y0
  i1 : Il X u1 n1 y1
  bw : Below w.heap.size w X

theorem Fb.below {w X X' : World} {tv sv lv u0 u1 : Value} {n m N n0 n1 : Nat} {f st xs y0 y1 : Nat → Int} (h : Fb w X tv sv lv u0 u1 n m N n0 n1 f st xs y0 y1) (hb : Below X.heap.size X X') : Fb w X' tv sv lv u0 u1 n m N n0 n1 f st xs y0 y1 := by
  obtain ⟨B, hs⟩ := h.s
  exact ⟨h.t.below hb, ⟨B, own_below hs hb⟩, h.l.below hb, h.i0.below hb, h.i1.below hb, bstep h.bw hb⟩

set_option maxRecDepth 20000 in
set_option maxHeartbeats 8000000 in
theorem walk_pieces {w : World} {a : Option Addr} {len cap : Nat} (hr : Row w a len) (hlen : len ≤ 9223372036854775807) : Calls Try.prog 3 #[.slice a len cap] w fun e w' => e = .returned (.bool true) ∧ Below w.heap.size w w' := by
  have ib := big_x (w := w) a len cap hlen
  by_cases hl : len ≤ 1048576
  · rw [decide_eq_false (by omega)] at ib
    have HR : Hid (Row w a len) := hr
    have id := dfir_x (cap := cap) hr hl
    clear hr
    go_enter Try.func3, Try.ntmps3
    go_wp2_with (first
      | (go_at_call 5; (with_reducible refine ib.mono ?_); rintro e w' ⟨rfl, hw⟩; obtain rfl := hw.symm)
      | (go_at_call 6; (with_reducible refine id.mono ?_); rintro e w1 ⟨tv, sv, lv, rfl, hq⟩))
    obtain ⟨⟨n, f, hn, ht⟩, ⟨m, st, B, hm, hs⟩, ⟨N, xs, hN, hx⟩, hb⟩ := hq.out
    clear hq id ib
    have HT : Hid (Il w1 tv n f) := ht
    have HS : Hid (w1.ownsRow B 3 1 sv m (ils st m)) := hs
    have HL : Hid (Il w1 lv N xs) := hx
    have B1 : Hid (Below w.heap.size w w1) := hb
    obtain ⟨lo, lc, rfl, hlc, _⟩ := hx
    clear ht hs hb
    by_cases h : GF n m N f st xs
    · have HG : Hid (GF n m N f st xs) := h
      clear h
      go_wp2_with (first
        | (go_at_call 7; (fail_if_success have := M1); refine (iFir_good HT.out HS.out HL.out HG.out).mono ?_; rintro e w2 ⟨u0, u1, rfl, q1, q2, _, q4⟩; have M1 : Hid True := trivial; have F2 : Hid (Fb w w2 tv sv (.slice lo N lc) u0 u1 n m N N m f st xs (fir n f st xs) (pst st xs N)) := ⟨HT.out.below q4, ⟨B, own_below HS.out q4⟩, HL.out.below q4, il_of_own q1, il_of_own q2, bstep B1.out q4⟩; clear q1 q2 q4)
        | (go_at_call 8; (obtain ⟨B', hs'⟩ := F2.out.s); refine (sFir_good F2.out.t hs' F2.out.l HG.out).mono ?_; rintro e w3 ⟨_, _, rfl, _, _, _, q4⟩; have F3 : Hid (Fb w w3 tv sv (.slice lo N lc) u0 u1 n m N N m f st xs (fir n f st xs) (pst st xs N)) := F2.out.below q4; clear q4 hs')
        | (go_at_call 9; (obtain ⟨B', hs'⟩ := F3.out.s); refine (iTurn_good F3.out.t hs' F3.out.l HG.out).mono ?_; rintro e w4 ⟨r0, r1, rfl, p1, p2, _, q4⟩; have F4 : Hid (Fb w w4 tv sv (.slice lo N lc) u0 u1 n m N N m f st xs (fir n f st xs) (pst st xs N)) := F3.out.below q4; have R4 : Hid (Il w4 r0 N (fir n f st xs) ∧ Il w4 r1 m (pst st xs N)) := ⟨il_of_own p1, il_of_own p2⟩; clear q4 hs' p1 p2)
        | (go_at_call 10; (fail_if_success have := M5); refine (same_yes R4.out.1 F4.out.i0 (by omega) (fun _ _ => rfl)).mono ?_; rintro e w5 ⟨rfl, q4⟩; have M5 : Hid True := trivial; have F5 : Hid (Fb w w5 tv sv (.slice lo N lc) u0 u1 n m N N m f st xs (fir n f st xs) (pst st xs N)) := F4.out.below q4; have R5 : Hid (Il w5 r1 m (pst st xs N)) := R4.out.2.below q4; clear q4)
        | (go_at_call 10; have Z := M5; (fail_if_success have := M6); refine (same_yes R5.out F5.out.i1 (by omega) (fun _ _ => rfl)).mono ?_; rintro e w6 ⟨rfl, q4⟩; have M6 : Hid True := trivial; have F6 : Hid (Fb w w6 tv sv (.slice lo N lc) u0 u1 n m N N m f st xs (fir n f st xs) (pst st xs N)) := F5.out.below q4; clear q4)
        | (go_at_call 11; refine (at_x (HR.out.below F6.out.bw) hl).mono ?_; rintro e w' ⟨m0, hm0, rfl, hw⟩; obtain rfl := hw.symm; obtain ⟨k, hk⟩ : ∃ k : Nat, m0 % ((N : Int) + 1) = (k : Int) := ⟨(m0 % ((N : Int) + 1)).toNat, (by have := Int.emod_nonneg m0 (show ((N : Int) + 1) ≠ 0 by omega); omega)⟩; have hkN : k ≤ N := (by have := Int.emod_lt_of_pos m0 (show (0 : Int) < (N : Int) + 1 by omega); omega); have hN0 : ¬ ((N : Int) + 1 = 0) := (by omega); have M7 : Hid True := trivial)
        | (go_at_call 7; have Z := M7; (fail_if_success have := M8); (obtain ⟨B', hs'⟩ := F6.out.s); refine (iFir_good F6.out.t hs' (il_lo F6.out.l hkN) ⟨HG.out.1, Nat.le_trans hkN HG.out.2.1, fun j hj => HG.out.2.2 j (by omega)⟩).mono ?_; rintro e w8 ⟨a0, mid, rfl, q1, q2, _, q4⟩; have M8 : Hid True := trivial; have F8 : Hid (Fb w w8 tv sv (.slice lo N lc) u0 u1 n m N N m f st xs (fir n f st xs) (pst st xs N)) := F6.out.below q4; have A8 : Hid (w8.ownsRow w6.heap.size 3 1 a0 k (ils (fir n f st xs) k)) := q1; have MID : Hid (w8.ownsRow w6.heap.size 3 1 mid m (ils (pst st xs k) m)) := q2; clear q1 q2 q4 hs'))
      · have t3 := iFir_good F8.out.t MID.out (show Il w8 (.slice lo (N - k) 0) (N - k) (fun j => xs (k + j)) from ⟨lo, 0, rfl, by omega, fun h => absurd h (by omega)⟩) (show GF n m (N - k) f (pst st xs k) (fun j => xs (k + j)) from ⟨⟨HG.out.1.1, ⟨HG.out.1.2.1.1, pst_wth HG.out.1.2.1.2 HG.out.2.2 hkN⟩, HG.out.1.2.2⟩, Nat.le_trans (Nat.sub_le _ _) HG.out.2.1, fun j hj => HG.out.2.2 (k + j) (by omega)⟩)
        refine t3.mono ?_
        rintro e w9 ⟨b0, dn, rfl, q1, q2, _, q4⟩
        have F9 : Hid (Fb w w9 tv sv (.slice lo N _) u0 u1 n m N N m f st xs (fir n f st xs) (pst st xs N)) := F8.out.below q4
        have D9 : Hid (Il w9 dn m (pst st xs N)) := by
          have := il_of_own q2
          rw [pst_more, show k + (N - k) = N by omega] at this
          exact this
        have bE : Below w9.heap.size w9 (w9.alloc (.cells #[] 3)) := below_one _ _
        have sE : (w9.alloc (.cells #[] 3)).heap.size = w9.heap.size + 1 := by simp
        obtain ⟨v1, w10, hap1, ho1, hg1⟩ := app_run (own_empty w9 3 1) (own_below (own_below A8.out q4) bE) (by omega) (by omega)
        have b10 : Below w9.heap.size w9 w10 := grown_below bE (Nat.le_refl _) (own_empty w9 3 1) hg1
        obtain ⟨v2, w11, hap2, ho2, hg2⟩ := app_run ho1 (own_below q1 b10) (by omega) b10.size
        have b11 : Hid (Below w9.heap.size w9 w11) := grown_below b10 (Nat.le_refl _) ho1 hg2
        have I2 : Hid (Il w11 v2 N (fir n f st xs)) := by
          have e1 : (0 + k) + (N - k) = N := by omega
          rw [e1, show ([] ++ ils (fir n f st xs) k) ++ ils (fir n f (pst st xs k) (fun j => xs (k + j))) (N - k) = ils (fir n f st xs) N from ils_two _ _ hkN (fun j _ => fir_more n f st xs k j)] at ho2
          exact il_of_own ho2
        have HAP1 : Hid _ := hap1
        have HAP2 : Hid _ := hap2
        clear q1 q2 q4 t3 ho1 hg1 ho2 hg2 bE sE b10 hap1 hap2
        go_wp2_with (first
          | (at_builtin; (fail_if_success have := MA1); refine wpList_appg rfl _ _ rfl rfl rfl rfl HAP1.out ?_; have MA1 : Hid True := trivial)
          | (at_builtin; have Z := MA1; (fail_if_success have := MA2); refine wpList_appg rfl _ _ rfl rfl rfl rfl HAP2.out ?_; have MA2 : Hid True := trivial)
          | (go_at_call 10; (fail_if_success have := M10); refine (same_yes I2.out (F9.out.i0.below b11.out) (by omega) (fun _ _ => rfl)).mono ?_; rintro e w12 ⟨rfl, q5⟩; have M10 : Hid True := trivial; have B12 : Hid (Below w9.heap.size w9 w12) := bstep b11.out q5; clear q5)
          | (go_at_call 10; have Z := M10; refine (same_yes (D9.out.below B12.out) (F9.out.i1.below B12.out) (by omega) (fun _ _ => rfl)).mono ?_; rintro e w13 ⟨rfl, q5⟩; have B13 : Hid (Below w.heap.size w w13) := bstep (bstep F9.out.bw B12.out) q5; clear q5))
        go_ret
        exact ⟨rfl, B13.out⟩
      · have t3 := iFir_good F8.out.t MID.out (il_hi F8.out.l hkN (Option.map (fun x => x.add k) lo) (fun hlt b off e => by subst e; simp [Addr.add])) (show GF n m (N - k) f (pst st xs k) (fun j => xs (k + j)) from ⟨⟨HG.out.1.1, ⟨HG.out.1.2.1.1, pst_wth HG.out.1.2.1.2 HG.out.2.2 hkN⟩, HG.out.1.2.2⟩, Nat.le_trans (Nat.sub_le _ _) HG.out.2.1, fun j hj => HG.out.2.2 (k + j) (by omega)⟩)
        refine t3.mono ?_
        rintro e w9 ⟨b0, dn, rfl, q1, q2, _, q4⟩
        have F9 : Hid (Fb w w9 tv sv (.slice lo N lc) u0 u1 n m N N m f st xs (fir n f st xs) (pst st xs N)) := F8.out.below q4
        have D9 : Hid (Il w9 dn m (pst st xs N)) := by
          have := il_of_own q2
          rw [pst_more, show k + (N - k) = N by omega] at this
          exact this
        have bE : Below w9.heap.size w9 (w9.alloc (.cells #[] 3)) := below_one _ _
        have sE : (w9.alloc (.cells #[] 3)).heap.size = w9.heap.size + 1 := by simp
        obtain ⟨v1, w10, hap1, ho1, hg1⟩ := app_run (own_empty w9 3 1) (own_below (own_below A8.out q4) bE) (by omega) (by omega)
        have b10 : Below w9.heap.size w9 w10 := grown_below bE (Nat.le_refl _) (own_empty w9 3 1) hg1
        obtain ⟨v2, w11, hap2, ho2, hg2⟩ := app_run ho1 (own_below q1 b10) (by omega) b10.size
        have b11 : Hid (Below w9.heap.size w9 w11) := grown_below b10 (Nat.le_refl _) ho1 hg2
        have I2 : Hid (Il w11 v2 N (fir n f st xs)) := by
          have e1 : (0 + k) + (N - k) = N := by omega
          rw [e1, show ([] ++ ils (fir n f st xs) k) ++ ils (fir n f (pst st xs k) (fun j => xs (k + j))) (N - k) = ils (fir n f st xs) N from ils_two _ _ hkN (fun j _ => fir_more n f st xs k j)] at ho2
          exact il_of_own ho2
        have HAP1 : Hid _ := hap1
        have HAP2 : Hid _ := hap2
        clear q1 q2 q4 t3 ho1 hg1 ho2 hg2 bE sE b10 hap1 hap2
        go_wp2_with (first
          | (at_builtin; (fail_if_success have := MA1); refine wpList_appg rfl _ _ rfl rfl rfl rfl HAP1.out ?_; have MA1 : Hid True := trivial)
          | (at_builtin; have Z := MA1; (fail_if_success have := MA2); refine wpList_appg rfl _ _ rfl rfl rfl rfl HAP2.out ?_; have MA2 : Hid True := trivial)
          | (go_at_call 10; (fail_if_success have := M10); refine (same_yes I2.out (F9.out.i0.below b11.out) (by omega) (fun _ _ => rfl)).mono ?_; rintro e w12 ⟨rfl, q5⟩; have M10 : Hid True := trivial; have B12 : Hid (Below w9.heap.size w9 w12) := bstep b11.out q5; clear q5)
          | (go_at_call 10; have Z := M10; refine (same_yes (D9.out.below B12.out) (F9.out.i1.below B12.out) (by omega) (fun _ _ => rfl)).mono ?_; rintro e w13 ⟨rfl, q5⟩; have B13 : Hid (Below w.heap.size w w13) := bstep (bstep F9.out.bw B12.out) q5; clear q5))
        go_ret
        exact ⟨rfl, B13.out⟩
    · have HG : Hid (¬ GF n m N f st xs) := h
      clear h
      have hN2 : N ≤ 1048576 := by omega
      have hn2 : n ≤ 1048576 := by omega
      have hm2 : m ≤ 1048576 := by omega
      go_wp2_with (first
        | (go_at_call 7; (fail_if_success have := M1); refine (iFir_bad HT.out (il_of_own HS.out) HL.out hn2 hm2 hN2 HG.out (fun _ => 0) (fun _ => 0)).mono ?_; rintro e w2 ⟨u0, u1, rfl, q1, q2, _, q4⟩; have M1 : Hid True := trivial; have F2 : Hid (Fb w w2 tv sv (.slice lo N lc) u0 u1 n m N 0 0 f st xs (fun _ => 0) (fun _ => 0)) := ⟨HT.out.below q4, ⟨B, own_below HS.out q4⟩, HL.out.below q4, il_of_own q1, il_of_own q2, bstep B1.out q4⟩; clear q1 q2 q4)
        | (go_at_call 8; (obtain ⟨B', hs'⟩ := F2.out.s); refine (sFir_bad F2.out.t (il_of_own hs') F2.out.l hn2 hm2 hN2 HG.out (fun _ => 0) (fun _ => 0)).mono ?_; rintro e w3 ⟨_, _, rfl, _, _, _, q4⟩; have F3 : Hid (Fb w w3 tv sv (.slice lo N lc) u0 u1 n m N 0 0 f st xs (fun _ => 0) (fun _ => 0)) := F2.out.below q4; clear q4 hs')
        | (go_at_call 9; (obtain ⟨B', hs'⟩ := F3.out.s); refine (iTurn_bad F3.out.t (il_of_own hs') F3.out.l hn2 hm2 hN2 HG.out (fun _ => 0) (fun _ => 0)).mono ?_; rintro e w4 ⟨r0, r1, rfl, p1, p2, _, q4⟩; have F4 : Hid (Fb w w4 tv sv (.slice lo N lc) u0 u1 n m N 0 0 f st xs (fun _ => 0) (fun _ => 0)) := F3.out.below q4; have R4 : Hid (Il w4 r0 0 (fun _ => 0) ∧ Il w4 r1 0 (fun _ => 0)) := ⟨il_of_own p1, il_of_own p2⟩; clear q4 hs' p1 p2)
        | (go_at_call 10; (fail_if_success have := M5); refine (same_yes R4.out.1 F4.out.i0 (by omega) (fun _ _ => rfl)).mono ?_; rintro e w5 ⟨rfl, q4⟩; have M5 : Hid True := trivial; have F5 : Hid (Fb w w5 tv sv (.slice lo N lc) u0 u1 n m N 0 0 f st xs (fun _ => 0) (fun _ => 0)) := F4.out.below q4; have R5 : Hid (Il w5 r1 0 (fun _ => 0)) := R4.out.2.below q4; clear q4)
        | (go_at_call 10; have Z := M5; (fail_if_success have := M6); refine (same_yes R5.out F5.out.i1 (by omega) (fun _ _ => rfl)).mono ?_; rintro e w6 ⟨rfl, q4⟩; have M6 : Hid True := trivial; have B6 : Hid (Below w.heap.size w w6) := bstep F5.out.bw q4; clear q4)
        | (go_at_call 7; have Z := M6; (fail_if_success have := M7); have LT := lits w6; refine (iFir_good LT.1 LT.2.1 LT.2.2.1 gf_lit).mono ?_; rintro e w7 ⟨y0, y1, rfl, q1, q2, _, q4⟩; have M7 : Hid True := trivial; have Y7 : Hid (Il w7 y0 1 (fir 2 (fun i => if i = 0 then 2 else 1) (fun _ => 5) (fun _ => 3))) := il_of_own q1; have B7 : Hid (Below w.heap.size w w7) := bstep (bstep B6.out LT.2.2.2) q4; clear q1 q2 q4 LT)
        | (go_at_call 10; have Z := M7; refine (same_yes (Y7.out.below (below_one _ _)) (lit11 w7) (by omega) (fun k hk => by obtain rfl : k = 0 := (by omega); rfl)).mono ?_; rintro e w8 ⟨rfl, q4⟩; have B8 : Hid (Below w.heap.size w w8) := bstep (bstep B7.out (below_one _ _)) q4; clear q4))
      go_ret
      exact ⟨rfl, B8.out⟩
  · rw [decide_eq_true (by omega)] at ib
    clear hr
    go_enter Try.func3, Try.ntmps3
    go_wp2_with (first
      | (go_at_call 5; (with_reducible refine ib.mono ?_); rintro e w' ⟨rfl, hw⟩; obtain rfl := hw.symm))
    go_ret
    exact ⟨rfl, Below.refl _ _⟩
end Go.Proofs.Ytimjbpmppigaoaa
