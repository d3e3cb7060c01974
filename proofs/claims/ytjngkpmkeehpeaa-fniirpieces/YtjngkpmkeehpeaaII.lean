/- FnIirPieces: pieces of samples; two lists held against each other. -/
import Derived.Test.YtjngkpmkeehpeaaIE
import Derived.Test.YtjngkpmkeehpeaaIH
namespace Go.Proofs.Ytjngkpmkeehpeaa
open Go.RowKit

set_option maxHeartbeats 2000000 in
theorem same_yes {w : World} {v u : Value} {n : Nat} {xs ys : Nat → Int} (hv : Il w v n xs) (hu : Il w u n ys) (hn : n ≤ 1048576) (he : ∀ k, k < n → xs k = ys k) :
    Calls Try.prog 8 #[v, u] w fun e w' => e = .returned (.bool true) ∧ Below w.heap.size w w' := by
  obtain ⟨ao, cap, rfl, hcap, hc⟩ := hv
  obtain ⟨bo, cap2, rfl, hcap2, hc2⟩ := hu
  have HC : Hid (0 < n → ∃ b off, ao = some ⟨b, off, none⟩ ∧ b < w.heap.size ∧ ∀ k, k < n → w.cell? ⟨b, off + k, none⟩ = some (.int .i64 (xs k))) := hc
  have HC2 : Hid (0 < n → ∃ b off, bo = some ⟨b, off, none⟩ ∧ b < w.heap.size ∧ ∀ k, k < n → w.cell? ⟨b, off + k, none⟩ = some (.int .i64 (xs k))) := fun h0 => by
    obtain ⟨b, off, h1, h2, h3⟩ := hc2 h0
    exact ⟨b, off, h1, h2, fun k hk => by rw [he k hk]; exact h3 k hk⟩
  clear hc hc2 he
  go_enter Try.func8, Try.ntmps8
  go_wp2
  go_loopw [5] (fun i wr => ∃ k : Nat, i = .int .i64 k ∧ k ≤ n ∧ Hid (Below w.heap.size w wr)) (fun i _ => n - (intOf i).toNat)
  case atStart => exact ⟨0, rfl, by omega, Below.refl _ _⟩
  case round =>
    obtain ⟨k, rfl, hk, hbl⟩ := hrel
    by_cases h1 : k < n
    · obtain ⟨b, off, rfl, hlt, hcell⟩ := HC.out (by omega)
      obtain ⟨b2, off2, rfl, hlt2, hcell2⟩ := HC2.out (by omega)
      have c1 : wr.cell? ⟨b, off + k, none⟩ = some (.int .i64 (xs k)) := (hbl.out.cell (p := ⟨b, off + k, none⟩) hlt).trans (hcell k h1)
      have c2 : wr.cell? ⟨b2, off2 + k, none⟩ = some (.int .i64 (xs k)) := (hbl.out.cell (p := ⟨b2, off2 + k, none⟩) hlt2).trans (hcell2 k h1)
      clear hcell hcell2
      go_wp2_with (go_quiet (fail))
      go_roundw
      case rel => exact ⟨k + 1, by go_num, by omega, below_drewN hbl.out _⟩
      case measure => simp [intOf]; omega
    · obtain rfl : k = n := by omega
      go_wp2
      go_ret
      exact ⟨rfl, hbl.out⟩

/-- A list that is written out. -/
theorem lit_il (W : World) (L : List Int) : Il (W.alloc (.cells (L.map (fun x => Value.int .i64 x)).toArray 3)) (.slice (some ⟨W.heap.size, 0, none⟩) L.length L.length) L.length (fun i => L.getD i 0) := by
  refine ⟨_, _, rfl, Nat.le_refl _, fun _ => ⟨W.heap.size, 0, rfl, by simp, fun k hk => ?_⟩⟩
  rw [Nat.zero_add]
  exact lit_cells W L 3 k hk

theorem il_lo {w : World} {ao : Option Addr} {n cap p : Nat} {xs : Nat → Int} (h : Il w (.slice ao n cap) n xs) (hp : p ≤ n) : Il w (.slice ao p cap) p xs := by
  obtain ⟨ao', cap', he, hcap, hc⟩ := h
  injection he with e1 e2 e3
  subst e1 e3
  exact ⟨ao, cap, rfl, by omega, fun h0 => by
    obtain ⟨b, off, hb, hlt, hcell⟩ := hc (by omega)
    exact ⟨b, off, hb, hlt, fun k hk => hcell k (by omega)⟩⟩

theorem il_hi {w : World} {lo : Option Addr} {N lc r : Nat} {xs : Nat → Int} (h : Il w (.slice lo N lc) N xs) (hr : r ≤ N) (ao : Option Addr) (hao : r < N → ∀ b off, lo = some ⟨b, off, none⟩ → ao = some ⟨b, off + r, none⟩) : Il w (.slice ao (N - r) (lc - r)) (N - r) (fun j => xs (r + j)) := by
  obtain ⟨lo', lc', e, hcap, hc⟩ := h
  injection e with e1 _ e3
  subst e1 e3
  refine ⟨ao, lc - r, rfl, by omega, fun h0 => ?_⟩
  obtain ⟨b, off, hlo, hlt, hcell⟩ := hc (by omega)
  refine ⟨b, off + r, hao (by omega) b off hlo, hlt, fun k hk => ?_⟩
  rw [show off + r + k = off + (r + k) by omega]
  exact hcell (r + k) (by omega)

theorem one_own (W : World) (x : Int) : (W.alloc (.cells #[.int .i64 x] 3)).ownsRow W.heap.size 3 1 (.slice (some ⟨W.heap.size, 0, none⟩) 1 1) 1 [.int .i64 x] := by
  have h := World.ownsRow_lit (base := W.heap.size) (e := 3) (size := 1) W #[.int .i64 x] 1 (Nat.le_refl _) (by unfold maxLen; omega) rfl
  exact h

theorem at_x {w : World} {a : Option Addr} {n cap : Nat} (hr : Row w a n) (hn : n ≤ 1048576) : Calls Try.prog 9 #[.slice a n cap, .int .i64 2] w fun e w' => ∃ m : Int, (0 ≤ m ∧ m ≤ 255) ∧ e = .returned (.int .i64 m) ∧ w' = w := by
  by_cases h : 2 < n
  · obtain ⟨b, off, z, rfl, hb, hc, hz0, hz1⟩ := hr 2 h
    clear hr hb
    go_enter Try.func9, Try.ntmps9
    go_wp2
    go_ret
    exact ⟨z, by omega, rfl, rfl⟩
  · clear hr
    go_enter Try.func9, Try.ntmps9
    go_wp2
    go_ret
    exact ⟨(14 + (n : Int)) % 256, by omega, rfl, rfl⟩

theorem ils_two (g h : Nat → Int) {k N : Nat} (hk : k ≤ N) (e : ∀ j, j < N - k → h j = g (k + j)) : ils g k ++ ils h (N - k) = ils g N := by
  apply List.ext_getElem?
  intro i
  by_cases h1 : i < k
  · rw [List.getElem?_append_left (by rw [ils_length]; exact h1), ils_get h1, ils_get (by omega)]
  · rw [List.getElem?_append_right (by rw [ils_length]; omega), ils_length]
    by_cases h2 : i < N
    · rw [ils_get (by omega), ils_get h2, e _ (by omega)]
      congr 3
      omega
    · rw [List.getElem?_eq_none (by rw [ils_length]; omega), List.getElem?_eq_none (by rw [ils_length]; omega)]

theorem app_run {w : World} {base B2 n m : Nat} {v xv : Value} {xs : List Value} {ys : Nat → Int} (hown : w.ownsRow base 3 1 v n xs) (hsrc : w.ownsRow B2 3 1 xv m (ils ys m)) (hnm : n + m ≤ 1048576) (hbase : base ≤ w.heap.size) :
    ∃ v' w', (Builtin.append_ #[28, 28] 28 #[v, xv]).run Try.prog w = .ok v' w' ∧ w'.ownsRow base 3 1 v' (n + m) (xs ++ ils ys m) ∧ w.grownBy w' v.ownBlock := by
  obtain ⟨i0, hi, hz0, hz1, hz2⟩ := info_parts Try.info3
  rcases hsrc.2 with ⟨rfl, rfl⟩ | ⟨g, cap, cur, rfl, hb, hg, hcap, _⟩
  · exact ⟨v, w, run_append_owned_none (P := Try.prog) w base 28 28 3 i0 1 Try.underlying28 hi v n xs hown, by simpa [ils] using hown, grown_refl _ _⟩
  · obtain ⟨v', w', h1, h2, h3, _⟩ := run_append_own (P := Try.prog) w base 28 28 3 i0 (.int .i64 0) 1 8 Try.underlying28 hi hz0 hz1 hz2 rfl (by decide) v n xs hown ⟨g, 0, none⟩ m cap (ils ys m) (by rw [ils_length, Nat.mul_one]) (hsrc.cells rfl) (ils_one _ _) (by unfold maxLen; omega) (by omega) hbase
    exact ⟨v', w', h1, h2, h3⟩

theorem wpList_appg {w w' : World} {v xv v' : Value} {ops : Array Oper} {rest : List Oper} {o : Oper} {a : Act} {Q : Exit → Act → World → Prop} (hw : Region.wanted o (yielded ops a.tmps) = true) (s x : Operand)
    (ho : o.op = .call { callee := .builtin .append, args := #[s, x], argTypes := #[28, 28] }) (hty : o.type = 28) (hs : a.eval s = v) (hx : a.eval x = xv) (hr : (Builtin.append_ #[28, 28] 28 #[v, xv]).run Try.prog w = .ok v' w') (h : wpList Try.prog ops Q rest (a.put o.dst v') w') : wpList Try.prog ops Q (o :: rest) a w := by
  refine wpList_step fun K hK => ?_
  simp only [hw, if_true]
  unfold Oper.wp execOp
  simp only [ho, resolve, invoke, builtin, Sem.run_bind, Sem.run_pure, Result.andThen_ok, List.map_toArray, List.map_cons, List.map_nil, hs, hx, hty, hr]
  exact hK _ _ h

theorem R5.lt {W : World} {g : Nat} {x1 x2 y1 y2 e : Int} (h : R5 W g x1 x2 y1 y2 e) : g < W.heap.size := World.block_lt_of_cell? W _ h.c0

theorem R5.call {W W' : World} {g : Nat} {x1 x2 y1 y2 e : Int} (h : R5 W g x1 x2 y1 y2 e) (hb : Below W.heap.size W W') : R5 W' g x1 x2 y1 y2 e := h.block (hb.block g h.lt)

/-- Five noughts that can be written. -/
def Zf (W : World) (g : Nat) : Prop := R5 W g 0 0 0 0 0 ∧ Fz W g

theorem Zf.call {W W' : World} {g : Nat} (h : Zf W g) (hb : Below W.heap.size W W') : Zf W' g := ⟨h.1.call hb, h.2.block (hb.block g h.1.lt)⟩

theorem Zf.new (w : World) (t : TypeId) : Zf (w.alloc (.cells #[.int .i64 0, .int .i64 0, .int .i64 0, .int .i64 0, .int .i64 0] t)) w.heap.size := ⟨R5.new _ _ _ _ _ _ _, Fz.new _ _ _ _ _ _ _⟩

theorem r5_put {W : World} {g : Nat} {a b c d e : Int} (h : R5 W g a b c d e) (p q r s u : Int) : R5 (((((W.setCell ⟨g, 0, none⟩ (.int .i64 p)).setCell ⟨g, 1, none⟩ (.int .i64 q)).setCell ⟨g, 2, none⟩ (.int .i64 r)).setCell ⟨g, 3, none⟩ (.int .i64 s)).setCell ⟨g, 4, none⟩ (.int .i64 u)) g p q r s u := by
  obtain ⟨c0, c1, c2, c3, c4⟩ := h
  exact ⟨by simp [go_sem, c0], by simp [go_sem, c1], by simp [go_sem, c2], by simp [go_sem, c3], by simp [go_sem, c4]⟩

theorem kd_put5 (W : World) (g : Nat) (p q r s u : Int) : Kd (fun k => k = g) W (((((W.setCell ⟨g, 0, none⟩ (.int .i64 p)).setCell ⟨g, 1, none⟩ (.int .i64 q)).setCell ⟨g, 2, none⟩ (.int .i64 r)).setCell ⟨g, 3, none⟩ (.int .i64 s)).setCell ⟨g, 4, none⟩ (.int .i64 u)) :=
  (((((Kd.refl (fun k => k = g) W).put (.inl rfl) 0 _).put (.inl rfl) 1 _).put (.inl rfl) 2 _).put (.inl rfl) 3 _).put (.inl rfl) 4 _

/-- Behind k samples, j more. -/
theorem pas_more (s : Se) (p : Pa) (xs : Nat → Int) (k : Nat) : ∀ j, pas s (pas s p xs k) (fun i => xs (k + i)) j = pas s p xs (k + j)
  | 0 => rfl
  | j + 1 => by
    show nx s (pas s (pas s p xs k) (fun i => xs (k + i)) j) (xs (k + j)) = nx s (pas s p xs (k + j)) (xs (k + j))
    rw [pas_more s p xs k j]

theorem irs_more (s : Se) (p : Pa) (xs : Nat → Int) (k j : Nat) : irs s (pas s p xs k) (fun i => xs (k + i)) j = irs s p xs (k + j) := by
  unfold irs
  rw [pas_more]

theorem gi_lo {s : Se} {p : Pa} {N k : Nat} {xs : Nat → Int} (h : GI s p N xs) (hk : k ≤ N) : GI s p k xs := ⟨h.1, Nat.le_trans hk h.2.1, fun j hj => h.2.2 j (by omega)⟩

theorem gi_hi {s : Se} {p : Pa} {N k : Nat} {xs : Nat → Int} (h : GI s p N xs) (hk : k ≤ N) : GI s (pas s p xs k) (N - k) (fun j => xs (k + j)) :=
  ⟨⟨h.1.1, pas_ok h.1.2 h.2.2 k hk⟩, Nat.le_trans (Nat.sub_le _ _) h.2.1, fun j hj => h.2.2 (k + j) (by omega)⟩

theorem gi_lit : GI ⟨16384, 0, 0, 0, 0⟩ ⟨0, 0, 0, 0, 0⟩ 1 (fun _ => 7) := by
  refine ⟨⟨fun k hk => ?_, fun k hk => ?_, by decide⟩, by omega, fun k _ => by dsimp only; omega⟩
  · match k, hk with
    | 0, _ => exact by decide
    | 1, _ => exact by decide
    | 2, _ => exact by decide
    | 3, _ => exact by decide
    | 4, _ => exact by decide
  · match k, hk with
    | 0, _ => exact by decide
    | 1, _ => exact by decide
    | 2, _ => exact by decide
    | 3, _ => exact by decide

theorem irs_lit : irs ⟨16384, 0, 0, 0, 0⟩ ⟨0, 0, 0, 0, 0⟩ (fun _ => 7) 0 = 7 := by decide

theorem il_seven (W : World) : Il (W.alloc (.cells #[.int .i64 7] 3)) (.slice (some ⟨W.heap.size, 0, none⟩) 1 1) 1 (fun _ => 7) := il_of_own (xs := fun _ => 7) (one_own W 7)
end Go.Proofs.Ytjngkpmkeehpeaa
