/- Draws of words; two lists that grow side by side. -/
import Derived.Test.YtnabpijackgmnaaD8
import Derived.Test.YtnabpijackgmnaaA3
namespace Go.Proofs.Ytnabpijackgmnaa
open Go.RowKit

/-- Where a row lies that was made longer: where it lay, or in a new block. -/
theorem app_block {P : Program} (w : World) (base : Nat) (t ty e : TypeId) (i : TypeInfo) (z : Value) (size bytes : Nat) (ht : P.underlying t = some (.slice e)) (hi : P.info? e = some i) (hz : i.zero = some z)
    (hsize : i.size = size) (hby : i.bytes = bytes) (v : Value) (n : Nat) (xs : List Value) (hown : w.ownsRow base e size v n xs)
    (a : Addr) (m c : Nat) (news : List Value) (hl : news.length = m * size) (hnews : ∀ j u, news[j]? = some u → w.cell? (a.add j) = some u) (h1 : ∀ u ∈ news, u.oneCell' = true)
    (h63 : n + m ≤ maxLen) (hbytes : (n + m) * bytes ≤ 140737488355328) (hm : 0 < m) {v' : Value} {w' : World} (hr : (Builtin.append_ #[t, t] ty #[v, .slice (some a) m c]).run P w = .ok v' w') :
    v'.ownBlock = v.ownBlock ∨ v'.ownBlock = some w.heap.size := by
  subst hsize
  subst hby
  have hsmall : n + m ≤ 9223372036854775807 := by simp only [maxLen] at h63; omega
  rcases hown.2 with ⟨rfl, rfl⟩ | ⟨g, cap, cur, rfl, hbg, hg, hnc, hcm, hcs, htake⟩
  · have h2 := run_append_nil (P := P) w t ty e i z ht hi hz a m c news hl hnews hm (by omega) (by have hb := hbytes; simp only [Nat.zero_add] at hb; omega)
    rw [h2] at hr
    injection hr with hr1 hr2
    rw [← hr1]
    exact .inr rfl
  · by_cases hroom : n + m ≤ cap
    · have hfit : n * i.size + news.length ≤ cur.size := by rw [hl, hcs, ← Nat.add_mul]; exact Nat.mul_le_mul_right _ hroom
      have h2 := run_append_room (P := P) w t ty e i ht hi g n cap cur hg a m c news hl hnews h1 hroom hfit
      rw [h2] at hr
      injection hr with hr1 hr2
      rw [← hr1]
      exact .inl rfl
    · have h2 := run_append_grow (P := P) w t ty e i z ht hi hz ⟨g, 0, none⟩ n cap xs hown.1 (hown.cells (g := g) rfl) a m c news hl hnews (by omega) (by omega) (growslice_fits (by omega) hbytes)
      rw [h2] at hr
      injection hr with hr1 hr2
      rw [← hr1]
      exact .inr rfl

/-- An append, and where the row lies behind it. -/
theorem wpList_app {P : Program} (w : World) {ops : Array Oper} {rest : List Oper} {o : Oper} {a : Act} {Q : Exit → Act → World → Prop} (hgd : o.guard = none) (s x : Operand) (t : TypeId)
    (ho : o.op = .call { callee := .builtin .append, args := #[s, x], argTypes := #[t, t] })
    (base : Nat) (e : TypeId) (i : TypeInfo) (z : Value) (size bytes : Nat) (ht : P.underlying t = some (.slice e)) (hi : P.info? e = some i) (hz : i.zero = some z)
    (hsize : i.size = size) (hby : i.bytes = bytes) (hzs : z.cells.size = size) (hsz : 0 < size)
    (v : Value) (n : Nat) (xs : List Value) (hs : a.eval s = v) (hown : w.ownsRow base e size v n xs)
    (ad : Addr) (m c : Nat) (news : List Value) (hx : a.eval x = .slice (some ad) m c) (hl : news.length = m * size) (hnews : ∀ j u, news[j]? = some u → w.cell? (ad.add j) = some u) (h1 : ∀ u ∈ news, u.oneCell' = true)
    (h63 : n + m ≤ maxLen) (hbytes : (n + m) * bytes ≤ 140737488355328) (hbase : base ≤ w.heap.size) (hm : 0 < m)
    (h : ∀ v' w', w'.ownsRow base e size v' (n + m) (xs ++ news) → w.grownBy w' v.ownBlock → (v'.ownBlock = v.ownBlock ∨ v'.ownBlock = some w.heap.size) → wpList P ops Q rest (a.put o.dst v') w') : wpList P ops Q (o :: rest) a w := by
  refine wpList_plain hgd fun K hK => ?_
  obtain ⟨v', w', hr, h2, h3, _⟩ := run_append_own (P := P) w base t o.type e i z size bytes ht hi hz hsize hby hzs hsz v n xs hown ad m c news hl hnews h1 h63 hbytes hbase
  have h5 := app_block (P := P) w base t o.type e i z size bytes ht hi hz hsize hby v n xs hown ad m c news hl hnews h1 h63 hbytes hm hr
  unfold Oper.wp execOp
  simp only [ho, resolve, invoke, builtin, Sem.run_bind, Sem.run_pure, Result.andThen_ok, List.map_toArray, List.map_cons, List.map_nil, hs, hx, hr]
  exact hK _ _ (h v' w' h2 h3 h5)

/-- Two rows in two blocks. -/
def Apart (u v : Value) : Prop := u.ownBlock = none ∨ u.ownBlock ≠ v.ownBlock

theorem Apart.symm {u v : Value} (h : Apart u v) : Apart v u := by
  rcases h with h | h
  · by_cases h2 : v.ownBlock = none
    · exact .inl h2
    · exact .inr (fun e => h2 (e.trans h))
  · exact .inr (fun e => h e.symm)

/-- The first row made longer: still apart from the second. -/
theorem Apart.app {w : World} {B s n : Nat} {e : TypeId} {u u' v : Value} {xs : List Value} (h : Apart u v) (hv : w.ownsRow B e s v n xs) (hu : u'.ownBlock = u.ownBlock ∨ u'.ownBlock = some w.heap.size) : Apart u' v := by
  rcases hu with hu | hu
  · unfold Apart at *
    rw [hu]
    exact h
  · refine .inr (fun e => ?_)
    rw [hu] at e
    have := World.ownsRow.lt hv _ e.symm
    omega

set_option maxHeartbeats 2000000 in
theorem dword_x {w : World} {c : Nat} {a : Option Addr} {len cap : Nat} (h : Cu w c a len cap) (b : Int) :
    Calls Try.prog 40 #[.pointer (some ⟨c, 0, none⟩), .int .i64 b] w fun e w' => ∃ x : Int, e = .returned (.int .i64 x) ∧ Cu w' c a len cap ∧ Keep c w w' := by
  have HC : Hid (Cu w c a len cap) := h
  clear h
  have i1 := in_any b 1 24
  by_cases hb : 1 ≤ b ∧ b ≤ 24
  · rw [decide_eq_true hb] at i1
    have hP := half_bounds hb
    go_enter Try.func40, Try.ntmps40
    go_wp2_with (first
      | (go_at_call 34; (with_reducible refine (i1 _).mono ?_); rintro e w' ⟨rfl, hw⟩; obtain rfl := hw.symm)
      | (go_at_call 32; (fail_if_success have := M1); refine (below_x HC.out 6).mono ?_; rintro e w1 ⟨x1, _, _, _, rfl, hc, hk⟩; have M1 : Hid True := trivial; have HC1 : Hid (Cu w1 c a len cap) := hc; have K1 : Hid (Keep c w w1) := hk; clear hc hk)
      | (go_at_call 32; refine (below_x HC1.out _).mono ?_; rintro e w2 ⟨x2, _, _, _, rfl, hc, hk⟩; have HC1 : Hid (Cu w2 c a len cap) := hc; have K1 : Hid (Keep c w w2) := K1.out.trans hk; clear hc hk))
    all_goals
      go_ret
      exact ⟨_, rfl, HC1.out, K1.out⟩
  · rw [decide_eq_false hb] at i1
    clear hb
    go_enter Try.func40, Try.ntmps40
    go_wp2_with (first
      | (go_at_call 34; (with_reducible refine (i1 _).mono ?_); rintro e w' ⟨rfl, hw⟩; obtain rfl := hw.symm)
      | (go_at_call 32; refine (below_x HC.out 9).mono ?_; rintro e w1 ⟨x1, _, _, _, rfl, hc, hk⟩; have HC1 : Hid (Cu w1 c a len cap) := hc; have K1 : Hid (Keep c w w1) := hk; clear hc hk))
    go_ret
    exact ⟨_, rfl, HC1.out, K1.out⟩

set_option maxHeartbeats 4000000 in
theorem dfix_x {w : World} {c : Nat} {a : Option Addr} {len cap : Nat} (h : Cu w c a len cap) :
    Calls Try.prog 38 #[.pointer (some ⟨c, 0, none⟩)] w fun e w' => ∃ x y z : Int, e = .returned (.tuple #[.int .i64 x, .int .i64 y, .int .i64 z]) ∧ Cu w' c a len cap ∧ Keep c w w' := by
  have HC : Hid (Cu w c a len cap) := h
  clear h
  have P9 : ∀ W : World, Cu W c a len cap → Calls Try.prog 41 #[.pointer (some ⟨c, 0, none⟩), .slice (some ⟨W.heap.size, 0, none⟩) 9 9] (W.alloc (.cells #[.int .i64 1, .int .i64 4, .int .i64 8, .int .i64 16, .int .i64 20, .int .i64 24, .int .i64 24, .int .i64 16, .int .i64 12] 3)) fun e w' => ∃ x : Int, e = .returned (.int .i64 x) ∧ Cu w' c a len cap ∧ Keep c W w' := fun W hW => pick_lit [1, 4, 8, 16, 20, 24, 24, 16, 12] (by decide) (by decide) hW
  have PA : ∀ W : World, Cu W c a len cap → Calls Try.prog 41 #[.pointer (some ⟨c, 0, none⟩), .slice (some ⟨W.heap.size, 0, none⟩) 2 2] (W.alloc (.cells #[.int .i64 0, .int .i64 25] 3)) fun e w' => ∃ x : Int, e = .returned (.int .i64 x) ∧ Cu w' c a len cap ∧ Keep c W w' := fun W hW => pick_lit [0, 25] (by decide) (by decide) hW
  have PB : ∀ W : World, Cu W c a len cap → Calls Try.prog 41 #[.pointer (some ⟨c, 0, none⟩), .slice (some ⟨W.heap.size, 0, none⟩) 3 3] (W.alloc (.cells #[.int .i64 (-1), .int .i64 24, .int .i64 25] 3)) fun e w' => ∃ x : Int, e = .returned (.int .i64 x) ∧ Cu w' c a len cap ∧ Keep c W w' := fun W hW => pick_lit [-1, 24, 25] (by decide) (by decide) hW
  have PC : ∀ W : World, Cu W c a len cap → Calls Try.prog 41 #[.pointer (some ⟨c, 0, none⟩), .slice (some ⟨W.heap.size, 0, none⟩) 2 2] (W.alloc (.cells #[.int .i64 0, .int .i64 5] 3)) fun e w' => ∃ x : Int, e = .returned (.int .i64 x) ∧ Cu w' c a len cap ∧ Keep c W w' := fun W hW => pick_lit [0, 5] (by decide) (by decide) hW
  go_enter Try.func38, Try.ntmps38
  go_wp2_with (first
    | (go_at_call 41; (fail_if_success have := M1); refine (P9 _ HC.out).mono ?_; rintro e w1 ⟨x1, rfl, hc, hk⟩; have M1 : Hid True := trivial; have HC1 : Hid (Cu w1 c a len cap) := hc; have K1 : Hid (Keep c w w1) := hk; clear hc hk)
    | (go_at_call 32; (fail_if_success have := M2); refine (below_x HC1.out _).mono ?_; rintro e w2 ⟨x2, _, _, _, rfl, hc, hk⟩; have M2 : Hid True := trivial; have HC2 : Hid (Cu w2 c a len cap) := hc; have K2 : Hid (Keep c w w2) := K1.out.trans hk; clear hc hk)
    | (go_at_call 32; (fail_if_success have := M3); refine (below_x HC2.out 4).mono ?_; rintro e w3 ⟨x3, _, _, _, rfl, hc, hk⟩; have M3 : Hid True := trivial; have HC3 : Hid (Cu w3 c a len cap) := hc; have K3 : Hid (Keep c w w3) := K2.out.trans hk; clear hc hk)
    | (go_at_call 32; refine (below_x HC3.out 40).mono ?_; rintro e w4 ⟨x4, _, _, _, rfl, hc, hk⟩; have M4 : Hid True := trivial; have HC4 : Hid (Cu w4 c a len cap) := hc; have K4 : Hid (Keep c w w4) := K3.out.trans hk; clear hc hk)
    | (go_at_call 41; have Z := M4; (with_reducible refine (PA _ HC4.out).mono ?_); rintro e w5 ⟨x5, rfl, hc, hk⟩; have HC4 : Hid (Cu w5 c a len cap) := hc; have K4 : Hid (Keep c w w5) := K4.out.trans hk; clear hc hk)
    | (go_at_call 41; have Z := M4; (with_reducible refine (PB _ HC4.out).mono ?_); rintro e w5 ⟨x5, rfl, hc, hk⟩; have HC4 : Hid (Cu w5 c a len cap) := hc; have K4 : Hid (Keep c w w5) := K4.out.trans hk; clear hc hk)
    | (go_at_call 41; have Z := M4; (with_reducible refine (PC _ HC4.out).mono ?_); rintro e w5 ⟨x5, rfl, hc, hk⟩; have HC4 : Hid (Cu w5 c a len cap) := hc; have K4 : Hid (Keep c w w5) := K4.out.trans hk; clear hc hk))
  all_goals
    go_ret3
    exact ⟨_, _, _, rfl, HC4.out, K4.out⟩
end Go.Proofs.Ytnabpijackgmnaa
