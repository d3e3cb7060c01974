/- Checks drawn. -/
import Derived.Test.YtnfhnchomiejcaaRV
namespace Go.Proofs.Ytnfhnchomiejcaa
open Go.RowKit

theorem msj_le {ms : Nat → Nat} {j l : Nat} (h : ∀ k, ms k ≤ 16) (hl : l ≤ 16) (k : Nat) : msj ms j l k ≤ 16 := by
  unfold msj
  split
  · exact hl
  · exact h k

/-- What is so of rows that are drawn. -/
structure Drw (w wr : World) (c : Nat) (a : Option Addr) (len cap : Nat) (o : Value) (j : Nat) (ms : Nat → Nat) (X : Nat → Nat → Int) : Prop where
  le : ∀ k, ms k ≤ 16
  rows : Gr w.heap.size wr o j ms X
  cur : Cu wr c a len cap
  keep : Keep c w wr

theorem Drw.draw {w wr w' : World} {c : Nat} {a : Option Addr} {len cap : Nat} {o : Value} {j : Nat} {ms : Nat → Nat} {X : Nat → Nat → Int} (h : Drw w wr c a len cap o j ms X) (hc : c < w.heap.size) (hu : Cu w' c a len cap) (hk : Keep c wr w') : Drw w w' c a len cap o j ms X :=
  ⟨h.le, h.rows.keep hk hc, hu, h.keep.trans hk⟩

theorem Drw.call {w wr w' : World} {c : Nat} {a : Option Addr} {len cap : Nat} {o : Value} {j : Nat} {ms : Nat → Nat} {X : Nat → Nat → Int} (h : Drw w wr c a len cap o j ms X) (hb : Below wr.heap.size wr w') : Drw w w' c a len cap o j ms X :=
  ⟨h.le, h.rows.below hb, h.cur.call hb, h.keep.call hb⟩

/-- A row of l numbers put behind, its slice in a block of one cell at g. -/
theorem app_drw {w W : World} {c : Nat} {a : Option Addr} {len cap : Nat} {o r : Value} {j l C : Nat} {ms : Nat → Nat} {X : Nat → Nat → Int} {f : Nat → Int} {g : Nat} {W0 : World} (h0 : Cu w c a len cap) (h : Drw w W c a len cap o j ms X) (hg0 : ∀ b, o.ownBlock = some b → b < W0.heap.size) (hr : W.ownsRow W0.heap.size 3 1 r l (ils f l)) (hW : w.heap.size ≤ W0.heap.size) (hl : l ≤ 16) (hj : j ≤ 1000) (hg : W.cell? ⟨g, 0, none⟩ = some r) {ops : Array Oper} {rest : List Oper} {q : Oper} {ac : Act} {Q : Exit → Act → World → Prop} (hgd : q.guard = none) (s x : Operand)
    (ho : q.op = .call { callee := .builtin .append, args := #[s, x], argTypes := #[24, 24] }) (hs : ac.eval s = o) (hx : ac.eval x = .slice (some ⟨g, 0, none⟩) 1 C)
    (hgo : ∀ v' w', Drw w w' c a len cap v' (j + 1) (msj ms j l) (Xj X j f) → wpList Try.prog ops Q rest (ac.put q.dst v') w') : wpList Try.prog ops Q (q :: rest) ac W := by
  have hap : Apart r o := by
    by_cases hn : o.ownBlock = none
    · exact apart_symm (.inl hn)
    · obtain ⟨b, hb⟩ := Option.ne_none_iff_exists'.1 hn
      exact apart_base hr hb (hg0 b hb)
  have hG := h.rows.re l f
  have hsz : w.heap.size ≤ W.heap.size := h.keep.size
  refine wpList_appS hgd s x ho hs hx hG (r := r) ?_ hap hg (by omega) hsz (fun v' w' h1 h2 => hgo v' w' ?_)
  · rw [msj_at, Xj_at]
    exact own_base hr hW
  · have B6 : Below w.heap.size W w' := hG.below_grown (Below.refl _ _) hsz h2
    exact ⟨fun k => msj_le h.le hl k, h1, Cu.grow h0 h.cur h.keep B6, h.keep.below B6⟩

theorem lt_of_gr {B : Nat} {W : World} {o : Value} {j : Nat} {ms : Nat → Nat} {X : Nat → Nat → Int} (h : Gr B W o j ms X) : ∀ b, o.ownBlock = some b → b < W.heap.size := fun _ hb => h.lt hb

abbrev lit1 (W : World) (x : Int) : World := (W.alloc (.cells #[.int .i64 x] 3)).alloc (.cells #[.slice (some ⟨W.heap.size, 0, none⟩) 1 1] 29)
abbrev lit2 (W : World) (x y : Int) : World := (W.alloc (.cells #[.int .i64 x, .int .i64 y] 3)).alloc (.cells #[.slice (some ⟨W.heap.size, 0, none⟩) 2 2] 29)

/-- A row that is written out, its slice in a block of its own. -/
structure Lit (w WL W : World) (c : Nat) (a : Option Addr) (len cap : Nat) (o : Value) (j : Nat) (ms : Nat → Nat) (X : Nat → Nat → Int) (l : Nat) (f : Nat → Int) : Prop where
  d : Drw w WL c a len cap o j ms X
  lt : ∀ b, o.ownBlock = some b → b < W.heap.size
  o : WL.ownsRow W.heap.size 3 1 (.slice (some ⟨W.heap.size, 0, none⟩) l l) l (ils f l)
  le : w.heap.size ≤ W.heap.size
  g : WL.cell? ⟨W.heap.size + 1, 0, none⟩ = some (.slice (some ⟨W.heap.size, 0, none⟩) l l)

theorem Drw.lit1 {w W : World} {c : Nat} {a : Option Addr} {len cap : Nat} {o : Value} {j : Nat} {ms : Nat → Nat} {X : Nat → Nat → Int} (h : Drw w W c a len cap o j ms X) (x : Int) : Lit w (lit1 W x) W c a len cap o j ms X 1 (fun _ => x) :=
  ⟨(h.call (below_one _ _)).call (below_one _ _), fun _ hb => h.rows.lt hb, own_below (World.ownsRow_lit (base := W.heap.size) (e := 3) (size := 1) W #[.int .i64 x] 1 (Nat.le_refl _) (by decide) rfl) (below_one _ _), h.keep.size, by
    simp⟩
theorem Drw.lit2 {w W : World} {c : Nat} {a : Option Addr} {len cap : Nat} {o : Value} {j : Nat} {ms : Nat → Nat} {X : Nat → Nat → Int} (h : Drw w W c a len cap o j ms X) (x y : Int) : Lit w (lit2 W x y) W c a len cap o j ms X 2 (fun i => if i = 0 then x else y) :=
  ⟨(h.call (below_one _ _)).call (below_one _ _), fun _ hb => h.rows.lt hb, own_below (World.ownsRow_lit (base := W.heap.size) (e := 3) (size := 1) W #[.int .i64 x, .int .i64 y] 2 (Nat.le_refl _) (by decide) rfl) (below_one _ _), h.keep.size, by
    simp⟩

theorem cases5 (x : Int) : x = 0 ∨ x = 1 ∨ x = 2 ∨ x = 3 ∨ (x ≠ 0 ∧ x ≠ 1 ∧ x ≠ 2 ∧ x ≠ 3) := by omega

set_option maxHeartbeats 1000000 in
theorem pick_p {w : World} {c : Nat} {a : Option Addr} {len cap : Nat} (h : Cu w c a len cap) {g n cp : Nat} {xs : Nat → Int} (hg : g ≠ c) (hlt : g < w.heap.size) (h0 : 0 < n) (h1 : n ≤ 256) (hx : ∀ k, k < n → w.cell? ⟨g, k, none⟩ = some (.int .i64 (xs k))) (P : Int → Prop) (hP : ∀ k, k < n → P (xs k)) :
    Calls Try.prog 46 #[.pointer (some ⟨c, 0, none⟩), .slice (some ⟨g, 0, none⟩) n cp] w fun e w' => ∃ x : Int, P x ∧ e = .returned (.int .i64 x) ∧ Cu w' c a len cap ∧ Keep c w w' := by
  have HC : Hid (Cu w c a len cap) := h
  have HX : Hid _ := hx
  have HP : Hid (∀ k, k < n → P (xs k)) := hP
  clear h hx hP
  go_enter Try.func46, Try.ntmps46
  go_wp2_with (go_at_call 45; refine (below_x HC.out n).mono ?_; rintro e w' ⟨x, hx0, hx1, hx2, rfl, hc, hk⟩; have hx3 := hx2 (by omega); obtain ⟨k, rfl⟩ := Int.eq_ofNat_of_zero_le hx0; have HC2 : Hid (Cu w' c a len cap) := hc; have HK : Hid (Keep c w w') := hk; have cc : w'.cell? ⟨g, k, none⟩ = some (.int .i64 (xs k)) := (hk.cell (p := ⟨g, k, none⟩) hg hlt).trans (HX.out k (by omega)); clear hc hk hx2)
  go_ret
  exact ⟨_, HP.out k (by omega), rfl, HC2.out, HK.out⟩

theorem pick_lp (L : List Int) (h0 : 0 < L.length) (h1 : L.length ≤ 256) (P : Int → Prop) (hP : ∀ k, k < L.length → P (L.getD k 0)) {W : World} {c : Nat} {a : Option Addr} {len cap : Nat} (h : Cu W c a len cap) :
    Calls Try.prog 46 #[.pointer (some ⟨c, 0, none⟩), .slice (some ⟨W.heap.size, 0, none⟩) L.length L.length] (W.alloc (.cells (L.map (fun x => Value.int .i64 x)).toArray 3)) fun e w' => ∃ x : Int, P x ∧ e = .returned (.int .i64 x) ∧ Cu w' c a len cap ∧ Keep c W w' := by
  refine (pick_p (h.call (below_one _ _)) (Nat.ne_of_gt h.lt) (by simp) h0 h1 (lit_cells W L 3) P hP).mono ?_
  rintro e w' ⟨x, hx, rfl, hc, hk⟩
  exact ⟨x, hx, rfl, hc, ((Keep.refl _ _).call (below_one _ _)).trans hk⟩

theorem pkn {W : World} {c : Nat} {a : Option Addr} {len cap : Nat} (h : Cu W c a len cap) :
    Calls Try.prog 46 #[.pointer (some ⟨c, 0, none⟩), .slice (some ⟨W.heap.size, 0, none⟩) 3 3] (W.alloc (.cells #[.int .i64 0, .int .i64 128, .int .i64 129] 3)) fun e w' => ∃ x : Int, (0 ≤ x ∧ x ≤ 129) ∧ e = .returned (.int .i64 x) ∧ Cu w' c a len cap ∧ Keep c W w' :=
  pick_lp [0, 128, 129] (by simp) (by simp) (fun x => 0 ≤ x ∧ x ≤ 129) (by decide) h

set_option maxRecDepth 20000 in
set_option maxHeartbeats 16000000 in
/-- The checks as they are drawn, one after the other. -/
theorem drows_x {w : World} {c : Nat} {a : Option Addr} {len cap : Nat} (h : Cu w c a len cap) :
    Calls Try.prog 29 #[.pointer (some ⟨c, 0, none⟩)] w fun e w' => ∃ v j ms X x, e = .returned (.tuple #[v, .int .i64 x]) ∧ j ≤ 64 ∧ (∀ k, ms k ≤ 16) ∧ (0 ≤ x ∧ x ≤ 129) ∧ Ipp w' v j ms X ∧ Cu w' c a len cap ∧ Keep c w w' := by
  obtain ⟨i0, hi, hz0, hz1, hz2⟩ := info_parts Try.info3
  have HC : Hid (Cu w c a len cap) := h
  have hc0 : c < w.heap.size := h.lt
  clear h
  go_enter Try.func29, Try.ntmps29
  go_upto_region 2 with (first
    | (go_at_call 45; (with_reducible refine (below_x HC.out 14).mono ?_); rintro e W1 ⟨xW1, h0W1, _, h1W1, rfl, hc, hk⟩; have C1 : Hid (Cu W1 c a len cap) := hc; have K1 : Hid (Keep c w W1) := hk; clear hc hk))
  have hn3 := h1W1 (by omega)
  obtain ⟨n, hn⟩ : ∃ n : Nat, 3 + xW1 = (n : Int) := ⟨(3 + xW1).toNat, by omega⟩
  have hnn : 3 ≤ n ∧ n ≤ 16 := by omega
  rw [hn]
  clear h1W1
  have D0 : Hid (Drw w (W1.alloc (.cells #[] 29)) c a len cap (.slice (some ⟨W1.heap.size, 0, none⟩) 0 0) 0 (fun _ => 0) (fun _ _ => 0)) := ⟨fun _ => Nat.zero_le _, (Gr.start W1 _ _).base K1.out.size, C1.out.call (below_one _ _), K1.out.call (below_one _ _)⟩
  go_upto_region 3 with fail
  generalize (Value.slice (some ⟨W1.heap.size, 0, none⟩) 0 0) = o0 at *
  generalize W1.alloc (.cells #[] 29) = W2 at *
  have D0 : Hid (Drw w W2 c a len cap o0 0 (fun _ => 0) (fun _ _ => 0)) := D0.out
  have CU2 : Hid (Cu W2 c a len cap) := D0.out.cur
  go_upto_region 4 with (first
    | (go_at_call 45; (with_reducible refine (below_x CU2.out n).mono ?_); rintro e W3 ⟨xW3, h0W3, _, h1W3, rfl, hc, hk⟩; have D3 : Hid (Drw w W3 c a len cap o0 0 (fun _ => 0) (fun _ _ => 0)) := D0.out.draw hc0 hc hk; clear hc hk))
  have hI3 := h1W3 (by omega)
  clear h1W3
  obtain ⟨I0, hI0⟩ : ∃ I : Nat, xW3 = (I : Int) := ⟨xW3.toNat, by omega⟩
  subst hI0
  clear D0 C1 K1 CU2
  go_loopw [5, 6, 7, 8] (fun o i _ _ wr => ∃ (I : Nat) (j : Nat) (ms : Nat → Nat) (X : Nat → Nat → Int), i = .int .i64 I ∧ j + I ≤ 16 ∧ Hid (Drw w wr c a len cap o j ms X)) (fun _ i _ _ _ => (intOf i).toNat)
  case atStart => exact ⟨I0, 0, _, _, rfl, by omega, D3.out⟩
  case round =>
    obtain ⟨I, j, ms, X, rfl, hj, HD⟩ := hrel
    clear D3
    by_cases h1 : 0 < I
    · have sz0 : w.heap.size ≤ wr.heap.size := HD.out.keep.size
      have hc1 : c < wr.heap.size := Nat.lt_of_lt_of_le hc0 sz0
      have E0 : Hid ((wr.alloc (.cells #[] 3)).ownsRow wr.heap.size 3 1 (.slice (some ⟨wr.heap.size, 0, none⟩) 0 0) 0 (ils (fun _ => 0) 0)) := own_empty wr 3 1
      have E1 : Hid (Cu (wr.alloc (.cells #[] 3)) c a len cap) := HD.out.cur.call (below_one _ _)
      have E2 : Hid (Keep c wr (wr.alloc (.cells #[] 3))) := (Keep.refl c wr).call (below_one _ _)
      have HL : Hid (∀ b, u5.ownBlock = some b → b < wr.heap.size) := lt_of_gr HD.out.rows
      go_upto_region 7 with fail
      generalize (Value.slice (some ⟨wr.heap.size, 0, none⟩) 0 0) = r0 at *
      generalize wr.alloc (.cells #[] 3) = W4 at *
      have HDo : Hid (Drw w wr c a len cap u5 j ms X) := HD.out
      generalize wr = W0 at *
      clear HD
      go_wp2
      go_loopw [7, 8] (fun r i wr4 => ∃ (q l : Nat) (f : Nat → Int), i = .int .i64 q ∧ q ≤ n ∧ l ≤ q ∧ Hid (wr4.ownsRow W0.heap.size 3 1 r l (ils f l) ∧ Cu wr4 c a len cap ∧ Keep c W0 wr4)) (fun _ i _ => n - (intOf i).toNat)
      case atStart => exact ⟨0, 0, _, rfl, by omega, by omega, E0.out, E1.out, E2.out⟩
      case round =>
        obtain ⟨q, l, f, rfl, hq, hl, hrel⟩ := hrel
        have O1 : Hid (wr.ownsRow W0.heap.size 3 1 u7 l (ils f l)) := hrel.out.1
        have C1 : Hid (Cu wr c a len cap) := hrel.out.2.1
        have K1 : Hid (Keep c W0 wr) := hrel.out.2.2
        clear hrel E0 E1 E2
        by_cases h2 : q < n
        · go_wp2_with (first
            | (go_at_call 45; (with_reducible refine (below_x C1.out n).mono ?_); rintro e W5 ⟨x5, h05, _, h15, rfl, hc, hk⟩; go_loud (have C5 : Hid (Cu W5 c a len cap) := hc; have K5 : Hid (Keep c W0 W5) := K1.out.trans hk; have O5 : Hid (W5.ownsRow W0.heap.size 3 1 u7 l (ils f l)) := own_keep O1.out hk hc1; clear hc hk h15; have bx := below_one W5 (.cells #[.int .i64 (q : Int)] 3); have O6 : Hid ((W5.alloc (.cells #[.int .i64 (q : Int)] 3)).ownsRow W0.heap.size 3 1 u7 l (ils f l)) := own_below O5.out bx; have C6 : Hid (Cu (W5.alloc (.cells #[.int .i64 (q : Int)] 3)) c a len cap) := C5.out.call bx; have K6 : Hid (Keep c W0 (W5.alloc (.cells #[.int .i64 (q : Int)] 3))) := K5.out.call bx; have Z5 : W0.heap.size ≤ (W5.alloc (.cells #[.int .i64 (q : Int)] 3)).heap.size := K6.out.size; clear bx; rcases Decidable.em (x5 < 3) with h3 | h3))
            | (at_builtin; refine wpList_app _ rfl _ _ 29 rfl W0.heap.size 3 i0 (.int .i64 0) 1 8 Try.underlying29 hi hz0 hz1 hz2 rfl (by decide) _ _ _ rfl O6.out ⟨W5.heap.size, 0, none⟩ 1 1 [.int .i64 (q : Int)] rfl rfl (one_new _ _ _) (by simp [Value.oneCell']) (by unfold maxLen; omega) (by omega) Z5 (by decide) ?_; intro v' w4 hown' hgrow hkeep; rw [ils_app] at hown'; have B4 : Below W0.heap.size (W5.alloc (.cells #[.int .i64 (q : Int)] 3)) w4 := grown_below (Below.refl _ _) Z5 O6.out hgrow; have O7 : Hid (w4.ownsRow W0.heap.size 3 1 v' (l + 1) (ils (fun i => if i = l then (q : Int) else f i) (l + 1))) := hown'; have C7 : Hid (Cu w4 c a len cap) := Cu.grow HDo.out.cur C6.out K6.out B4; have K7 : Hid (Keep c W0 w4) := K6.out.below B4; clear hown' hgrow hkeep B4 O6 C6 K6))
          · go_roundw
            case rel => exact ⟨q + 1, l + 1, _, by go_num, by omega, by omega, O7.out, C7.out, K7.out⟩
            case measure => simp [intOf]; omega
          · go_roundw
            case rel => exact ⟨q + 1, l, f, by go_num, by omega, by omega, O5.out, C5.out, K5.out⟩
            case measure => simp [intOf]; omega
        · have hqn : l ≤ 16 := by omega
          obtain ⟨ra, rc, hu7, _, _⟩ := il_of_own O1.out
          subst hu7
          have D1 : Hid (Drw w wr c a len cap u5 j ms X) := HDo.out.draw hc0 C1.out K1.out
          clear C1 K1 HDo
          have bx := below_one wr (.cells #[.slice ra l rc] 29)
          have D8 : Hid (Drw w (wr.alloc (.cells #[.slice ra l rc] 29)) c a len cap u5 j ms X) := D1.out.call bx
          have O8 : Hid ((wr.alloc (.cells #[.slice ra l rc] 29)).ownsRow W0.heap.size 3 1 (.slice ra l rc) l (ils f l)) := own_below O1.out bx
          have g8 : Hid ((wr.alloc (.cells #[.slice ra l rc] 29)).cell? ⟨wr.heap.size, 0, none⟩ = some (.slice ra l rc)) := one_new wr (.slice ra l rc) 29 0 (.slice ra l rc) rfl
          clear bx
          have e16 : decide ((l : Int) ≤ 16) = true := by simp; omega
          have e16' : decide (l ≤ 16) = true := by simp; omega
          by_cases hl2 : 2 ≤ l
          · go_wp2_with (first
              | (at_builtin; refine app_drw HC.out D8.out HL.out O8.out sz0 hqn (by omega) g8.out rfl _ _ rfl rfl rfl ?_; intro v' w9 hD; have D9 : Hid (Drw w w9 c a len cap v' (j + 1) (msj ms j l) (Xj X j f)) := hD; clear hD))
            go_roundw
            case rel => exact ⟨I - 1, j + 1, _, _, by go_num, by omega, D9.out⟩
            case measure => simp [intOf]; omega
          · go_wp2
            go_roundw
            case rel => exact ⟨I - 1, j, ms, X, by go_num, by omega, D1.out⟩
            case measure => simp [intOf]; omega
    · have hI0 : I = 0 := by omega
      subst hI0
      have DA : Hid (Drw w wr c a len cap u5 j ms X) := HD.out
      have CA : Hid (Cu wr c a len cap) := HD.out.cur
      have HJ : j ≤ 16 := by omega
      clear HD hI3 h0W3 hj
      have HN : Hid (3 ≤ n ∧ n ≤ 16) := hnn
      go_wp2_with (first
        | (go_at_call 45; (fail_if_success have := M1); (with_reducible refine (below_x CA.out 30).mono ?_); rintro e W5 ⟨x5, h05, _, h15, rfl, hc, hk⟩; have M1 : Hid True := trivial; have DA : Hid (Drw w W5 c a len cap u5 j ms X) := DA.out.draw hc0 hc hk; have CA : Hid (Cu W5 c a len cap) := hc; clear hc hk h15; have e0 : Hid (0 ≤ x5) := h05; clear h05; rcases cases5 x5 with rfl | rfl | rfl | rfl | ⟨ne0, ne1, ne2, ne3⟩)
        | (go_at_call 45; have Z := M1; (fail_if_success have := M2); (with_reducible refine (below_x CA.out 3).mono ?_); rintro e W6 ⟨x6, h06, _, h16, rfl, hc, hk⟩; have M2 : Hid True := trivial; have DA : Hid (Drw w W6 c a len cap u5 j ms X) := DA.out.draw hc0 hc hk; have LD : Hid (Lit w (lit1 W6 x6) W6 c a len cap u5 j ms X 1 (fun _ => x6)) := DA.out.lit1 x6; clear hc hk h16 Z)
        | (go_at_call 45; have Z := M1; (fail_if_success have := M2); (with_reducible refine (below_x CA.out 2).mono ?_); rintro e W6 ⟨x6, h06, _, h16, rfl, hc, hk⟩; have M2 : Hid True := trivial; have h17 := h16 (by omega); have DA : Hid (Drw w W6 c a len cap u5 j ms X) := DA.out.draw hc0 hc hk; have LD : Hid (Lit w (lit2 W6 0 ((n : Int) - 1 + x6)) W6 c a len cap u5 j ms X 2 (fun i => if i = 0 then 0 else (n : Int) - 1 + x6)) := DA.out.lit2 0 ((n : Int) - 1 + x6); clear hc hk h16 Z)
        | (go_at_call 46; (with_reducible refine (pkn CA.out).mono ?_); rintro e W6 ⟨x6, h06, rfl, hc, hk⟩; have DA : Hid (Drw w W6 c a len cap u5 j ms X) := DA.out.draw hc0 hc hk; clear hc hk)
        | (at_builtin; refine app_drw HC.out LD.out.d LD.out.lt LD.out.o LD.out.le (by omega) (by omega) LD.out.g rfl _ _ rfl rfl rfl ?_; intro v' w9 hD; have DA : Hid (Drw w w9 c a len cap v' (j + 1) _ _) := hD; clear hD)
        | (at_builtin; have LD : Hid (Lit w (lit2 W5 1 0) W5 c a len cap u5 j ms X 2 (fun i => if i = 0 then 1 else 0)) := DA.out.lit2 1 0; refine app_drw HC.out LD.out.d LD.out.lt LD.out.o LD.out.le (by omega) (by omega) LD.out.g rfl _ _ rfl rfl rfl ?_; intro v' w9 hD; have DA : Hid (Drw w w9 c a len cap v' (j + 1) _ _) := hD; clear hD))
      all_goals go_ret2
      all_goals exact ⟨_, _, _, _, _, rfl, by omega, DA.out.le, by omega, DA.out.rows.ipp, DA.out.cur, DA.out.keep⟩
end Go.Proofs.Ytnfhnchomiejcaa
