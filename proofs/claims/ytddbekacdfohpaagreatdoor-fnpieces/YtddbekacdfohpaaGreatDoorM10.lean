/- PC PD PE. -/
import Derived.Test.YtddbekacdfohpaaGreatDoorM08
import Derived.Test.YtddbekacdfohpaaGreatDoorM09
namespace Go.Proofs.YtddbekacdfohpaaGreatDoor
open Go.RowKit

theorem halves_any : ∀ (j : Nat), j < 8 → ∀ (n : Nat), n = 2 ^ j → ∀ (bk : Bool) (w : World) (G : Nat) (pb : Addr) (g : Nat) (X Y : Nat → Nat) (P : Nat → Option Nat × Option Nat), Hv w G pb bk → Zr w g n X Y → g ≠ G → (∀ k, k < n → (cn (X k), cn (Y k)) = P k) →
    Calls Tryz.prog 19 #[zv g n, .func (.func 35) #[] #[.pointer (some ⟨G, 0, none⟩), .pointer (some pb)]] w fun e w' => ∃ g' X' Y', e = .returned (zv g' n) ∧ Zr w' g' n X' Y' ∧ g' ≠ G ∧ (∀ k, k < n → (cn (X' k), cn (Y' k)) = fast bk j P k) ∧ Whl w' G bk ∧ Kp G w w'
  | 0, _, n, hn, bk, w, G, pb, g, X, Y, P, hv, hz, hg, hP => halves_one hn hv hz hg hP _
  | j + 1, hj, n, hn, bk, w, G, pb, g, X, Y, P, hv, hz, hg, hP =>
    halves_step (h := 2 ^ j) hj rfl hn hv hz hg hP (fun w g X Y P hv hz hg hP => halves_any j (by omega) (2 ^ j) rfl bk w G pb g X Y P hv hz hg hP)

set_option maxRecDepth 100000 in
set_option maxHeartbeats 2000000 in
theorem iFast_f {w : World} {v : Value} {n j : Nat} {xs ys : Nat → Nat} (hv : Fp w v n xs ys) (hj : j < 8) (hn : n = 2 ^ j) (hbr : Brj w) :
    Calls Tryz.prog 8 #[v, .bool false] w fun e w' => Pf w w' e n (fun k => fby n false (fast false j (fun i => (cn (xs i), cn (ys i))) k)) true := by
  have h8 := pow_cases hj hn
  have hp : 1 ≤ n ∧ n ≤ 128 := by omega
  have i1 := iH8_any n
  rw [decide_eq_true (show H8 (n : Int) by omega)] at i1
  have j1 := toCs_any hv (by omega)
  have HBR : Hid (Brj w) := hbr
  have HJ : Hid (n = 2 ^ j) := hn
  have hnot : ∀ (x : Bool) (w : World), (Op.unary .not (.bool x)).run Tryz.prog w = .ok (.bool (!x)) w := fun _ _ => rfl
  obtain ⟨ao, cap, rfl, hcap, hc⟩ := hv
  clear hc hn hbr h8
  go_enter Tryz.func8, Tryz.ntmps8
  go_wp2_with (first
    | (go_at_call 16; refine (i1 _).mono ?_; rintro e w' ⟨rfl, hw⟩; obtain rfl := hw.symm)
    | (go_at_call 20; (with_reducible refine j1.mono ?_); rintro e w1 ⟨rfl, z1, b1⟩; have Z1 : Hid (Zr w1 w.heap.size n xs ys) := z1; have B1 : Hid (Below w.heap.size w w1) := b1; have j2 := new_any false w1; clear z1 b1 j1)
    | (go_at_call 17; (with_reducible refine j2.mono ?_); rintro e w2 ⟨rfl, h1, h2, h3, b2⟩; have hlt : w.heap.size < w1.heap.size := Z1.out.1; have H2 : Hid (Hv w2 (w1.heap.size + 1) ⟨w1.heap.size, 0, none⟩ false) := ⟨h1, (HBR.out.below B1.out).below b2, by have := HBR.out.size; omega, h2, by simp⟩; have B2 : Hid (Below w.heap.size w w2) := bstep B1.out b2; have j3 := halves_any j hj n HJ.out false w2 (w1.heap.size + 1) ⟨w1.heap.size, 0, none⟩ w.heap.size xs ys (fun i => (cn (xs i), cn (ys i))) H2.out (Z1.out.below b2) (by omega) (fun k _ => rfl); have S2 : Hid (w1.heap.size + 1 < w2.heap.size) := h1.1; clear h1 h2 h3 b2 j2)
    | (go_at_call 19; (with_reducible refine j3.mono ?_); rintro e w3 ⟨g3, X3, Y3, rfl, z3, _, f3, _, k3⟩; have Z3 : Hid (Zr w3 g3 n X3 Y3) := z3; have F3 : Hid (∀ k, k < n → (cn (X3 k), cn (Y3 k)) = fast false j (fun i => (cn (xs i), cn (ys i))) k) := f3; have B3 : Hid (Below w.heap.size w w3) := Kp.after B2.out (by have := B2.out.size; omega) (by omega) k3; have j4 := toPs_any z3 (by omega); clear z3 f3 k3 j3)
    | (go_at_call 18; (with_reducible refine j4.mono ?_); rintro e w4 ⟨b4, u4, L4, rfl, f4, o4⟩; have F4 : Hid (Fp w4 u4 n X3 Y3) := f4; have O4 : Hid (w4.ownsRow w3.heap.size 39 2 u4 n L4) := o4; have B4 : Hid (Below w.heap.size w w4) := bstep B3.out b4; obtain ⟨ua, uc, rfl, _⟩ := f4; clear o4 b4 j4))
  go_ret2
  exact ⟨_, X3, Y3, L4, rfl, F4.out, fun k hk => F3.out k hk, own_base O4.out B3.out.size, B4.out⟩

set_option maxRecDepth 100000 in
set_option maxHeartbeats 2000000 in
theorem iFast_t {w : World} {v : Value} {n j : Nat} {xs ys : Nat → Nat} (hv : Fp w v n xs ys) (hj : j < 8) (hn : n = 2 ^ j) (hbr : Brj w) :
    Calls Tryz.prog 8 #[v, .bool true] w fun e w' => Pf w w' e n (fun k => fby n true (fast true j (fun i => (cn (xs i), cn (ys i))) k)) true := by
  have h8 := pow_cases hj hn
  have hp : 1 ≤ n ∧ n ≤ 128 := by omega
  have i1 := iH8_any n
  rw [decide_eq_true (show H8 (n : Int) by omega)] at i1
  have j1 := toCs_any hv (by omega)
  have HBR : Hid (Brj w) := hbr
  have HJ : Hid (n = 2 ^ j) := hn
  have hnot : ∀ (x : Bool) (w : World), (Op.unary .not (.bool x)).run Tryz.prog w = .ok (.bool (!x)) w := fun _ _ => rfl
  obtain ⟨ao, cap, rfl, hcap, hc⟩ := hv
  clear hc hn hbr h8
  go_enter Tryz.func8, Tryz.ntmps8
  go_wp2_with (first
    | (go_at_call 16; refine (i1 _).mono ?_; rintro e w' ⟨rfl, hw⟩; obtain rfl := hw.symm)
    | (go_at_call 20; (with_reducible refine j1.mono ?_); rintro e w1 ⟨rfl, z1, b1⟩; have Z1 : Hid (Zr w1 w.heap.size n xs ys) := z1; have B1 : Hid (Below w.heap.size w w1) := b1; have j2 := new_any true w1; clear z1 b1 j1)
    | (go_at_call 17; (with_reducible refine j2.mono ?_); rintro e w2 ⟨rfl, h1, h2, h3, b2⟩; have hlt : w.heap.size < w1.heap.size := Z1.out.1; have H2 : Hid (Hv w2 (w1.heap.size + 1) ⟨w1.heap.size, 0, none⟩ true) := ⟨h1, (HBR.out.below B1.out).below b2, by have := HBR.out.size; omega, h2, by simp⟩; have B2 : Hid (Below w.heap.size w w2) := bstep B1.out b2; have j3 := halves_any j hj n HJ.out true w2 (w1.heap.size + 1) ⟨w1.heap.size, 0, none⟩ w.heap.size xs ys (fun i => (cn (xs i), cn (ys i))) H2.out (Z1.out.below b2) (by omega) (fun k _ => rfl); have S2 : Hid (w1.heap.size + 1 < w2.heap.size) := h1.1; clear h1 h2 h3 b2 j2)
    | (go_at_call 19; (with_reducible refine j3.mono ?_); rintro e w3 ⟨g3, X3, Y3, rfl, z3, _, f3, _, k3⟩; have Z3 : Hid (Zr w3 g3 n X3 Y3) := z3; have F3 : Hid (∀ k, k < n → (cn (X3 k), cn (Y3 k)) = fast true j (fun i => (cn (xs i), cn (ys i))) k) := f3; have B3 : Hid (Below w.heap.size w w3) := Kp.after B2.out (by have := B2.out.size; omega) (by omega) k3; have j4 := toPs_any z3 (by omega); clear z3 f3 k3 j3)
    | (go_at_call 18; (with_reducible refine j4.mono ?_); rintro e w4 ⟨b4, u4, L4, rfl, f4, o4⟩; have F4 : Hid (Fp w4 u4 n X3 Y3) := f4; have O4 : Hid (w4.ownsRow w3.heap.size 39 2 u4 n L4) := o4; have B4 : Hid (Below w.heap.size w w4) := bstep B3.out b4; have j5 := divided_any f4 (by omega); obtain ⟨ua, uc, rfl, _⟩ := f4; clear o4 b4 j4)
    | (go_at_call 24; (with_reducible refine j5.mono ?_); rintro e w5 ⟨b5, u5, L5, X5, Y5, rfl, f5, d5, o5⟩; have F5 : Hid (Fp w5 u5 n X5 Y5) := f5; have D5 : Hid (∀ i, i < n → cn (X5 i) = cop .quo (cn (X3 i)) (cn (fk n)) ∧ cn (Y5 i) = cop .quo (cn (Y3 i)) (cn (fk n))) := d5; have O5 : Hid (w5.ownsRow w4.heap.size 39 2 u5 n L5) := o5; have B5 : Hid (Below w.heap.size w w5) := bstep B4.out b5; obtain ⟨ub, ud, rfl, _⟩ := f5; clear o5 b5 d5 j5))
  go_ret2
  refine ⟨_, X5, Y5, L5, rfl, F5.out, fun k hk => ?_, own_base O5.out B4.out.size, B5.out⟩
  obtain ⟨p1, p2⟩ := Prod.mk.inj (F3.out k hk)
  rw [(D5.out k hk).1, (D5.out k hk).2, p1, p2]
  rfl

theorem iFast_none {w : World} {v : Value} {n : Nat} {xs ys : Nat → Nat} (hv : Fp w v n xs ys) (h8 : ¬ H8 (n : Int)) (bk : Bool) (C : Nat → Option Nat × Option Nat) : Calls Tryz.prog 8 #[v, .bool bk] w fun e w' => Pe w w' e 0 C false := by
  have i1 := iH8_any n
  rw [decide_eq_false h8] at i1
  have HO : Hid ((w.alloc (.cells #[] 39)).ownsRow w.heap.size 39 2 (.slice (some ⟨w.heap.size, 0, none⟩) 0 0) 0 []) := own_empty w 39 2
  have HB : Hid (Below w.heap.size w (w.alloc (.cells #[] 39))) := below_one _ _
  have hnot : ∀ (x : Bool) (w : World), (Op.unary .not (.bool x)).run Tryz.prog w = .ok (.bool (!x)) w := fun _ _ => rfl
  obtain ⟨ao, cap, rfl, hcap, hc⟩ := hv
  clear hc h8
  go_enter Tryz.func8, Tryz.ntmps8
  go_wp2_with (go_at_call 16; refine (i1 _).mono ?_; rintro e w' ⟨rfl, hw⟩; obtain rfl := hw.symm)
  go_ret2
  exact ⟨_, fun _ => 0, fun _ => 0, rfl, HO.out, fun k hk => by omega, HB.out⟩
end Go.Proofs.YtddbekacdfohpaaGreatDoor

namespace Go.Proofs.YtddbekacdfohpaaGreatDoor
open Go.RowKit

/-- Two rows lie apart. -/
def Apart (u v : Value) : Prop := u.ownBlock = none ∨ u.ownBlock ≠ v.ownBlock

/-- A row that lies below is apart from what was made longer. -/
theorem apart_app {w : World} {B s n : Nat} {e : TypeId} {t o v' : Value} {xs : List Value} (ht : w.ownsRow B e s t n xs) (ha : Apart t o) (hu : v'.ownBlock = o.ownBlock ∨ v'.ownBlock = some w.heap.size) : Apart t v' := by
  rcases hu with hu | hu
  · unfold Apart at *
    rw [hu]
    exact ha
  · refine .inr (fun e => ?_)
    rw [hu] at e
    have := World.ownsRow.lt ht _ e
    omega

/-- A row that was made behind another one's block is apart from it. -/
theorem apart_base {w : World} {B s n g : Nat} {e : TypeId} {t o : Value} {xs : List Value} (ht : w.ownsRow B e s t n xs) (ho : o.ownBlock = some g) (hg : g < B) : Apart t o := by
  refine .inr (fun e => ?_)
  rw [ho] at e
  have := World.ownsRow.lt ht _ e
  omega

/-- An append, and where the row lies behind it. -/
theorem wpList_app {P : Program} (w : World) {ops : Array Oper} {rest : List Oper} {o : Oper} {a : Act} {Q : Exit → Act → World → Prop} (hgd : o.guard = none) (s x : Operand) (t : TypeId)
    (ho : o.op = .call { callee := .builtin .append, args := #[s, x], argTypes := #[t, t] })
    (base : Nat) (e : TypeId) (i : TypeInfo) (z : Value) (size bytes : Nat) (ht : P.underlying t = some (.slice e)) (hi : P.info? e = some i) (hz : i.zero = some z)
    (hsize : i.size = size) (hby : i.bytes = bytes) (hzs : z.cells.size = size) (hsz : 0 < size)
    (v : Value) (n : Nat) (xs : List Value) (hs : a.eval s = v) (hown : w.ownsRow base e size v n xs)
    (ad : Addr) (m c : Nat) (news : List Value) (hx : a.eval x = .slice (some ad) m c) (hl : news.length = m * size) (hnews : ∀ j u, news[j]? = some u → w.cell? (ad.add j) = some u) (h1 : ∀ u ∈ news, u.oneCell' = true)
    (h63 : n + m ≤ maxLen) (hbytes : (n + m) * bytes ≤ 140737488355328) (hbase : base ≤ w.heap.size) (hm : 0 < m)
    (h : ∀ v' w', w'.ownsRow base e size v' (n + m) (xs ++ news) → w.grownBy w' v.ownBlock → (v'.ownBlock = v.ownBlock ∨ (v'.ownBlock = some w.heap.size ∧ Below w.heap.size w w')) → wpList P ops Q rest (a.put o.dst v') w') : wpList P ops Q (o :: rest) a w :=
  wpList_plain hgd fun _ hK => Wv.wp_app w s x t ho base e i z size bytes ht hi hz hsize hby hzs hsz v n xs hs hown ad m c news hx hl hnews h1 h63 hbytes hbase hm fun v' w' h2 h3 h4 => hK _ _ (h v' w' h2 h3 h4)

/-- A row apart from the one that grew is as it was. -/
theorem own_grown {w w' : World} {B s n : Nat} {e : TypeId} {t o : Value} {xs : List Value} (h : w.ownsRow B e s t n xs) (hg : w.grownBy w' o.ownBlock) (ha : Apart t o) : w'.ownsRow B e s t n xs := by
  refine ⟨h.1, ?_⟩
  rcases h.2 with h' | ⟨g', cap', cur, h', hb', hg', rest⟩
  · exact .inl h'
  · refine .inr ⟨g', cap', cur, h', hb', (hg.block g' (Array.getElem?_eq_some_iff.1 hg').1 (fun e => ?_)).trans hg', rest⟩
    subst h'
    rcases ha with ha | ha
    · cases ha
    · exact ha e

theorem Apart.symm {t o : Value} (h : Apart t o) (h0 : t.ownBlock ≠ none) : Apart o t := by
  rcases h with h | h
  · exact absurd h h0
  · exact .inr (Ne.symm h)
end Go.Proofs.YtddbekacdfohpaaGreatDoor

namespace Go.Proofs.YtddbekacdfohpaaGreatDoor
open Go.RowKit

theorem own_some {w : World} {B s n : Nat} {e : TypeId} {v : Value} {xs : List Value} (h : w.ownsRow B e s v n xs) (h0 : 0 < n) : v.ownBlock ≠ none := by
  rcases h.2 with ⟨h1, h2⟩ | ⟨g, cap, cur, h1, _⟩
  · omega
  · subst h1
    simp [Value.ownBlock]

theorem apart_rev {t o : Value} (h : Apart t o) (h0 : o.ownBlock ≠ none) : Apart o t := by
  rcases h with h | h
  · exact .inr (by rw [h]; exact h0)
  · exact .inr (Ne.symm h)
end Go.Proofs.YtddbekacdfohpaaGreatDoor
