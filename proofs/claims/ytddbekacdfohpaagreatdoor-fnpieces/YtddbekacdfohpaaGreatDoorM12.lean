/- QE QF QG. -/
import Derived.Test.YtddbekacdfohpaaGreatDoorM05
import Derived.Test.YtddbekacdfohpaaGreatDoorM11
namespace Go.Proofs.YtddbekacdfohpaaGreatDoor
open Go.RowKit

/-- How many pieces there are. -/
def npc (n c h : Nat) : Nat := if n < c then 0 else (n - c) / h + 1

theorem npc_lt {n c h q : Nat} (hh : 0 < h) : q * h + c ≤ n ↔ q < npc n c h := by
  unfold npc
  by_cases h1 : n < c
  · rw [if_pos h1]; omega
  · rw [if_neg h1, Nat.lt_succ_iff, Nat.le_div_iff_mul_le hh]; omega

theorem npc_le {n c h : Nat} (hc : 1 ≤ c) : npc n c h ≤ n := by
  unfold npc
  by_cases h1 : n < c
  · rw [if_pos h1]; omega
  · rw [if_neg h1]
    have := Nat.div_le_self (n - c) h
    omega

theorem npc_at {n c h q : Nat} (hh : 0 < h) (hh2 : h ≤ 128) (hn : n ≤ 128) (hq : q ≤ npc n c h) : q * h ≤ 256 := by
  cases q with
  | zero => rw [Nat.zero_mul]; omega
  | succ q =>
    have := (npc_lt (n := n) (c := c) hh).2 (show q < npc n c h by omega)
    rw [Nat.add_mul, Nat.one_mul]
    omega

/-- The pieces. -/
def pcC (j h : Nat) (xs ys : Nat → Nat) (i k : Nat) : Option Nat × Option Nat := fby (2 ^ j) false (fast false j (fun t => (cn (xs (i * h + t)), cn (ys (i * h + t)))) k)

/-- Pieces as they stand in memory of their own. -/
def Pcs (w : World) (B : Nat) (o : Value) (n c : Nat) (C : Nat → Nat → Option Nat × Option Nat) : Prop := ∃ gs cs F X Y, Pgr w B o n c gs cs F ∧ Hld n c F X Y ∧ ∀ i, i < n → ∀ k, k < c → (cn (X i k), cn (Y i k)) = C i k

theorem Pcs.keep {w w' : World} {B n c : Nat} {o : Value} {C : Nat → Nat → Option Nat × Option Nat} (h : Pcs w B o n c C) (hb : ∀ g, B ≤ g → g < w.heap.size → w'.heap[g]? = w.heap[g]?) : Pcs w' B o n c C := by
  obtain ⟨gs, cs, F, X, Y, h1, h2, h3⟩ := h
  exact ⟨gs, cs, F, X, Y, h1.keep hb, h2, h3⟩
theorem Pcs.call {w w' : World} {B n c : Nat} {o : Value} {C : Nat → Nat → Option Nat × Option Nat} (h : Pcs w B o n c C) (hb : Below w.heap.size w w') : Pcs w' B o n c C := h.keep (fun g _ hl => hb.block g hl)
theorem Pcs.base {w : World} {B B' n c : Nat} {o : Value} {C : Nat → Nat → Option Nat × Option Nat} (h : Pcs w B o n c C) (hB : B' ≤ B) : Pcs w B' o n c C := by
  obtain ⟨gs, cs, F, X, Y, h1, h2, h3⟩ := h
  exact ⟨gs, cs, F, X, Y, h1.base hB, h2, h3⟩
theorem Pcs.open {w : World} {B n c : Nat} {o : Value} {C : Nat → Nat → Option Nat × Option Nat} (h : Pcs w B o n c C) : ∃ ao cap, o = .slice ao n cap := by
  obtain ⟨gs, cs, F, X, Y, h1, h2, h3⟩ := h
  obtain ⟨ao, cap, h, _⟩ := h1.open
  exact ⟨ao, cap, h⟩

theorem own_hold {w : World} {B c : Nat} {u : Value} {L : List Value} {X Y : Nat → Nat} (h0 : 0 < c) (h : w.ownsRow B 39 2 u c L) (hf : Fp w u c X Y) : ∃ g cap f, u = .slice (some ⟨g, 0, none⟩) c cap ∧ B ≤ g ∧ g < w.heap.size ∧ Ow w B g c cap f ∧ ∀ k, k < c → f (k * 2) = .float .f64 (X k) ∧ f (k * 2 + 1) = .float .f64 (Y k) := by
  rcases ow_of_own h with ⟨h1, _⟩ | ⟨g, cap, f, rfl, hb, hl, ho⟩
  · omega
  · obtain ⟨ao, cap', e, _, hc⟩ := hf
    obtain ⟨b, off, rfl, _, hcell⟩ := hc h0
    simp only [Value.slice.injEq, Option.some.injEq, Addr.mk.injEq] at e
    obtain ⟨⟨rfl, rfl, _⟩, _, rfl⟩ := e
    refine ⟨g, cap, f, rfl, hb, hl, ho, fun i hi => ?_⟩
    obtain ⟨c0, c1⟩ := hcell i hi
    have d0 := ho.cell (j := i * 2) (by omega)
    have d1 := ho.cell (j := i * 2 + 1) (by omega)
    rw [Nat.zero_add] at c0 c1
    exact ⟨Option.some.inj (d0.symm.trans c0), Option.some.inj (d1.symm.trans c1)⟩

/-- One piece more. -/
theorem Pcs.app {w W : World} {B q c : Nat} {o u : Value} {L : List Value} {X Y : Nat → Nat} {C : Nat → Nat → Option Nat × Option Nat} (h : Pcs W B o q c C) (hk : ∀ g, B ≤ g → g < W.heap.size → w.heap[g]? = W.heap[g]?) (hsz : W.heap.size ≤ w.heap.size) (hB : B ≤ W.heap.size) (h0 : 0 < c) (ho : w.ownsRow W.heap.size 39 2 u c L) (hf : Fp w u c X Y) (hv : ∀ k, k < c → (cn (X k), cn (Y k)) = C q k) (hq : q ≤ 128) :
    ∃ v' w', (Builtin.append_ #[27, 27] 27 #[o, .slice (some ⟨w.heap.size, 0, none⟩) 1 1]).run Tryz.prog (w.alloc (.cells #[u] 24)) = .ok v' w' ∧ Pcs w' B v' (q + 1) c C ∧ Below B w w' ∧ (w.alloc (.cells #[u] 24)).grownBy w' o.ownBlock := by
  obtain ⟨gs, cs, F, X', Y', h1, h2, h3⟩ := h
  obtain ⟨g, cap, f, rfl, hb, hl, how, hfx⟩ := own_hold h0 ho hf
  obtain ⟨v', w', ha, hp, hbl, hgr⟩ := app_row (h1.keep hk) (own_base how hB) (fun i hi e => by have := own_ltg (h1.rows i hi); omega) (by omega) (Nat.le_trans hB hsz)
  have hbl2 : Below B w w' := ((below_one w _).mono (Nat.le_trans hB hsz)).trans hbl
  refine ⟨v', w', ha, ⟨_, _, _, fun i => if i = q then X else X' i, fun i => if i = q then Y else Y' i, hp, fun i hi k hk => ?_, fun i hi k hk => ?_⟩, hbl2, hgr⟩
  · by_cases e : i = q
    · simp only [if_pos e]; exact hfx k hk
    · simp only [if_neg e]; exact h2 i (by omega) k hk
  · by_cases e : i = q
    · simp only [if_pos e]; rw [e]; exact hv k hk
    · simp only [if_neg e]; exact h3 i (by omega) k hk

theorem Trn.grown {w w' : World} {go : Nat} {v : Value} {n : Nat} {bk : Bool} {g : Nat} (h : Trn w v n bk g) (_ : 0 < n) (hgr : w.grownBy w' (some go)) (hg : g ≠ go) : Trn w' v n bk g := by
  obtain ⟨h0, hl, X, Y, h1⟩ := h
  exact ⟨h0, Nat.lt_of_lt_of_le hl hgr.size, X, Y, fun i hi => ⟨(World.cell?_of_block (w := w) (a := ⟨g, i, none⟩) (hgr.block g hl (fun e => hg (by injection e)))).trans (h1 i hi).1, (h1 i hi).2⟩⟩

theorem Trn.ne {w : World} {go : Nat} {v : Value} {n : Nat} {bk : Bool} {g : Nat} (h : Trn w v n bk g) (hn : 0 < n) (hs : ∀ u, w.cell? ⟨go, 0, none⟩ = some u → ∃ a l c, u = .slice a l c) : g ≠ go := by
  rintro rfl
  obtain ⟨h0, hl, X, Y, h1⟩ := h
  obtain ⟨a, l, c, e⟩ := hs _ (h1 0 hn).1
  cases e

/-- Wheels, where a list of rows has grown. -/
theorem Hv.grown {w w' : World} {G go : Nat} {pb : Addr} {bk : Bool} (h : Hv w G pb bk) (hgr : w.grownBy w' (some go)) (hs : ∀ u, w.cell? ⟨go, 0, none⟩ = some u → ∃ a l c, u = .slice a l c) (n1 : go ≠ G) (n2 : go ≠ pb.block) (n3 : go ≠ 1) : Hv w' G pb bk := by
  have hb : ∀ p : Addr, p.block < w.heap.size → p.block ≠ go → w'.cell? p = w.cell? p := fun p hp hg => World.cell?_of_block (w := w) (hgr.block p.block hp (fun e => hg (by injection e)))
  have hf : ∀ p : Addr, p.block < w.heap.size → p.block ≠ go → w'.frozen? p = w.frozen? p := fun p hp hg => World.frozen?_of_block (w := w) (hgr.block p.block hp (fun e => hg (by injection e)))
  have hG := h.wh.1
  refine ⟨⟨Nat.lt_of_lt_of_le hG hgr.size, fun j hj => ?_⟩, ⟨Nat.lt_of_lt_of_le h.br.size hgr.size, fun i hi => (hb ⟨1, i, none⟩ h.br.size (Ne.symm n3)).trans (h.br.cells i hi)⟩, h.g1, (hb pb (World.block_lt_of_cell? w _ h.cb) (Ne.symm n2)).trans h.cb, h.nb⟩
  obtain ⟨⟨f0, f1, f3⟩, hw⟩ := h.wh.2 j hj
  have g0 : ∀ i, w'.cell? ⟨G, i, none⟩ = w.cell? ⟨G, i, none⟩ := fun i => hb ⟨G, i, none⟩ hG (Ne.symm n1)
  have z0 : ∀ i, w'.frozen? ⟨G, i, none⟩ = w.frozen? ⟨G, i, none⟩ := fun i => hf ⟨G, i, none⟩ hG (Ne.symm n1)
  refine ⟨⟨(z0 _).trans f0, (z0 _).trans f1, (z0 _).trans f3⟩, ?_⟩
  rcases hw with ⟨c0, c1, x, c3⟩ | ⟨c0, v, g, c3, ht, hg⟩
  · exact .inl ⟨(g0 _).trans c0, (g0 _).trans c1, x, (g0 _).trans c3⟩
  · exact .inr ⟨(g0 _).trans c0, v, g, (g0 _).trans c3, ht.grown (Nat.two_pow_pos j) hgr (ht.ne (Nat.two_pow_pos j) hs), hg⟩

/-- The first cell of a list of rows. -/
theorem Pcs.first {w : World} {B q c g oc : Nat} {C : Nat → Nat → Option Nat × Option Nat} (h : Pcs w B (.slice (some ⟨g, 0, none⟩) q oc) q c C) (h0 : q = 0 → oc = 0) : ∀ u, w.cell? ⟨g, 0, none⟩ = some u → ∃ a l c, u = .slice a l c := by
  intro u hu
  obtain ⟨gs, cs, F, X, Y, h1, _, _⟩ := h
  by_cases hq : 0 < q
  · rw [h1.at hq] at hu
    injection hu with hu
    exact ⟨_, _, _, hu.symm⟩
  · have hoc := h0 (by omega)
    rcases h1.row.2 with ⟨h', _⟩ | ⟨g', cap', cur, h', _, hg, _, _, hcs, _⟩
    · cases h'
    · injection h' with e1 _ e2
      injection e1 with e3
      injection e3 with e4
      subst e4
      have hz : cur = #[] := Array.eq_empty_of_size_eq_zero (by rw [hcs]; omega)
      subst hz
      simp [World.cell?, hg] at hu

theorem fp_cut {w : World} {b off n cap m c : Nat} {xs ys : Nat → Nat} (hv : Fp w (.slice (some ⟨b, off, none⟩) n cap) n xs ys) (hm : m + c ≤ n) (hn : 0 < n) : Fp w (.slice (some ⟨b, off + m * 2, none⟩) c (cap - m)) c (fun t => xs (m + t)) (fun t => ys (m + t)) := by
  obtain ⟨ao, cap', e, hcap, hc⟩ := hv
  obtain ⟨b', off', e2, hlt, hcell⟩ := hc hn
  subst e2
  simp only [Value.slice.injEq, Option.some.injEq, Addr.mk.injEq] at e
  obtain ⟨⟨rfl, rfl, _⟩, _, rfl⟩ := e
  refine ⟨_, _, rfl, by omega, fun _ => ⟨b, off + m * 2, rfl, hlt, fun k hk => ?_⟩⟩
  have := hcell (m + k) (by omega)
  rw [Nat.add_mul, ← Nat.add_assoc] at this
  exact this

/-- Wrong arguments. -/
abbrev GPc (n : Nat) (c h : Int) : Prop := H8 c ∧ (1 ≤ h ∧ h ≤ 128) ∧ n ≤ 128

/-- What Pieces answers. -/
def Ppe (w w' : World) (e : Ending) (n c : Nat) (C : Nat → Nat → Option Nat × Option Nat) (ok : Bool) : Prop := ∃ u, e = .returned (.tuple #[u, .bool ok]) ∧ Pcs w' w.heap.size u n c C ∧ Below w.heap.size w w'

theorem Pcs.start (X : World) (c : Nat) (C : Nat → Nat → Option Nat × Option Nat) : Pcs (X.alloc (.cells #[] 24)) X.heap.size (.slice (some ⟨X.heap.size, 0, none⟩) 0 0) 0 c C :=
  ⟨fun _ => 0, fun _ => 0, fun _ _ => .nilFunc, fun _ _ => 0, fun _ _ => 0, Pgr.start X c _ _ _, fun i hi => by omega, fun i hi => by omega⟩
end Go.Proofs.YtddbekacdfohpaaGreatDoor

namespace Go.Proofs.YtddbekacdfohpaaGreatDoor
open Go.RowKit

set_option maxRecDepth 100000 in
set_option maxHeartbeats 4000000 in
theorem sPcs_good {w : World} {v : Value} {n c h j : Nat} {xs ys : Nat → Nat} (hv : Fp w v n xs ys) (hn : n ≤ 128) (hj : j < 8) (hc : c = 2 ^ j) (hh : 1 ≤ h ∧ h ≤ 128) :
    Calls Tryz.prog 7 #[v, .int .i64 (c : Int), .int .i64 (h : Int)] w fun e w' => Ppe w w' e (npc n c h) c (pcC j h xs ys) true := by
  have h8 := pow_cases hj hc
  have hc1 : 1 ≤ c ∧ c ≤ 128 := by omega
  have i1 := sH8_any (c : Int)
  rw [decide_eq_true (show H8 (c : Int) by omega)] at i1
  have i2 := Wv.in_any (h : Int) 1 128
  rw [decide_eq_true (by omega)] at i2
  have hnot : ∀ (x : Bool) (w : World), (Op.unary .not (.bool x)).run Tryz.prog w = .ok (.bool (!x)) w := fun _ _ => rfl
  have HV : Hid (Fp w v n xs ys) := hv
  have HJ : Hid (c = 2 ^ j) := hc
  have OS : Hid (Pcs (w.alloc (.cells #[] 24)) w.heap.size (.slice (some ⟨w.heap.size, 0, none⟩) 0 0) 0 c (pcC j h xs ys)) := Pcs.start w c _
  have BS : Hid (Below w.heap.size w (w.alloc (.cells #[] 24))) := below_one _ _
  have HNP : Hid (npc n c h ≤ 128) := Nat.le_trans (npc_le hc1.1) hn
  obtain ⟨ao, cap, rfl, hcap, hcc⟩ := hv
  have HCC : Hid (0 < n → ∃ b off, ao = some ⟨b, off, none⟩ ∧ b < w.heap.size) := fun h0 => by obtain ⟨b, off, h1, h2, _⟩ := hcc h0; exact ⟨b, off, h1, h2⟩
  clear hcc hc h8
  obtain ⟨np, hnp⟩ : ∃ np, np = npc n c h := ⟨_, rfl⟩
  rw [← hnp] at HNP ⊢
  have HQ : Hid (np = npc n c h) := hnp
  clear hnp
  go_enter Tryz.func7, Tryz.ntmps7
  go_wp2_with (first | (go_at_call 21; refine (i1 _).mono ?_; rintro e w' ⟨rfl, hw⟩; obtain rfl := hw.symm) | (go_at_call 22; refine (i2 _).mono ?_; rintro e w' ⟨rfl, hw⟩; obtain rfl := hw.symm))
  clear i1 i2
  go_loopw [8, 9, 10, 11] (fun o i _ _ wr => ∃ q a : Nat, i = .int .i64 (a : Int) ∧ q ≤ np ∧ a ≤ 256 ∧ Hid (a = q * h ∧ Pcs wr w.heap.size o q c (pcC j h xs ys) ∧ Below w.heap.size w wr)) (fun _ i _ _ _ => 400 - (intOf i).toNat)
  case atStart => exact ⟨0, 0, rfl, by omega, by omega, (Nat.zero_mul h).symm, OS.out, BS.out⟩
  case round =>
    obtain ⟨q, a, rfl, hq, ha, hrel⟩ := hrel
    obtain ⟨haq, hP, hB⟩ := hrel.out
    obtain ⟨oo, oc, rfl⟩ := hP.open
    have HAQ : Hid (a = q * h) := haq
    have HP : Hid (Pcs wr w.heap.size (.slice oo q oc) q c (pcC j h xs ys)) := hP
    have HBW : Hid (Below w.heap.size w wr) := hB
    by_cases h1 : a + c ≤ n
    · obtain ⟨b, off, rfl, hlt⟩ := HCC.out (by omega)
      have hqn : q < np := by rw [HQ.out]; exact (npc_lt hh.1).1 (by rw [← haq]; exact h1)
      have ha2 : a + h ≤ 256 := by have := npc_at (n := n) (c := c) (h := h) (q := q + 1) hh.1 hh.2 hn (by rw [← HQ.out]; omega); rw [Nat.add_mul, Nat.one_mul, ← haq] at this; exact this
      have j1 := sFast_own (fp_cut (HV.out.below hB) h1 (by omega)) hj HJ.out
      have d1 : (a : Int) + (c : Int) - (a : Int) = (c : Int) := by omega
      have d2 : ¬ (cap = a) := by omega
      have hq128 : q ≤ 128 := by have := HNP.out; omega
      have HSZ : Hid (w.heap.size ≤ wr.heap.size) := hB.size
      clear hrel hP hB haq
      go_wp2_with (first | (go_at_call 23; refine j1.mono ?_; rintro e w2 ⟨u, X2, Y2, L2, rfl, f2, v2, o2, b2⟩; obtain ⟨v5, w5, ha5, hp5, hb5, _⟩ := Pcs.app (w := w2) HP.out (fun g _ hl => b2.block g hl) b2.size HSZ.out (by omega) o2 f2 (fun k hk => (v2 k hk).trans (by rw [HAQ.out, HJ.out]; rfl)) hq128; have B5 : Hid (Below w.heap.size w w5) := ((bstep HBW.out b2).trans hb5); have P5 : Hid (Pcs w5 w.heap.size v5 (q + 1) c (pcC j h xs ys)) := hp5; have HA5 : Hid _ := ha5; obtain ⟨ua, uc, hu, _⟩ := f2; subst hu; clear ha5 hb5 hp5 v2 o2 b2 j1) | (at_builtin; refine wpList_appr rfl _ _ rfl rfl rfl rfl HA5.out ?_))
      go_roundw
      case rel => exact ⟨q + 1, a + h, by go_num, by omega, by omega, by rw [Nat.add_mul, Nat.one_mul, ← HAQ.out], P5.out, B5.out⟩
      case measure => simp [intOf]; omega
    · have hqn : q = np := by
        rcases Nat.lt_or_ge q np with h2 | h2
        · exact absurd ((npc_lt (n := n) (c := c) hh.1).2 (by rw [← HQ.out]; exact h2)) (by rw [← haq]; exact h1)
        · omega
      subst hqn
      clear hrel hP hB haq
      go_wp2
      go_ret2
      exact ⟨_, rfl, HP.out, HBW.out⟩

set_option maxRecDepth 100000 in
theorem sPcs_bad {w : World} {v : Value} {n : Nat} {c h : Int} {xs ys : Nat → Nat} (hv : Fp w v n xs ys) (hn : n ≤ 1048576) (hg : ¬ GPc n c h) (C : Nat → Nat → Option Nat × Option Nat) :
    Calls Tryz.prog 7 #[v, .int .i64 c, .int .i64 h] w fun e w' => Ppe w w' e 0 0 C false := by
  have i1 := sH8_any c
  have i2 := Wv.in_any h 1 128
  have hnot : ∀ (x : Bool) (w : World), (Op.unary .not (.bool x)).run Tryz.prog w = .ok (.bool (!x)) w := fun _ _ => rfl
  have OS : Hid (Pcs (w.alloc (.cells #[] 24)) w.heap.size (.slice (some ⟨w.heap.size, 0, none⟩) 0 0) 0 0 C) := Pcs.start w 0 _
  have BS : Hid (Below w.heap.size w (w.alloc (.cells #[] 24))) := below_one _ _
  obtain ⟨ao, cap, rfl, hcap, hcc⟩ := hv
  clear hcc
  by_cases h1 : H8 c
  · rw [decide_eq_true h1] at i1
    by_cases h2 : 1 ≤ h ∧ h ≤ 128
    · rw [decide_eq_true h2] at i2
      have h3 : 128 < n := by omega
      clear hg h1
      go_enter Tryz.func7, Tryz.ntmps7
      go_wp2_with (first | (go_at_call 21; refine (i1 _).mono ?_; rintro e w' ⟨rfl, hw⟩; obtain rfl := hw.symm) | (go_at_call 22; refine (i2 _).mono ?_; rintro e w' ⟨rfl, hw⟩; obtain rfl := hw.symm))
      go_ret2
      exact ⟨_, rfl, OS.out, BS.out⟩
    · rw [decide_eq_false h2] at i2
      clear hg h1 h2
      go_enter Tryz.func7, Tryz.ntmps7
      go_wp2_with (first | (go_at_call 21; refine (i1 _).mono ?_; rintro e w' ⟨rfl, hw⟩; obtain rfl := hw.symm) | (go_at_call 22; refine (i2 _).mono ?_; rintro e w' ⟨rfl, hw⟩; obtain rfl := hw.symm))
      go_ret2
      exact ⟨_, rfl, OS.out, BS.out⟩
  · rw [decide_eq_false h1] at i1
    clear hg h1
    go_enter Tryz.func7, Tryz.ntmps7
    go_wp2_with (first | (go_at_call 21; refine (i1 _).mono ?_; rintro e w' ⟨rfl, hw⟩; obtain rfl := hw.symm))
    go_ret2
    exact ⟨_, rfl, OS.out, BS.out⟩
end Go.Proofs.YtddbekacdfohpaaGreatDoor

namespace Go.Proofs.YtddbekacdfohpaaGreatDoor
open Go.RowKit

/-- The capacity of a slice. -/
def capOf : Value → Nat
  | .slice _ _ c => c
  | _ => 0

theorem pcs_lt {w : World} {B n c : Nat} {o : Value} {C : Nat → Nat → Option Nat × Option Nat} (h : Pcs w B o n c C) (g : Nat) (hg : o.ownBlock = some g) : B ≤ g ∧ g < w.heap.size := by
  obtain ⟨gs, cs, F, X, Y, h1, _, _⟩ := h
  exact World.ownsRow.lt h1.row g hg

theorem pcs_some {w : World} {B n c g oc : Nat} {oo : Option Addr} {C : Nat → Nat → Option Nat × Option Nat} (h : Pcs w B (.slice oo n oc) n c C) (hg : (Value.slice oo n oc).ownBlock = some g) : ∃ _ : Nat, oo = some ⟨g, 0, none⟩ := by
  obtain ⟨gs, cs, F, X, Y, h1, _, _⟩ := h
  rcases h1.row.2 with ⟨h', _⟩ | ⟨g', cap', cur, h', _⟩
  · rw [h'] at hg
    cases hg
  · rw [h'] at hg
    injection hg with hg
    injection h' with e
    exact ⟨0, by rw [e, show g' = g from hg]⟩

theorem hv_next {w w' : World} {n G2 : Nat} {o : Value} {ob : Obj} (h : Hv w (n + 1) ⟨n, 0, none⟩ false) (hg : (w.alloc ob).grownBy w' o.ownBlock) (hs : ∀ go, o.ownBlock = some go → G2 ≤ go ∧ go < w.heap.size ∧ ∀ u, w.cell? ⟨go, 0, none⟩ = some u → ∃ a l c, u = .slice a l c) (h1 : 1 ≤ n) (h2 : G2 = n + 2) : Hv w' (n + 1) ⟨n, 0, none⟩ false := by
  have hb := h.below (below_one w ob)
  cases ho : o.ownBlock with
  | none =>
    rw [ho] at hg
    exact hb.kp (w' := w') ⟨hg.os, hg.tape, hg.output, hg.size, fun k hk _ => hg.block k hk (by simp)⟩ ⟨Nat.lt_of_lt_of_le hb.wh.1 hg.size, fun j hj => (hb.wh.2 j hj).same ⟨hg.os, hg.tape, hg.output, hg.size, fun k hk _ => hg.block k hk (by simp)⟩ (fun i _ => World.cell?_of_block (w := w.alloc ob) (a := ⟨n + 1, i, none⟩) (hg.block _ hb.wh.1 (by simp))) (fun i => World.frozen?_of_block (w := w.alloc ob) (a := ⟨n + 1, i, none⟩) (hg.block _ hb.wh.1 (by simp)))⟩
  | some go =>
    rw [ho] at hg
    obtain ⟨h3, hlt, h4⟩ := hs go ho
    refine hb.grown hg (fun u hu => ?_) (by omega) (by show go ≠ n; omega) (by omega)
    exact h4 u (((below_one w ob).cell (p := ⟨go, 0, none⟩) hlt).symm.trans hu)

set_option maxRecDepth 100000 in
theorem iPcs_bad {w : World} {v : Value} {n : Nat} {c h : Int} {xs ys : Nat → Nat} (hv : Fp w v n xs ys) (hn : n ≤ 1048576) (hg : ¬ GPc n c h) (C : Nat → Nat → Option Nat × Option Nat) :
    Calls Tryz.prog 6 #[v, .int .i64 c, .int .i64 h] w fun e w' => Ppe w w' e 0 0 C false := by
  have i1 := iH8_any c
  have hnot : ∀ (x : Bool) (w : World), (Op.unary .not (.bool x)).run Tryz.prog w = .ok (.bool (!x)) w := fun _ _ => rfl
  have OS : Hid (Pcs (w.alloc (.cells #[] 24)) w.heap.size (.slice (some ⟨w.heap.size, 0, none⟩) 0 0) 0 0 C) := Pcs.start w 0 _
  have BS : Hid (Below w.heap.size w (w.alloc (.cells #[] 24))) := below_one _ _
  obtain ⟨ao, cap, rfl, hcap, hcc⟩ := hv
  clear hcc
  by_cases h1 : H8 c
  · rw [decide_eq_true h1] at i1
    by_cases h2 : 1 ≤ h
    · by_cases h4 : h ≤ 128
      · have h3 : 128 < n := by omega
        have b1 : decide (h < 1) = false := by simp; omega
        have b2 : decide (128 < h) = false := by simp; omega
        clear hg h1
        go_enter Tryz.func6, Tryz.ntmps6
        go_wp2_with (first | (go_at_call 16; refine (i1 _).mono ?_; rintro e w' ⟨rfl, hw⟩; obtain rfl := hw.symm))
        go_ret2
        exact ⟨_, rfl, OS.out, BS.out⟩
      · have b1 : decide (h < 1) = false := by simp; omega
        have b2 : decide (128 < h) = true := by simp; omega
        clear hg h1
        go_enter Tryz.func6, Tryz.ntmps6
        go_wp2_with (first | (go_at_call 16; refine (i1 _).mono ?_; rintro e w' ⟨rfl, hw⟩; obtain rfl := hw.symm))
        go_ret2
        exact ⟨_, rfl, OS.out, BS.out⟩
    · have b1 : decide (h < 1) = true := by simp; omega
      clear hg h1
      go_enter Tryz.func6, Tryz.ntmps6
      go_wp2_with (first | (go_at_call 16; refine (i1 _).mono ?_; rintro e w' ⟨rfl, hw⟩; obtain rfl := hw.symm))
      go_ret2
      exact ⟨_, rfl, OS.out, BS.out⟩
  · rw [decide_eq_false h1] at i1
    clear hg h1
    go_enter Tryz.func6, Tryz.ntmps6
    go_wp2_with (first | (go_at_call 16; refine (i1 _).mono ?_; rintro e w' ⟨rfl, hw⟩; obtain rfl := hw.symm))
    go_ret2
    exact ⟨_, rfl, OS.out, BS.out⟩

set_option maxRecDepth 100000 in
set_option maxHeartbeats 4000000 in
theorem iPcs_good {w : World} {v : Value} {n c h j : Nat} {xs ys : Nat → Nat} (hv : Fp w v n xs ys) (hn : n ≤ 128) (hj : j < 8) (hc : c = 2 ^ j) (hh : 1 ≤ h ∧ h ≤ 128) (hbr : Brj w) :
    Calls Tryz.prog 6 #[v, .int .i64 (c : Int), .int .i64 (h : Int)] w fun e w' => Ppe w w' e (npc n c h) c (pcC j h xs ys) true := by
  have h8 := pow_cases hj hc
  have hc1 : 1 ≤ c ∧ c ≤ 128 := by omega
  have i1 := iH8_any (c : Int)
  rw [decide_eq_true (show H8 (c : Int) by omega)] at i1
  have b1 : decide ((h : Int) < 1) = false := by simp; omega
  have b2 : decide (128 < (h : Int)) = false := by simp; omega
  have b3 : decide (128 < (n : Int)) = false := by simp; omega
  have j2 := new_any false w
  have hnot : ∀ (x : Bool) (w : World), (Op.unary .not (.bool x)).run Tryz.prog w = .ok (.bool (!x)) w := fun _ _ => rfl
  have HV : Hid (Fp w v n xs ys) := hv
  have HJ : Hid (c = 2 ^ j) := hc
  have HBR : Hid (Brj w) := hbr
  have HNP : Hid (npc n c h ≤ 128) := Nat.le_trans (npc_le hc1.1) hn
  obtain ⟨ao, cap, rfl, hcap, hcc⟩ := hv
  have HCC : Hid (0 < n → ∃ b off, ao = some ⟨b, off, none⟩ ∧ b < w.heap.size) := fun h0 => by obtain ⟨b, off, h1, h2, _⟩ := hcc h0; exact ⟨b, off, h1, h2⟩
  clear hcc hc h8 hbr
  obtain ⟨np, hnp⟩ : ∃ np, np = npc n c h := ⟨_, rfl⟩
  rw [← hnp] at HNP ⊢
  have HQ : Hid (np = npc n c h) := hnp
  clear hnp
  go_enter Tryz.func6, Tryz.ntmps6
  go_wp2_with (first
    | (go_at_call 16; refine (i1 _).mono ?_; rintro e w' ⟨rfl, hw⟩; obtain rfl := hw.symm)
    | (go_at_call 17; (with_reducible refine j2.mono ?_); rintro e w2 ⟨rfl, h1, h2, h3, b2⟩; have bl2 := below_one w2 (.cells #[] 24); have H2 : Hid (Hv (w2.alloc (.cells #[] 24)) (w.heap.size + 1) ⟨w.heap.size, 0, none⟩ false) := Hv.below ⟨h1, HBR.out.below b2, by have := HBR.out.size; omega, h2, by simp⟩ bl2; have B2 : Hid (Below w.heap.size w (w2.alloc (.cells #[] 24))) := bstep b2 bl2; have S2 : Hid (w2.heap.size = w.heap.size + 2) := h3; have P2 : Hid (Pcs (w2.alloc (.cells #[] 24)) w2.heap.size (.slice (some ⟨w2.heap.size, 0, none⟩) 0 0) 0 c (pcC j h xs ys)) := Pcs.start w2 c _; have BB2 : Hid (w2.heap.size ≤ (w2.alloc (.cells #[] 24)).heap.size) := bl2.size; clear h1 h2 h3 b2 j2 bl2))
  clear i1
  go_loopw [9, 10] (fun o i wr => ∃ q a : Nat, i = .int .i64 (a : Int) ∧ q ≤ np ∧ a ≤ 256 ∧ Hid (a = q * h ∧ Pcs wr w2.heap.size o q c (pcC j h xs ys) ∧ Below w.heap.size w wr ∧ Hv wr (w.heap.size + 1) ⟨w.heap.size, 0, none⟩ false ∧ w2.heap.size ≤ wr.heap.size ∧ (q = 0 → capOf o = 0))) (fun _ i _ => 400 - (intOf i).toNat)
  case atStart => exact ⟨0, 0, rfl, by omega, by omega, (Nat.zero_mul h).symm, P2.out, B2.out, H2.out, BB2.out, fun _ => rfl⟩
  case round =>
    obtain ⟨q, a, rfl, hq, ha, hrel⟩ := hrel
    obtain ⟨haq, hP, hB, hH, hS, hq0⟩ := hrel.out
    obtain ⟨oo, oc, rfl⟩ := hP.open
    have HAQ : Hid (a = q * h) := haq
    have HP : Hid (Pcs wr w2.heap.size (.slice oo q oc) q c (pcC j h xs ys)) := hP
    have HBW : Hid (Below w.heap.size w wr) := hB
    have HHV : Hid (Hv wr (w.heap.size + 1) ⟨w.heap.size, 0, none⟩ false) := hH
    have HSS : Hid (w2.heap.size ≤ wr.heap.size) := hS
    have HFST : Hid (∀ go, (Value.slice oo q oc).ownBlock = some go → ∀ W, Kp (w.heap.size + 1) wr W → w2.heap.size ≤ go ∧ go < W.heap.size ∧ ∀ u, W.cell? ⟨go, 0, none⟩ = some u → ∃ a l c, u = .slice a l c) := fun go hgo W hW => by
      have hlt := pcs_lt hP go hgo
      obtain ⟨oo', rfl⟩ : ∃ x : Nat, oo = some ⟨go, 0, none⟩ := pcs_some hP hgo
      refine ⟨hlt.1, Nat.lt_of_lt_of_le hlt.2 hW.size, fun u hu => hP.first hq0 u ?_⟩
      rw [← hu]
      exact (hW.cell (p := ⟨go, 0, none⟩) hlt.2 (by have := S2.out; have := hlt.1; show go ≠ w.heap.size + 1; omega)).symm
    by_cases h1 : a + c ≤ n
    · obtain ⟨b, off, rfl, hlt⟩ := HCC.out (by omega)
      have hqn : q < np := by rw [HQ.out]; exact (npc_lt hh.1).1 (by rw [← haq]; exact h1)
      have ha2 : a + h ≤ 256 := by have := npc_at (n := n) (c := c) (h := h) (q := q + 1) hh.1 hh.2 hn (by rw [← HQ.out]; omega); rw [Nat.add_mul, Nat.one_mul, ← haq] at this; exact this
      have FC : Fp wr (.slice (some ⟨b, off + a * 2, none⟩) c (cap - a)) c (fun t => xs (a + t)) (fun t => ys (a + t)) := fp_cut (HV.out.below hB) h1 (by omega)
      have j1 := toCs_any FC (by omega)
      have d1 : (a : Int) + (c : Int) - (a : Int) = (c : Int) := by omega
      have d2 : ¬ (cap = a) := by omega
      have hq128 : q ≤ 128 := by have := HNP.out; omega
      clear hrel hP hB haq hH hS hq0 FC P2 B2 H2 BB2 hlt
      go_wp2_with (first
        | (go_at_call 20; (with_reducible refine j1.mono ?_); rintro e w3 ⟨rfl, z3, b3⟩; have Z3 : Hid (Zr w3 wr.heap.size c (fun t => xs (a + t)) (fun t => ys (a + t))) := z3; have B3 : Hid (Below wr.heap.size wr w3) := b3; have hlw : w.heap.size + 2 ≤ wr.heap.size := S2.out ▸ HSS.out; have j3 := halves_any j hj c HJ.out false w3 (w.heap.size + 1) ⟨w.heap.size, 0, none⟩ wr.heap.size _ _ (fun t => (cn (xs (a + t)), cn (ys (a + t)))) (HHV.out.below b3) z3 (by omega) (fun k _ => rfl); clear z3 b3 j1)
        | (go_at_call 19; (with_reducible refine j3.mono ?_); rintro e w4 ⟨g4, X4, Y4, rfl, z4, _, f4, wh4, k4⟩; have Z4 : Hid (Zr w4 g4 c X4 Y4) := z4; have F4 : Hid (∀ k, k < c → (cn (X4 k), cn (Y4 k)) = fast false j (fun t => (cn (xs (a + t)), cn (ys (a + t)))) k) := f4; have K4 : Hid (Kp (w.heap.size + 1) wr w4) := (((Kp.refl _ wr).below B3.out).trans k4); have H4 : Hid (Hv w4 (w.heap.size + 1) ⟨w.heap.size, 0, none⟩ false) := (HHV.out.below B3.out).kp k4 wh4; have j4 := toPs_any z4 (by omega); clear z4 f4 k4 wh4 j3)
        | (go_at_call 18; (with_reducible refine j4.mono ?_); rintro e w5 ⟨b5, u5, L5, rfl, f5, o5⟩; have K5 : Hid (Kp (w.heap.size + 1) wr w5) := K4.out.below b5; have H5 : Hid (Hv w5 (w.heap.size + 1) ⟨w.heap.size, 0, none⟩ false) := H4.out.below b5; obtain ⟨v6, w6, ha6, hp6, hb6, hg6⟩ := Pcs.app (w := w5) HP.out (fun g hg hl => K5.out.block g hl (by have := S2.out; omega)) K5.out.size HSS.out (by omega) (own_base o5 K4.out.size) f5 (fun k hk => (F4.out k hk).trans (by rw [HAQ.out]; rfl)) hq128; have B6 : Hid (Below w.heap.size w w6) := (Kp.after HBW.out (by omega) (by omega) K5.out).trans (hb6.mono (by have := S2.out; omega)); have P6 : Hid (Pcs w6 w2.heap.size v6 (q + 1) c (pcC j h xs ys)) := hp6; have HA6 : Hid _ := ha6; have HH6 : Hid (Hv w6 (w.heap.size + 1) ⟨w.heap.size, 0, none⟩ false) := hv_next H5.out hg6 (fun go hgo => (HFST.out go hgo _ K5.out)) (by have := HBR.out.size; omega) S2.out; have SS6 : Hid (w2.heap.size ≤ w6.heap.size) := Nat.le_trans (Nat.le_trans HSS.out K5.out.size) hb6.size; obtain ⟨ua, uc, hu, _⟩ := f5; subst hu; clear ha6 hp6 hb6 hg6 o5 b5 j4)
        | (at_builtin; refine wpList_appr rfl _ _ rfl rfl rfl rfl HA6.out ?_))
      go_roundw
      case rel => exact ⟨q + 1, a + h, by go_num, by omega, by omega, by rw [Nat.add_mul, Nat.one_mul, ← HAQ.out], P6.out, B6.out, HH6.out, SS6.out, fun h => by omega⟩
      case measure => simp [intOf]; omega
    · have hqn : q = np := by
        rcases Nat.lt_or_ge q np with h2 | h2
        · exact absurd ((npc_lt (n := n) (c := c) hh.1).2 (by rw [← HQ.out]; exact h2)) (by rw [← haq]; exact h1)
        · omega
      subst hqn
      have PB : Hid (Pcs wr w.heap.size (.slice oo q oc) q c (pcC j h xs ys)) := HP.out.base (by have := S2.out; omega)
      clear hrel hP hB haq hH hS hq0 HFST
      go_wp2
      go_ret2
      exact ⟨_, rfl, PB.out, HBW.out⟩
end Go.Proofs.YtddbekacdfohpaaGreatDoor
