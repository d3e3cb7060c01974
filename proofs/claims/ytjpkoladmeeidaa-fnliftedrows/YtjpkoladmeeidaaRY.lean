/- Lift2 and Unlift2: the program. -/
import Derived.Test.YtjpkoladmeeidaaRD
namespace Go.Proofs.Ytjpkoladmeeidaa
open Go.RowKit

/-- A plane lifted: each row, then each column. -/
def Z2 (kind : Int) (n m : Nat) (X : Nat → Nat → Int) : Nat → Nat → Int := fun i j => lft kind n (fun i => lft kind m (X i) j) i

/-- .. and back: each column, then each row. -/
def U2 (kind : Int) (n m : Nat) (X : Nat → Nat → Int) : Nat → Nat → Int := fun i => ubk kind m (fun j => ubk kind n (fun i => X i j) i)

theorem Ipp.cast {w : World} {v : Value} {n : Nat} {ms ms' : Nat → Nat} {X : Nat → Nat → Int} (h : Ipp w v n ms X) (he : ∀ k, k < n → ms k = ms' k) : Ipp w v n ms' X := by
  obtain ⟨ao, cap, rfl, hcap, hc⟩ := h
  refine ⟨ao, cap, rfl, hcap, fun h0 => ?_⟩
  obtain ⟨b, off, R, hb, hlt, hr⟩ := hc h0
  refine ⟨b, off, R, hb, hlt, fun k hk => ⟨(hr k hk).1, ?_⟩⟩
  have := (hr k hk).2
  rw [he k hk] at this
  exact this

theorem OPI.base {w : World} {B B' H : Nat} {v : Value} {n : Nat} {ms : Nat → Nat} {X : Nat → Nat → Int} (h : OPI w B H v n ms X) (hB : B' ≤ B) : OPI w B' H v n ms X := by
  obtain ⟨g, cap, R, Bs, hv, hcap, h1, h2, h3, h4, hlt, hr⟩ := h
  exact ⟨g, cap, R, Bs, hv, hcap, Nat.le_trans hB h1, h2, h3, h4, hlt, hr⟩

theorem OPI.empty (w : World) (ms : Nat → Nat) (X : Nat → Nat → Int) : OPI (w.alloc (.cells #[] 29)) w.heap.size (w.alloc (.cells #[] 29)).heap.size (.slice (some ⟨w.heap.size, 0, none⟩) 0 0) 0 ms X :=
  ⟨w.heap.size, 0, fun _ => .bool false, fun _ => w.heap.size + 1, rfl, Nat.le_refl _, Nat.le_refl _, Nat.lt_succ_self _, fun k hk => absurd hk (by omega), by simp, by simp, fun k hk => absurd hk (by omega)⟩

theorem not_of {d : Bool} {P : Prop} (h : d = true ↔ P) (hp : ¬ P) : d = false := by
  cases d
  · rfl
  · exact absurd (h.1 rfl) hp

/-- Rows told, in memory of their own. -/
def PsO (w w' : World) (e : Ending) (n m : Nat) (Z : Nat → Nat → Int) (ok : Bool) : Prop := ∃ u, e = .returned (.tuple #[u, .bool ok]) ∧ OPI w' w.heap.size w'.heap.size u n (fun _ => m) Z ∧ Below w.heap.size w w'

set_option maxHeartbeats 4000000 in
theorem iL2_good {w : World} {v : Value} {n m : Nat} {ms : Nat → Nat} {X : Nat → Nat → Int} {kind : Int} (hk : Knd kind) (hv : Ipp w v n ms X) (hg : Pln 1000000000 n ms X) (hms : ∀ k, k < n → ms k = m) (hm64 : m ≤ 64) :
    Calls Try.prog 6 #[.int .i64 kind, v] w fun e w' => PsO w w' e n m (Z2 kind n m X) true := by
  have i1 := iKind_any kind
  rw [decide_eq_true hk] at i1
  have i2 := iPl9 hv (by have := hg.1; omega) (fun k hk => by have := (hg.2 k hk).2.1; omega)
  have HV : Hid (Ipp w v n (fun _ => m) X) := hv.cast hms
  have hn := hg.1
  have HX1 : Hid (∀ k, k < n → Wth 1000000000 m (X k)) := fun k hk2 => by have := (hg.2 k hk2).2.2; rw [hms k hk2] at this; exact this
  have HX2 : Hid (∀ k, k < n → Wth (5 * 1000000000) m ((fun k => (lft kind) m (X k)) k)) := fun k hk2 => (chg_lift hk).wth (by omega) (HX1.out k hk2)
  have HG : Hid (Pln 1000000000 n ms X) := hg
  have i3 := iRows25 (chg_lift hk) HV.out (by omega) (fun _ _ => (by show m ≤ 1048576; omega)) (show (4 : Int) ≤ 1000000000 by omega) (show (1000000000 : Int) ≤ 1000000000000000 by omega) HX1.out
  clear hg
  go_enter Try.func6, Try.ntmps6
  go_wp2_with (first
      | (go_at_call 14; (with_reducible refine (i1 _).mono ?_); rintro e w' ⟨rfl, hw⟩; obtain rfl := hw.symm)
      | (go_at_call 15; (with_reducible refine i2.mono ?_); rintro e w' ⟨⟨d, rfl, hd⟩, hw⟩; obtain rfl := hw.symm; obtain rfl := hd.2 HG.out; clear hd)
      | (go_at_call 18; (with_reducible refine i3.mono ?_); rintro e W1 ⟨v1, rfl, ho, hb⟩; have O1 : Hid (OPI W1 w.heap.size W1.heap.size v1 n (fun _ => m) (fun k => (lft kind) m (X k))) := ho; have B1 : Hid (Below w.heap.size w W1) := hb; clear ho hb; have i4 := iCols25 (chg_lift hk) (O1.out.ipp) (by omega) hm64 (fun _ _ => rfl) (show (4 : Int) ≤ 5 * 1000000000 by omega) (show (5 * 1000000000 : Int) ≤ 1000000000000000 by omega) HX2.out)
      | (go_at_call 17; (with_reducible refine i4.mono ?_); rintro e W2 ⟨v2, rfl, ho, hb⟩; have O2 : Hid (OPI W2 W1.heap.size W2.heap.size v2 n (fun _ => m) (Z2 kind n m X)) := ho; have B2 : Hid (Below W1.heap.size W1 W2) := hb; clear ho hb))
  go_ret2
  exact ⟨_, rfl, O2.out.base B1.out.size, bstep B1.out B2.out⟩

set_option maxHeartbeats 4000000 in
theorem iL2_bad {w : World} {v : Value} {n : Nat} {ms : Nat → Nat} {X : Nat → Nat → Int} {kind : Int} (hv : Ipp w v n ms X) (hn : n ≤ 1048576) (hms : ∀ k, k < n → ms k ≤ 1048576) (hg : ¬ (Knd kind ∧ Pln 1000000000 n ms X)) (Z : Nat → Nat → Int) :
    Calls Try.prog 6 #[.int .i64 kind, v] w fun e w' => PsO w w' e 0 0 Z false := by
  have i1 := iKind_any kind
  have i2 := iPl9 hv hn hms
  by_cases hk : Knd kind
  · rw [decide_eq_true hk] at i1
    have HG : Hid (¬ Pln 1000000000 n ms X) := fun h => hg ⟨hk, h⟩
    clear hg hk
    go_enter Try.func6, Try.ntmps6
    go_wp2_with (first
      | (go_at_call 14; (with_reducible refine (i1 _).mono ?_); rintro e w' ⟨rfl, hw⟩; obtain rfl := hw.symm)
      | (go_at_call 15; (with_reducible refine i2.mono ?_); rintro e w' ⟨⟨d, rfl, hd⟩, hw⟩; obtain rfl := hw.symm; obtain rfl : d = false := not_of hd HG.out; clear hd))
    go_ret2
    exact ⟨_, rfl, OPI.empty w _ _, below_one _ _⟩
  · rw [decide_eq_false hk] at i1
    go_enter Try.func6, Try.ntmps6
    go_wp2_with (first
      | (go_at_call 14; (with_reducible refine (i1 _).mono ?_); rintro e w' ⟨rfl, hw⟩; obtain rfl := hw.symm))
    go_ret2
    exact ⟨_, rfl, OPI.empty w _ _, below_one _ _⟩

set_option maxHeartbeats 4000000 in
theorem iU2_good {w : World} {v : Value} {n m : Nat} {ms : Nat → Nat} {X : Nat → Nat → Int} {kind : Int} (hk : Knd kind) (hv : Ipp w v n ms X) (hg : Pln 8000000000 n ms X) (hms : ∀ k, k < n → ms k = m) (hm64 : m ≤ 64) :
    Calls Try.prog 9 #[.int .i64 kind, v] w fun e w' => PsO w w' e n m (U2 kind n m X) true := by
  have i1 := iKind_any kind
  rw [decide_eq_true hk] at i1
  have i2 := iPl8 hv (by have := hg.1; omega) (fun k hk => by have := (hg.2 k hk).2.1; omega)
  have HV : Hid (Ipp w v n (fun _ => m) X) := hv.cast hms
  have hn := hg.1
  have HX1 : Hid (∀ k, k < n → Wth 8000000000 m (X k)) := fun k hk2 => by have := (hg.2 k hk2).2.2; rw [hms k hk2] at this; exact this
  have HX2 : Hid (∀ k, k < n → Wth (5 * 8000000000) m ((fun i j => (ubk kind) n (fun i => X i j) i) k)) := fun k hk2 j hj => (chg_back hk).wth (n := n) (xs := fun i => X i j) (by omega) (fun i hi => HX1.out i hi j hj) k hk2
  have HG : Hid (Pln 8000000000 n ms X) := hg
  have i3 := iCols30 (chg_back hk) HV.out (by omega) hm64 (fun _ _ => rfl) (show (4 : Int) ≤ 8000000000 by omega) (show (8000000000 : Int) ≤ 1000000000000000 by omega) HX1.out
  clear hg
  go_enter Try.func9, Try.ntmps9
  go_wp2_with (first
      | (go_at_call 14; (with_reducible refine (i1 _).mono ?_); rintro e w' ⟨rfl, hw⟩; obtain rfl := hw.symm)
      | (go_at_call 15; (with_reducible refine i2.mono ?_); rintro e w' ⟨⟨d, rfl, hd⟩, hw⟩; obtain rfl := hw.symm; obtain rfl := hd.2 HG.out; clear hd)
      | (go_at_call 17; (with_reducible refine i3.mono ?_); rintro e W1 ⟨v1, rfl, ho, hb⟩; have O1 : Hid (OPI W1 w.heap.size W1.heap.size v1 n (fun _ => m) (fun i j => (ubk kind) n (fun i => X i j) i)) := ho; have B1 : Hid (Below w.heap.size w W1) := hb; clear ho hb; have i4 := iRows30 (chg_back hk) (O1.out.ipp) (by omega) (fun _ _ => (by show m ≤ 1048576; omega)) (show (4 : Int) ≤ 5 * 8000000000 by omega) (show (5 * 8000000000 : Int) ≤ 1000000000000000 by omega) HX2.out)
      | (go_at_call 18; (with_reducible refine i4.mono ?_); rintro e W2 ⟨v2, rfl, ho, hb⟩; have O2 : Hid (OPI W2 W1.heap.size W2.heap.size v2 n (fun _ => m) (U2 kind n m X)) := ho; have B2 : Hid (Below W1.heap.size W1 W2) := hb; clear ho hb))
  go_ret2
  exact ⟨_, rfl, O2.out.base B1.out.size, bstep B1.out B2.out⟩

set_option maxHeartbeats 4000000 in
theorem iU2_bad {w : World} {v : Value} {n : Nat} {ms : Nat → Nat} {X : Nat → Nat → Int} {kind : Int} (hv : Ipp w v n ms X) (hn : n ≤ 1048576) (hms : ∀ k, k < n → ms k ≤ 1048576) (hg : ¬ (Knd kind ∧ Pln 8000000000 n ms X)) (Z : Nat → Nat → Int) :
    Calls Try.prog 9 #[.int .i64 kind, v] w fun e w' => PsO w w' e 0 0 Z false := by
  have i1 := iKind_any kind
  have i2 := iPl8 hv hn hms
  by_cases hk : Knd kind
  · rw [decide_eq_true hk] at i1
    have HG : Hid (¬ Pln 8000000000 n ms X) := fun h => hg ⟨hk, h⟩
    clear hg hk
    go_enter Try.func9, Try.ntmps9
    go_wp2_with (first
      | (go_at_call 14; (with_reducible refine (i1 _).mono ?_); rintro e w' ⟨rfl, hw⟩; obtain rfl := hw.symm)
      | (go_at_call 15; (with_reducible refine i2.mono ?_); rintro e w' ⟨⟨d, rfl, hd⟩, hw⟩; obtain rfl := hw.symm; obtain rfl : d = false := not_of hd HG.out; clear hd))
    go_ret2
    exact ⟨_, rfl, OPI.empty w _ _, below_one _ _⟩
  · rw [decide_eq_false hk] at i1
    go_enter Try.func9, Try.ntmps9
    go_wp2_with (first
      | (go_at_call 14; (with_reducible refine (i1 _).mono ?_); rintro e w' ⟨rfl, hw⟩; obtain rfl := hw.symm))
    go_ret2
    exact ⟨_, rfl, OPI.empty w _ _, below_one _ _⟩

end Go.Proofs.Ytjpkoladmeeidaa
