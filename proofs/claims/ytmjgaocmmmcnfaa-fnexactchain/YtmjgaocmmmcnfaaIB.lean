/- Iir in plain numbers; what is a section, a past, a modest list. -/
import Derived.Test.YtmjgaocmmmcnfaaRC
import Derived.Test.YtmjgaocmmmcnfaaWA
namespace Go.Proofs.Ytmjgaocmmmcnfaa
open Go.RowKit

/-- A section. -/
structure Se where
  b0 : Int
  b1 : Int
  b2 : Int
  a1 : Int
  a2 : Int

/-- A past. -/
structure Pa where
  x1 : Int
  x2 : Int
  y1 : Int
  y2 : Int
  e : Int

/-- As values. -/
abbrev Se.v (s : Se) : Value := .agg #[.int .i64 s.b0, .int .i64 s.b1, .int .i64 s.b2, .int .i64 s.a1, .int .i64 s.a2]
abbrev Pa.v (p : Pa) : Value := .agg #[.int .i64 p.x1, .int .i64 p.x2, .int .i64 p.y1, .int .i64 p.y2, .int .i64 p.e]

/-- As lists of numbers. -/
def Se.n (s : Se) (k : Nat) : Int := match k with | 0 => s.b0 | 1 => s.b1 | 2 => s.b2 | 3 => s.a1 | _ => s.a2
def Pa.n (p : Pa) (k : Nat) : Int := match k with | 0 => p.x1 | 1 => p.x2 | 2 => p.y1 | _ => p.y2

abbrev Se.ok (s : Se) : Prop := Wth 65536 5 s.n
abbrev Pa.ok (p : Pa) : Prop := Wth 1000000 4 p.n ∧ (0 ≤ p.e ∧ p.e ≤ 16383)

theorem rgd {s : Se} {p : Pa} (hs : s.ok) (hp : p.ok) : Rgd s.b0 s.b1 s.b2 s.a1 s.a2 p.x1 p.x2 p.y1 p.y2 p.e :=
  ⟨hs 0 (by omega), hs 1 (by omega), hs 2 (by omega), hs 3 (by omega), hs 4 (by omega), hp.1 0 (by omega), hp.1 1 (by omega), hp.1 2 (by omega), hp.1 3 (by omega), hp.2⟩

/-- What is reckoned of a sample. -/
def tt (s : Se) (p : Pa) (x : Int) : Int := rct s.b0 s.b1 s.b2 s.a1 s.a2 p.x1 p.x2 p.y1 p.y2 p.e x

/-- What is told of it. -/
def yy (s : Se) (p : Pa) (x : Int) : Int := tap (tt s p x / 16384)

/-- The past behind it. -/
def nx (s : Se) (p : Pa) (x : Int) : Pa := ⟨x, p.x1, yy s p x, p.y1, tt s p x % 16384⟩

/-- The past behind k samples. -/
def pas (s : Se) (p : Pa) (xs : Nat → Int) : Nat → Pa
  | 0 => p
  | k + 1 => nx s (pas s p xs k) (xs k)

/-- All that is told. -/
def irs (s : Se) (p : Pa) (xs : Nat → Int) (k : Nat) : Int := yy s (pas s p xs k) (xs k)

theorem nx_ok {s : Se} {p : Pa} {x : Int} (hp : p.ok) (hx : -1000000 ≤ x ∧ x ≤ 1000000) : (nx s p x).ok := by
  refine ⟨fun k hk => ?_, ?_⟩
  · match k, hk with
    | 0, _ => exact hx
    | 1, _ => exact hp.1 0 (by omega)
    | 2, _ => exact tap_bounds _
    | 3, _ => exact hp.1 2 (by omega)
  · show 0 ≤ tt s p x % 16384 ∧ tt s p x % 16384 ≤ 16383
    omega

theorem pas_ok {s : Se} {p : Pa} {n : Nat} {xs : Nat → Int} (hp : p.ok) (hx : Wth 1000000 n xs) : ∀ k, k ≤ n → (pas s p xs k).ok
  | 0, _ => hp
  | k + 1, hk => nx_ok (pas_ok hp hx k (by omega)) (hx k (by omega))

/-- A recursive filter with a section and a past. -/
def Rk (W : World) (G : Nat) (s : Se) (p : Pa) : Prop := Rc W G s.b0 s.b1 s.b2 s.a1 s.a2 p.x1 p.x2 p.y1 p.y2 p.e

theorem iirs_run {w : World} {v : Value} {n G : Nat} {xs : Nat → Int} {s : Se} {p : Pa} (hv : Il w v n xs) (hn : n ≤ 1048576) (hx : Wth 1000000 n xs) (hs : s.ok) (hp : p.ok) (hr : Rk w G s p) (hl : 0 < n → ∀ b off n' c, v = .slice (some ⟨b, off, none⟩) n' c → ¬ b = G) :
    Calls Try.prog 26 #[.iface 53 (.pointer (some ⟨G, 0, none⟩)), v] w fun e w' => ∃ v', e = .returned v' ∧ w'.ownsRow w.heap.size 3 1 v' n (ils (irs s p xs) n) ∧ Rk w' G s (pas s p xs n) ∧ Kd (fun g => g = G) w w' := by
  have l1 := hr.lt
  refine runR hv hn ⟨G, 0, none⟩ (fun g => g = G) (fun g => g = G) (fun k W => Rk W G s (pas s p xs k)) (irs s p xs) ?_ (by rintro g rfl; exact l1) (by rintro g rfl; exact l1) hl ?_ hr
  · rintro k W W' h1 he
    exact Rc.block h1 (he G rfl)
  · rintro k W hk h1
    exact rStep h1 (rgd hs (pas_ok hp hx k (by omega))) (hx k hk)

/-- A list literal of five, of four. -/
theorem il_five (w : World) (s : Se) (t : TypeId) : Il (w.alloc (.cells #[.int .i64 s.b0, .int .i64 s.b1, .int .i64 s.b2, .int .i64 s.a1, .int .i64 s.a2] t)) (.slice (some ⟨w.heap.size, 0, none⟩) 5 5) 5 s.n := by
  refine ⟨_, _, rfl, Nat.le_refl _, fun _ => ⟨_, _, rfl, by simp, fun k hk => ?_⟩⟩
  match k, hk with
  | 0, _ => simp [Se.n]
  | 1, _ => simp [Se.n]
  | 2, _ => simp [Se.n]
  | 3, _ => simp [Se.n]
  | 4, _ => simp [Se.n]

theorem il_four (w : World) (p : Pa) (t : TypeId) : Il (w.alloc (.cells #[.int .i64 p.x1, .int .i64 p.x2, .int .i64 p.y1, .int .i64 p.y2] t)) (.slice (some ⟨w.heap.size, 0, none⟩) 4 4) 4 p.n := by
  refine ⟨_, _, rfl, Nat.le_refl _, fun _ => ⟨_, _, rfl, by simp, fun k hk => ?_⟩⟩
  match k, hk with
  | 0, _ => simp [Pa.n]
  | 1, _ => simp [Pa.n]
  | 2, _ => simp [Pa.n]
  | 3, _ => simp [Pa.n]

/-- A section put into memory, and the list of its numbers. -/
abbrev Se.w (s : Se) (w : World) : World := w.alloc (.cells #[.int .i64 s.b0, .int .i64 s.b1, .int .i64 s.b2, .int .i64 s.a1, .int .i64 s.a2] 30)
abbrev Se.l (s : Se) (w : World) : World := w.alloc (.cells #[.int .i64 s.b0, .int .i64 s.b1, .int .i64 s.b2, .int .i64 s.a1, .int .i64 s.a2] 3)
abbrev Pa.w (p : Pa) (w : World) : World := w.alloc (.cells #[.int .i64 p.x1, .int .i64 p.x2, .int .i64 p.y1, .int .i64 p.y2, .int .i64 p.e] 27)
abbrev Pa.l (p : Pa) (w : World) : World := w.alloc (.cells #[.int .i64 p.x1, .int .i64 p.x2, .int .i64 p.y1, .int .i64 p.y2] 3)

set_option maxHeartbeats 1000000 in
theorem iSec_any (s : Se) (w : World) : Calls Try.prog 23 #[s.v] w fun e w' => e = .returned (.bool (decide s.ok)) ∧ Below w.heap.size w w' := by
  obtain ⟨d, hd⟩ : ∃ d, d = decide s.ok := ⟨_, rfl⟩
  rw [← hd]
  have i1 := iWth_any (M := 65536) (il_five (s.w w) s 3) (by omega) (by omega)
  rw [← hd, show (s.w w).heap.size = w.heap.size + 1 by simp] at i1
  clear hd
  have hb : Below w.heap.size w (s.l (s.w w)) := bstep (below_one _ _) (below_one _ _)
  go_enter Try.func23, Try.ntmps23
  go_wp2_with (first
    | (go_at_call 30; (with_reducible refine i1.mono ?_); rintro e w' ⟨rfl, hw⟩; obtain rfl := hw.symm))
  go_ret
  exact ⟨rfl, hb⟩

set_option maxHeartbeats 1000000 in
theorem iPas_any (p : Pa) (w : World) : Calls Try.prog 24 #[p.v] w fun e w' => e = .returned (.bool (decide p.ok)) ∧ Below w.heap.size w w' := by
  obtain ⟨d, hd⟩ : ∃ d, d = decide p.ok := ⟨_, rfl⟩
  rw [← hd]
  have HD : Hid (d = decide p.ok) := hd
  clear hd
  have i1 := iWth_any (M := 1000000) (il_four (p.w w) p 3) (by omega) (by omega)
  rw [show (p.w w).heap.size = w.heap.size + 1 by simp] at i1
  have hb : Below w.heap.size w (p.l (p.w w)) := bstep (below_one _ _) (below_one _ _)
  by_cases h1 : Wth 1000000 4 p.n
  · have H1 : Hid _ := h1
    rw [decide_eq_true h1] at i1
    clear h1
    by_cases h2 : 0 ≤ p.e
    · by_cases h3 : p.e < 16384
      · go_enter Try.func24, Try.ntmps24
        go_wp2_with (first
          | (go_at_call 30; (with_reducible refine i1.mono ?_); rintro e w' ⟨rfl, hw⟩; obtain rfl := hw.symm))
        go_ret
        exact ⟨congrArg (fun z => Ending.returned (.bool z)) (by rw [HD.out]; simp [h2, decide_eq_true H1.out]; omega), hb⟩
      · go_enter Try.func24, Try.ntmps24
        go_wp2_with (first
          | (go_at_call 30; (with_reducible refine i1.mono ?_); rintro e w' ⟨rfl, hw⟩; obtain rfl := hw.symm))
        go_ret
        exact ⟨congrArg (fun z => Ending.returned (.bool z)) (by rw [HD.out, decide_eq_false (fun h : p.ok => by have := h.2.2; omega)]; first | rfl | (simp; omega)), hb⟩
    · go_enter Try.func24, Try.ntmps24
      go_wp2_with (first
        | (go_at_call 30; (with_reducible refine i1.mono ?_); rintro e w' ⟨rfl, hw⟩; obtain rfl := hw.symm))
      go_ret
      exact ⟨congrArg (fun z => Ending.returned (.bool z)) (by rw [HD.out]; simp; omega), hb⟩
  · have H1 : Hid _ := h1
    rw [decide_eq_false h1] at i1
    clear h1
    go_enter Try.func24, Try.ntmps24
    go_wp2_with (first
      | (go_at_call 30; (with_reducible refine i1.mono ?_); rintro e w' ⟨rfl, hw⟩; obtain rfl := hw.symm))
    go_ret
    exact ⟨congrArg (fun z => Ending.returned (.bool z)) (by rw [HD.out]; exact (decide_eq_false (fun h => H1.out h.1)).symm), hb⟩
end Go.Proofs.Ytmjgaocmmmcnfaa
