/- The program's Near, and the law. -/
import Derived.Test.YtcmjhgijejmiaaaG3
namespace Go.Proofs.Ytcmjhgijejmiaaa
open Go.RowKit

theorem run_even (args : Array Value) (w : World) : (callFunc 14 args).run Try.prog w = ((Extern.MathFloor.toIntegral "math.RoundToEven" .even args).run Try.prog w).andThen fun v w' => .ok (.value v) w' :=
  run_callFunc_extern Try.func14 (by kernel_rfl) (by kernel_rfl) (by kernel_rfl) (by kernel_rfl) args w

theorem even_body (x : Nat) : Extern.MathFloor.toIntegral "math.RoundToEven" .even #[.float .f64 x] =
    (match FloatKind.f64.decode x with
     | .nan s t => if FloatKind.f64.format.quiet t = t then pure (.float .f64 x) else
        (choose (.extern "math.Floor,Ceil,Trunc,RoundToEven.signallingNaN kept" 2)) >>= fun k => pure (.float .f64 (if k == 1 then x else FloatKind.f64.encode (.nan s (FloatKind.f64.format.quiet t))))
     | d => pure (.float .f64 (FloatKind.f64.encode (d.integral .even)))) := rfl

theorem quiet_nan (s : Bool) (t : Nat) : (Ieee.double.read (FloatKind.f64.encode (.nan s (FloatKind.f64.format.quiet t)))).isNaN = true := by
  show (Ieee.double.read (Ieee.double.word s (Ieee.double.infRung + (t ||| 2251799813685248) % Ieee.double.binade))).isNaN = true
  have hv : (t ||| 2251799813685248) % 4503599627370496 ≠ 0 := by
    intro h
    have e : ((t ||| 2251799813685248) % 2 ^ 52).testBit 51 = true := by
      rw [Nat.testBit_mod_two_pow, Nat.testBit_or, show Nat.testBit 2251799813685248 51 = true by decide]
      simp
    rw [show (2 : Nat) ^ 52 = 4503599627370496 by decide, h] at e
    simp at e
  have hl : (t ||| 2251799813685248) % 4503599627370496 < 4503599627370496 := Nat.mod_lt _ (by decide)
  unfold Ieee.Format.read Ieee.Format.word
  simp only [e_sign, e_bin, e_inf, e_least]
  generalize (t ||| 2251799813685248) % 4503599627370496 = v at *
  have a : (if s = true then 9223372036854775808 + (9218868437227405312 + v) else 9218868437227405312 + v) % 9223372036854775808 = 9218868437227405312 + v := by
    cases s <;> simp <;> omega
  rw [a, if_neg (by omega), if_neg (by omega), if_neg (by omega)]
  rfl

/-- What math.RoundToEven gives in a world, and the world behind it. -/
theorem even_any (x : Nat) (w : World) : ∃ r w', (callFunc 14 #[.float .f64 x]).run Try.prog w = .ok (.value (.float .f64 r)) w' ∧ cn r = cnear x ∧ Below w.heap.size w w' := by
  rw [run_even]
  cases hx : Ieee.double.read x with
  | nan s t =>
    have hd : FloatKind.f64.decode x = .nan s t := hx
    by_cases hq : FloatKind.f64.format.quiet t = t
    · refine ⟨x, w, ?_, ?_, Below.refl _ _⟩
      · rw [even_body, hd]
        dsimp only
        rw [if_pos hq]
        rfl
      · rw [cn_none (by rw [hx]; rfl)]; simp [cnear, hx, Ieee.Datum.isNaN]
    · refine ⟨_, w.drew, by
        rw [even_body, hd]
        dsimp only
        rw [if_neg hq]
        simp [go_sem, Question.forced]
        rfl, ?_, (Below.refl _ _).drew⟩
      have hn : cnear x = none := by simp [cnear, hx, Ieee.Datum.isNaN]
      rw [hn]
      split
      · exact cn_none (by rw [hx]; rfl)
      · exact cn_none (quiet_nan s t)
  | infinity s =>
    have hd : FloatKind.f64.decode x = .infinity s := hx
    refine ⟨_, w, by rw [even_body, hd]; rfl, ?_, Below.refl _ _⟩
    simp only [cnear, hx]
    exact cn_some (write_not_nan _ rfl)
  | number s m e =>
    have hd : FloatKind.f64.decode x = .number s m e := hx
    refine ⟨_, w, by rw [even_body, hd]; rfl, ?_, Below.refl _ _⟩
    simp only [cnear, hx]
    exact cn_some (write_not_nan _ rfl)

set_option maxHeartbeats 1000000 in
theorem near_impl (x : Nat) (w : World) : Calls Try.prog 6 #[.float .f64 x] w fun e w' => (∃ r, e = .returned (.float .f64 r) ∧ cn r = cnear x) ∧ Below w.heap.size w w' := by
  obtain ⟨r, w1, hr, hc, hb⟩ := even_any x w
  have HC : Hid _ := hc
  clear hc
  go_enter Try.func6, Try.ntmps6
  go_wp2
  go_ret
  exact ⟨⟨_, rfl, HC.out⟩, hb⟩

end Go.Proofs.Ytcmjhgijejmiaaa
