/- Sums, products and sums of products of unpacked numbers, rounded once: functions of plain numbers. Nothing of the program stands here. -/
import Derived.Test.YtcpnmcfpnhokgaaDoorHU9
import Derived.Test.YtcpnmcfpnhokgaaDoorB2
import Derived.Test.YtcpnmcfpnhokgaaDoorK1
import Derived.Test.YtcpnmcfpnhokgaaDoorM1
namespace Go.Proofs.YtcpnmcfpnhokgaaDoor

/-- A number with its sign. -/
def sg (n : Bool) (N : Nat) : Int := if n then -(N : Int) else N
/-- Two finite numbers, in units of 2^-9000, added and rounded once. -/
def smV (p t h S mode : Int) (na : Bool) (P : Nat) (nb : Bool) (Q : Nat) : Int :=
  if P = 0 ∧ Q = 0 then (if (na && nb || (na != nb) && (mode == 5)) then S else 0) else if sg na P + sg nb Q = 0 then (if (mode == 5) then S else 0) else rndV p t h S mode (-9000) (decide (sg na P + sg nb Q < 0)) (sg na P + sg nb Q).natAbs false
/-- The flags of it. -/
def smF (p t h mode : Int) (na : Bool) (P : Nat) (nb : Bool) (Q : Nat) : Int :=
  if sg na P + sg nb Q = 0 then 0 else rndF p t h mode (-9000) (decide (sg na P + sg nb Q < 0)) (sg na P + sg nb Q).natAbs false

theorem sm_swap (p t h S mode : Int) (na nb : Bool) (P Q : Nat) : smV p t h S mode na P nb Q = smV p t h S mode nb Q na P ∧ smF p t h mode na P nb Q = smF p t h mode nb Q na P := by
  unfold smV smF
  rw [Int.add_comm (sg na P)]
  refine ⟨?_, rfl⟩
  by_cases h0 : P = 0 ∧ Q = 0
  · rw [if_pos h0, if_pos (show Q = 0 ∧ P = 0 from ⟨h0.2, h0.1⟩)]
    cases na <;> cases nb <;> rfl
  · rw [if_neg h0, if_neg (show ¬ (Q = 0 ∧ P = 0) from fun h => h0 ⟨h.2, h.1⟩)]

theorem sg_zero (n : Bool) : sg n 0 = 0 := by cases n <;> rfl

theorem sg_neg {n : Bool} {N : Nat} (h : 0 < N) : decide (sg n N < 0) = n ∧ (sg n N).natAbs = N ∧ sg n N ≠ 0 := by
  cases n
  · simp [sg]; omega
  · simp [sg]; omega

theorem sm_left (p t h S mode : Int) (na nb : Bool) {Q : Nat} (hQ : 0 < Q) : smV p t h S mode na 0 nb Q = rndV p t h S mode (-9000) nb Q false ∧ smF p t h mode na 0 nb Q = rndF p t h mode (-9000) nb Q false := by
  obtain ⟨a, b, c⟩ := sg_neg (n := nb) hQ
  unfold smV smF
  rw [if_neg (by omega), sg_zero, Int.zero_add, if_neg c, if_neg c, a, b]
  exact ⟨rfl, rfl⟩

theorem sm_right (p t h S mode : Int) (na nb : Bool) {P : Nat} (hP : 0 < P) : smV p t h S mode na P nb 0 = rndV p t h S mode (-9000) na P false ∧ smF p t h mode na P nb 0 = rndF p t h mode (-9000) na P false := by
  rw [(sm_swap p t h S mode na nb P 0).1, (sm_swap p t h S mode na nb P 0).2]
  exact sm_left p t h S mode nb na hP

theorem sm_both (p t h S mode : Int) (na nb : Bool) : smV p t h S mode na 0 nb 0 = (if (na && nb || (na != nb) && (mode == 5)) then S else 0) ∧ smF p t h mode na 0 nb 0 = 0 := by
  unfold smV smF
  rw [sg_zero, sg_zero]
  exact ⟨rfl, rfl⟩

/-- What the program's sum of two numbers that are not 0 comes to. -/
theorem sm_of {p t h S mode E K : Int} {na nb n : Bool} {P Q R : Nat} (hS : Summed mode (-9000) na nb P Q K E R n) (hp1 : p ≤ 53) (hP : 0 < P) :
    (if K = 0 then (if (mode == 5) then S else 0) else rndV p t h S mode (E - 64) n R false) = smV p t h S mode na P nb Q ∧ (if K = 0 then 0 else rndF p t h mode (E - 64) n R false) = smF p t h mode na P nb Q := by
  unfold smV smF
  rw [if_neg (show ¬ (P = 0 ∧ Q = 0) by omega)]
  rcases hS with ⟨hn, rfl, rfl, _⟩ | ⟨rfl, _, _, _, _, T, hT, hr⟩
  · have : sg na P + sg nb P = 0 := by
      cases na <;> cases nb <;> simp_all [sg] <;> omega
    rw [if_pos rfl, if_pos rfl, if_pos this, if_pos this]
    exact ⟨rfl, rfl⟩
  · obtain ⟨r1, r2⟩ := hr p t h S mode hp1
    rw [if_neg (show ¬ (1 : Int) = 0 by decide), if_neg (show ¬ (1 : Int) = 0 by decide), r1, r2]
    have key : sg na P + sg nb Q = sg n T ∧ 0 < T := by
      rcases hT with ⟨hn, h1, h2⟩ | ⟨hn, hl, h1, h2⟩ | ⟨hn, hl, h1, h2⟩
      · subst h1 h2 hn
        cases n <;> simp [sg] <;> omega
      · subst h1 h2
        cases n <;> cases nb <;> simp_all [sg] <;> omega
      · subst h1 h2
        cases n <;> cases na <;> simp_all [sg] <;> omega
    obtain ⟨a, b, c⟩ := sg_neg (n := n) key.2
    rw [key.1, if_neg c, if_neg c, a, b]
    exact ⟨rfl, rfl⟩

/-- A number in units of 2^-9000. -/
theorem rnd_low {p t h S mode e : Int} (n : Bool) {N : Nat} (hN : 0 < N) (he : -9000 ≤ e) :
    rndV p t h S mode (-9000) n (N * 2 ^ (e + 9000).toNat) false = rndV p t h S mode e n N false ∧ rndF p t h mode (-9000) n (N * 2 ^ (e + 9000).toNat) false = rndF p t h mode e n N false := by
  have := rnd_scale (p := p) (t := t) (h := h) (S := S) (mode := mode) (e := e) n (N := N) (s := (e + 9000).toNat) hN
  rwa [show e - ((e + 9000).toNat : Int) = -9000 by omega] at this

/-- What Add tells of two unpacked numbers. -/
def addV (p t h S mode ka ea : Int) (na : Bool) (A : Nat) (kb eb : Int) (nb : Bool) (B : Nat) : Int :=
  if ka = 2 ∧ kb = 2 ∧ na ≠ nb then (2 * t + 1) * h + h / 2 else if ka = 2 then (2 * t + 1) * h + (if na then S else 0) else if kb = 2 then (2 * t + 1) * h + (if nb then S else 0) else smV p t h S mode na (A * 2 ^ (ea + 9000).toNat) nb (B * 2 ^ (eb + 9000).toNat)
def addF (p t h mode ka ea : Int) (na : Bool) (A : Nat) (kb eb : Int) (nb : Bool) (B : Nat) : Int :=
  if ka = 2 ∧ kb = 2 ∧ na ≠ nb then 16 else if ka = 2 then 0 else if kb = 2 then 0 else smF p t h mode na (A * 2 ^ (ea + 9000).toNat) nb (B * 2 ^ (eb + 9000).toNat)

theorem add_swap (p t h S mode ka ea kb eb : Int) (na nb : Bool) (A B : Nat) : addV p t h S mode ka ea na A kb eb nb B = addV p t h S mode kb eb nb B ka ea na A ∧ addF p t h mode ka ea na A kb eb nb B = addF p t h mode kb eb nb B ka ea na A := by
  unfold addV addF
  rw [(sm_swap p t h S mode na nb _ _).1, (sm_swap p t h S mode na nb _ _).2]
  by_cases ha : ka = 2 <;> by_cases hb : kb = 2 <;> by_cases hn : na = nb
  all_goals simp [ha, hb, hn]
  exact ⟨fun h => absurd h.symm hn, fun h => hn h.symm⟩

/-- What Mul tells of two unpacked numbers. -/
def mlV (p t h S mode ka ea : Int) (na : Bool) (A : Nat) (kb eb : Int) (nb : Bool) (B : Nat) : Int :=
  if ka = 1 ∧ kb = 1 then rndV p t h S mode (ea + eb) (na != nb) (A * B) false else pkV p t h S mode (mulK ka kb) 0 (mulN ka kb (na != nb)) 0
def mlF (p t h mode ka ea : Int) (na : Bool) (A : Nat) (kb eb : Int) (nb : Bool) (B : Nat) : Int :=
  if ka = 1 ∧ kb = 1 then rndF p t h mode (ea + eb) (na != nb) (A * B) false else if mulK ka kb = 3 then 16 else pkF p t h mode (mulK ka kb) 0 (mulN ka kb (na != nb)) 0

theorem mulK_swap (a b : Int) : mulK a b = mulK b a := by
  unfold mulK
  repeat' split
  all_goals omega

theorem mulN_swap (a b : Int) (s : Bool) : mulN a b s = mulN b a s := by
  unfold mulN
  by_cases h : (a = 2 ∨ b = 2) ∧ (a = 0 ∨ b = 0)
  · rw [if_pos h, if_pos (by omega)]
  · rw [if_neg h, if_neg (by omega)]

theorem ml_swap (p t h S mode ka ea kb eb : Int) (na nb : Bool) (A B : Nat) : mlV p t h S mode ka ea na A kb eb nb B = mlV p t h S mode kb eb nb B ka ea na A ∧ mlF p t h mode ka ea na A kb eb nb B = mlF p t h mode kb eb nb B ka ea na A := by
  unfold mlV mlF
  have e : (na != nb) = (nb != na) := by cases na <;> cases nb <;> rfl
  rw [Int.add_comm ea, Nat.mul_comm A, e, mulK_swap ka, mulN_swap ka]
  by_cases h : ka = 1 ∧ kb = 1
  · rw [if_pos h, if_pos h, if_pos (show kb = 1 ∧ ka = 1 from ⟨h.2, h.1⟩), if_pos (show kb = 1 ∧ ka = 1 from ⟨h.2, h.1⟩)]
    exact ⟨rfl, rfl⟩
  · rw [if_neg h, if_neg h, if_neg (show ¬ (kb = 1 ∧ ka = 1) from fun g => h ⟨g.2, g.1⟩), if_neg (show ¬ (kb = 1 ∧ ka = 1) from fun g => h ⟨g.2, g.1⟩)]
    exact ⟨rfl, rfl⟩

/-- What Fma tells of three unpacked numbers. -/
def fmV (p t h S mode ka ea : Int) (na : Bool) (A : Nat) (kb eb : Int) (nb : Bool) (B : Nat) (kc ec : Int) (nc : Bool) (C : Nat) : Int :=
  if ka = 2 ∨ kb = 2 then (if (ka = 0 ∨ kb = 0) ∨ (kc = 2 ∧ nc ≠ (na != nb)) then (2 * t + 1) * h + h / 2 else (2 * t + 1) * h + (if (na != nb) then S else 0)) else if kc = 2 then (2 * t + 1) * h + (if nc then S else 0) else smV p t h S mode (na != nb) (A * B * 2 ^ (ea + eb + 9000).toNat) nc (C * 2 ^ (ec + 9000).toNat)
def fmF (p t h mode ka ea : Int) (na : Bool) (A : Nat) (kb eb : Int) (nb : Bool) (B : Nat) (kc ec : Int) (nc : Bool) (C : Nat) : Int :=
  if ka = 2 ∨ kb = 2 then (if (ka = 0 ∨ kb = 0) ∨ (kc = 2 ∧ nc ≠ (na != nb)) then 16 else 0) else if kc = 2 then 0 else smF p t h mode (na != nb) (A * B * 2 ^ (ea + eb + 9000).toNat) nc (C * 2 ^ (ec + 9000).toNat)
end Go.Proofs.YtcpnmcfpnhokgaaDoor
