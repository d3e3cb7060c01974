/- Names: the program. -/
import Derived.Test.YtiadfabhpagmpaaDoorND
namespace Go.Proofs.YtiadfabhpagmpaaDoor
open Go.RowKit

theorem decode_small {s : ByteArray} {pos : Nat} (h : (Utf8.decode s pos).1 < 2048) : (rn s pos).2 ≠ 0 ∧ (Utf8.decode s pos).1 = (rn s pos).1 ∧ (Utf8.decode s pos).2 = (rn s pos).2 := by
  have h1 : (rn s pos).2 ≠ 0 := fun h2 => by have := rn_none h2; omega
  rw [rn_some h1]
  exact ⟨h1, rfl, rfl⟩

/-- What may not stand at a place, by the rune that the machine finds there. -/
theorem bad_iff (s : ByteArray) (pos c : Nat) : Bad s pos c ↔ ¬ Ltr (Utf8.decode s pos).1 ∧ (c = 0 ∨ ¬ Ltr2 (Utf8.decode s pos).1) := by
  by_cases h : (rn s pos).2 = 0
  · have h1 := rn_none h
    refine ⟨fun _ => ⟨fun h2 => ?_, .inr fun h2 => ?_⟩, fun _ => .inl h⟩
    · unfold Ltr at h2; omega
    · unfold Ltr2 at h2; omega
  · rw [rn_some h]
    exact ⟨fun h1 => h1.elim (fun h2 => absurd h2 h) id, .inr⟩

set_option maxRecDepth 20000 in
set_option maxHeartbeats 2000000 in
theorem iName_any (s : ByteArray) (_ : s.size ≤ 1048576) (w : World) : Calls Tryd.prog 47 #[.string s] w fun e w' => e = .returned (.bool (nmr s s.size 0 0)) ∧ Below w.heap.size w w' := by
  obtain ⟨d, hd⟩ : ∃ d, d = nmr s s.size 0 0 := ⟨_, rfl⟩
  rw [← hd]
  have HD : Hid _ := hd
  clear hd
  go_enter Tryd.func47, Tryd.ntmps47
  go_wp2
  go_loopw [3] (fun a wr => ∃ (pos b c : Nat), wr = w.iter s pos ∧ a = .int .i64 c ∧ s.size ≤ pos + b ∧ c ≤ 12 ∧ c ≤ pos ∧ Hid (nmr s b pos c = nmr s s.size 0 0)) (fun _ wr => s.size - wr.iterPos w.heap.size)
  case atStart => exact ⟨0, s.size, 0, rfl, rfl, by omega, by omega, by omega, rfl⟩
  case round =>
    obtain ⟨pos, b, c, rfl, rfl, hb, hc12, hcp, hc⟩ := hrel
    by_cases hp : pos < s.size
    · have hi := bad_iff s pos c
      have hsm := decode_small (s := s) (pos := pos)
      have hle := decode_le s pos
      have hnx : ∀ ty, (Instr.next (.pointer (some ⟨w.heap.size, 0, none⟩)) true ty).run Tryd.prog (w.iter s pos) = _ := fun ty => run_next_any w s pos ty hp
      generalize (Utf8.decode s pos).1 = r at hi hsm hle hnx
      generalize (Utf8.decode s pos).2 = n at hsm hnx
      have HI : Hid _ := hi
      have HS : Hid _ := hsm
      clear hi hsm
      by_cases r48 : 48 ≤ (r : Int)
      · by_cases r57 : (r : Int) ≤ 57
        · have hl : ¬ Ltr r := by unfold Ltr; omega
          have l2 : Ltr2 r := .inl ⟨r48, r57⟩
          have hL := decide_eq_false hl
          by_cases c12 : c = 12
          · have e12 : ((c : Int) == 12) = true := by simp [c12]
            have hB : Hid (nmr s b pos c = false) := by show nmr s b pos c = false; rw [c12]; exact nmr_full hp hb
            clear c12
            go_wp2_with (go_at_call 52; (with_reducible refine (iLtr_any _ _).mono ?_); rintro e w' ⟨rfl, hw⟩; obtain rfl := hw.symm; rw [hL])
            go_ret
            exact ⟨congrArg (fun z => Ending.returned (.bool z)) (by rw [HD.out, ← hc.out]; exact (hB.out).symm), below_one w _⟩
          · have e12 : ((c : Int) == 12) = false := by simp; omega
            by_cases c0 : 0 < c
            · have hNB : Hid (¬ Bad s pos c) := fun h => (HI.out.1 h).2.elim (fun e => by omega) (fun e => e l2)
              go_wp2_with (go_at_call 52; (with_reducible refine (iLtr_any _ _).mono ?_); rintro e w' ⟨rfl, hw⟩; obtain rfl := hw.symm; rw [hL])
              go_roundw
              case rel =>
                obtain ⟨hq1, hq2, hq3⟩ := HS.out (by omega)
                obtain ⟨b', rfl, e⟩ := nmr_step hp hb hNB.out
                rw [← hq3] at e
                exact ⟨pos + n, b', c + 1, rfl, by go_num, by omega, by omega, by omega, (show nmr s b' (pos + n) (c + 1) = nmr s s.size 0 0 by rw [← e]; exact hc.out)⟩
              case measure =>
                obtain ⟨hq1, hq2, hq3⟩ := HS.out (by omega)
                simp
                omega
            · go_wp2_with (go_at_call 52; (with_reducible refine (iLtr_any _ _).mono ?_); rintro e w' ⟨rfl, hw⟩; obtain rfl := hw.symm; rw [hL])
              go_ret
              exact ⟨congrArg (fun z => Ending.returned (.bool z)) (by rw [HD.out, ← hc.out]; exact (nmr_bad hp hb (HI.out.2 ⟨hl, .inl (by omega)⟩)).symm), below_one w _⟩
        · by_cases r95 : r = 95
          · have e95 : ((r : Int) == 95) = true := by simp [r95]
            have hl : ¬ Ltr r := by unfold Ltr; omega
            have l2 : Ltr2 r := .inr (by omega)
            have hL := decide_eq_false hl
            have HLE : Hid (r < 2048) := (show r < 2048 by omega)
            clear r95
            by_cases c12 : c = 12
            · have e12 : ((c : Int) == 12) = true := by simp [c12]
              have hB : Hid (nmr s b pos c = false) := by show nmr s b pos c = false; rw [c12]; exact nmr_full hp hb
              clear c12
              go_wp2_with (go_at_call 52; (with_reducible refine (iLtr_any _ _).mono ?_); rintro e w' ⟨rfl, hw⟩; obtain rfl := hw.symm; rw [hL])
              go_ret
              exact ⟨congrArg (fun z => Ending.returned (.bool z)) (by rw [HD.out, ← hc.out]; exact (hB.out).symm), below_one w _⟩
            · have e12 : ((c : Int) == 12) = false := by simp; omega
              by_cases c0 : 0 < c
              · have hNB : Hid (¬ Bad s pos c) := fun h => (HI.out.1 h).2.elim (fun e => by omega) (fun e => e l2)
                go_wp2_with (go_at_call 52; (with_reducible refine (iLtr_any _ _).mono ?_); rintro e w' ⟨rfl, hw⟩; obtain rfl := hw.symm; rw [hL])
                go_roundw
                case rel =>
                  obtain ⟨hq1, hq2, hq3⟩ := HS.out HLE.out
                  obtain ⟨b', rfl, e⟩ := nmr_step hp hb hNB.out
                  rw [← hq3] at e
                  exact ⟨pos + n, b', c + 1, rfl, by go_num, by omega, by omega, by omega, (show nmr s b' (pos + n) (c + 1) = nmr s s.size 0 0 by rw [← e]; exact hc.out)⟩
                case measure =>
                  obtain ⟨hq1, hq2, hq3⟩ := HS.out HLE.out
                  simp
                  omega
              · go_wp2_with (go_at_call 52; (with_reducible refine (iLtr_any _ _).mono ?_); rintro e w' ⟨rfl, hw⟩; obtain rfl := hw.symm; rw [hL])
                go_ret
                exact ⟨congrArg (fun z => Ending.returned (.bool z)) (by rw [HD.out, ← hc.out]; exact (nmr_bad hp hb (HI.out.2 ⟨hl, .inl (by omega)⟩)).symm), below_one w _⟩
          · have e95 : ((r : Int) == 95) = false := by simp; omega
            have l2 : ¬ Ltr2 r := by unfold Ltr2; omega
            by_cases hl : Ltr r
            · have hL := decide_eq_true hl
              have hr9 : r < 2048 := by unfold Ltr at hl; omega
              by_cases c12 : c = 12
              · have e12 : ((c : Int) == 12) = true := by simp [c12]
                have hB : Hid (nmr s b pos c = false) := by show nmr s b pos c = false; rw [c12]; exact nmr_full hp hb
                clear c12
                go_wp2_with (go_at_call 52; (with_reducible refine (iLtr_any _ _).mono ?_); rintro e w' ⟨rfl, hw⟩; obtain rfl := hw.symm; rw [hL])
                go_ret
                exact ⟨congrArg (fun z => Ending.returned (.bool z)) (by rw [HD.out, ← hc.out]; exact (hB.out).symm), below_one w _⟩
              · have e12 : ((c : Int) == 12) = false := by simp; omega
                have hNB : Hid (¬ Bad s pos c) := fun h => (HI.out.1 h).1 hl
                go_wp2_with (go_at_call 52; (with_reducible refine (iLtr_any _ _).mono ?_); rintro e w' ⟨rfl, hw⟩; obtain rfl := hw.symm; rw [hL])
                go_roundw
                case rel =>
                  obtain ⟨hq1, hq2, hq3⟩ := HS.out (by omega)
                  obtain ⟨b', rfl, e⟩ := nmr_step hp hb hNB.out
                  rw [← hq3] at e
                  exact ⟨pos + n, b', c + 1, rfl, by go_num, by omega, by omega, by omega, (show nmr s b' (pos + n) (c + 1) = nmr s s.size 0 0 by rw [← e]; exact hc.out)⟩
                case measure =>
                  obtain ⟨hq1, hq2, hq3⟩ := HS.out (by omega)
                  simp
                  omega
            · have hL := decide_eq_false hl
              by_cases c12 : c = 12
              · have e12 : ((c : Int) == 12) = true := by simp [c12]
                have hB : Hid (nmr s b pos c = false) := by show nmr s b pos c = false; rw [c12]; exact nmr_full hp hb
                clear c12
                go_wp2_with (go_at_call 52; (with_reducible refine (iLtr_any _ _).mono ?_); rintro e w' ⟨rfl, hw⟩; obtain rfl := hw.symm; rw [hL])
                go_ret
                exact ⟨congrArg (fun z => Ending.returned (.bool z)) (by rw [HD.out, ← hc.out]; exact (hB.out).symm), below_one w _⟩
              · have e12 : ((c : Int) == 12) = false := by simp; omega
                go_wp2_with (go_at_call 52; (with_reducible refine (iLtr_any _ _).mono ?_); rintro e w' ⟨rfl, hw⟩; obtain rfl := hw.symm; rw [hL])
                go_ret
                exact ⟨congrArg (fun z => Ending.returned (.bool z)) (by rw [HD.out, ← hc.out]; exact (nmr_bad hp hb (HI.out.2 ⟨hl, .inr l2⟩)).symm), below_one w _⟩
      · have hl : ¬ Ltr r := by unfold Ltr; omega
        have l2 : ¬ Ltr2 r := by unfold Ltr2; omega
        have hL := decide_eq_false hl
        by_cases c12 : c = 12
        · have e12 : ((c : Int) == 12) = true := by simp [c12]
          have hB : Hid (nmr s b pos c = false) := by show nmr s b pos c = false; rw [c12]; exact nmr_full hp hb
          clear c12
          go_wp2_with (go_at_call 52; (with_reducible refine (iLtr_any _ _).mono ?_); rintro e w' ⟨rfl, hw⟩; obtain rfl := hw.symm; rw [hL])
          go_ret
          exact ⟨congrArg (fun z => Ending.returned (.bool z)) (by rw [HD.out, ← hc.out]; exact (hB.out).symm), below_one w _⟩
        · have e12 : ((c : Int) == 12) = false := by simp; omega
          go_wp2_with (go_at_call 52; (with_reducible refine (iLtr_any _ _).mono ?_); rintro e w' ⟨rfl, hw⟩; obtain rfl := hw.symm; rw [hL])
          go_ret
          exact ⟨congrArg (fun z => Ending.returned (.bool z)) (by rw [HD.out, ← hc.out]; exact (nmr_bad hp hb (HI.out.2 ⟨hl, .inr l2⟩)).symm), below_one w _⟩
    · have hnx : ∀ ty, (Instr.next (.pointer (some ⟨w.heap.size, 0, none⟩)) true ty).run Tryd.prog (w.iter s pos) = _ := fun ty => run_next_end w s pos ty hp
      go_wp2
      go_ret
      exact ⟨congrArg (fun z => Ending.returned (.bool z)) (by rw [HD.out, ← hc.out, nmr_end hp]; exact decide_eq_decide.2 (by omega)), below_one w _⟩

end Go.Proofs.YtiadfabhpagmpaaDoor
