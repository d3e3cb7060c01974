/- RootsTo: the law's walk. -/
import Derived.Test.YtlcnciibjhcbiaaDoorT4
namespace Go.Proofs.YtlcnciibjhcbiaaDoor
open Go.RowKit

theorem ow_of_own {w : World} {B n : Nat} {v : Value} {L : List Value} (h : w.ownsRow B 40 2 v n L) : (n = 0 ∧ v = .slice none 0 0) ∨ ∃ g cap f, v = .slice (some ⟨g, 0, none⟩) n cap ∧ B ≤ g ∧ g < w.heap.size ∧ Ow w B g n cap f := by
  rcases h.2 with ⟨h1, h2⟩ | ⟨g, cap, cur, rfl, hb, hg, _⟩
  · exact .inl ⟨h2, h1⟩
  · refine .inr ⟨g, cap, fun i => L.getD i (.bool false), rfl, hb, (Array.getElem?_eq_some_iff.1 hg).1, ?_⟩
    have e := list_fun L
    rw [h.1] at e
    unfold Ow
    rw [← e]
    exact h

set_option maxHeartbeats 1000000 in
theorem mark_nil (w : World) : Calls Tryd.prog 11 #[.slice none 0 0, .int .i64 1] w fun e w' => e = .returned (.int .i64 1) ∧ w' = w := by
  go_enter Tryd.func11, Tryd.ntmps11
  go_wp2
  go_loopw [1, 5] (fun kk i wr => i = .int .i64 0 ∧ kk = .int .i64 1 ∧ wr = w) (fun _ _ _ => 0)
  case atStart => exact ⟨rfl, rfl, rfl⟩
  case round =>
    obtain ⟨rfl, rfl, rfl⟩ := hrel
    go_wp2
    go_ret
    exact ⟨rfl, rfl⟩

set_option maxHeartbeats 1000000 in
theorem held_nil (w : World) : Calls Tryd.prog 12 #[.slice none 0 0, .int .i64 1] w fun e w' => e = .returned (.int .i64 1) ∧ w' = w := by
  go_enter Tryd.func12, Tryd.ntmps12
  go_wp2
  go_loopw [1, 5] (fun kk i wr => i = .int .i64 0 ∧ kk = .int .i64 1 ∧ wr = w) (fun _ _ _ => 0)
  case atStart => exact ⟨rfl, rfl, rfl⟩
  case round =>
    obtain ⟨rfl, rfl, rfl⟩ := hrel
    go_wp2
    go_ret
    exact ⟨rfl, rfl⟩

/-- A row that bears its marks. -/
def Marked (w : World) (B : Nat) (v : Value) (n : Nat) : Prop := (n = 0 ∧ v = .slice none 0 0) ∨ ∃ g cap f, v = .slice (some ⟨g, 0, none⟩) n cap ∧ Ow w B g n cap f ∧ Mk f n

theorem Marked.below {w w' : World} {B n : Nat} {v : Value} (h : Marked w B v n) (hb : Below w.heap.size w w') : Marked w' B v n := by
  rcases h with h | ⟨g, cap, f, rfl, ho, hm⟩
  · exact .inl h
  · exact .inr ⟨g, cap, f, rfl, Ow.below ho hb, hm⟩

/-- Marked: what the row's world turns into. -/
theorem marked {w : World} {B n : Nat} {v : Value} {L : List Value} (h : w.ownsRow B 40 2 v n L) (hB : B ≤ w.heap.size) (hn : n ≤ 1048576) :
    Calls Tryd.prog 11 #[v, .int .i64 1] w fun e w' => e = .returned (.int .i64 (1 + 2 * (n : Int))) ∧ Marked w' B v n ∧ ∃ g, B ≤ g ∧ (v.ownBlock = some g ∨ w' = w) ∧ Only g w w' := by
  rcases ow_of_own h with ⟨rfl, rfl⟩ | ⟨g, cap, f, rfl, hg, hlt, ho⟩
  · refine (mark_nil w).mono ?_
    rintro e w' ⟨rfl, rfl⟩
    exact ⟨rfl, .inl ⟨rfl, rfl⟩, w'.heap.size, hB, .inr rfl, Only.refl _ _⟩
  · refine (mark_any ho hn).mono ?_
    rintro e w' ⟨rfl, ⟨f', h1, h2⟩, hon⟩
    exact ⟨rfl, .inr ⟨g, cap, f', rfl, h1, h2⟩, g, hg, .inl rfl, hon⟩

theorem held {w : World} {B n : Nat} {v : Value} (h : Marked w B v n) (hn : n ≤ 1048576) : Calls Tryd.prog 12 #[v, .int .i64 1] w fun e w' => e = .returned (.int .i64 (1 + 2 * (n : Int))) ∧ w' = w := by
  rcases h with ⟨rfl, rfl⟩ | ⟨g, cap, f, rfl, ho, hm⟩
  · exact held_nil w
  · exact held_any ho hm hn

/-- A row made behind another one stays as that other one is marked. -/
theorem own_only' {w w' w3 : World} {B3 s n m g : Nat} {e : TypeId} {v x : Value} {xs L : List Value} (h : w.ownsRow w3.heap.size e s v n xs) (ho : Only g w w') (hor : x.ownBlock = some g ∨ w' = w) (hx : w3.ownsRow B3 e s x m L) : w'.ownsRow w3.heap.size e s v n xs := by
  rcases hor with hg | rfl
  · exact own_only h ho (World.ownsRow.lt hx g hg).2
  · exact h

end Go.Proofs.YtlcnciibjhcbiaaDoor
