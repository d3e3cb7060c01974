/- OA OB OC. -/
import Derived.Test.YtddbekacdfohpaaGreatDoorM04
import Derived.Defers
import Derived.Laws.Pointers
import Derived.Laws.LoneSync
import Derived.RegionTactic
import Derived.RegionCalls
import Derived.ChangeAlike
import Derived.Laws.NewBlocks
namespace Go.Proofs.YtddbekacdfohpaaGreatDoor
open Go.RowKit

theorem disable (w : World) : (callFunc 102 #[]).run Tryz.prog w = .ok (.value (.tuple #[])) w := run_call_mark0 Tryz.func102 (by kernel_rfl) (by kernel_rfl) (by kernel_rfl) .disable (by kernel_rfl) w
theorem enable (w : World) : (callFunc 104 #[]).run Tryz.prog w = .ok (.value (.tuple #[])) w := run_call_mark0 Tryz.func104 (by kernel_rfl) (by kernel_rfl) (by kernel_rfl) .enable (by kernel_rfl) w
theorem acquire (a : Addr) (w : World) : (callFunc 105 #[.pointer (some a)]).run Tryz.prog w = .ok (.value (.tuple #[])) w := run_call_marked Tryz.func105 (by kernel_rfl) (by kernel_rfl) (by kernel_rfl) .acquire (by kernel_rfl) a w
theorem releaseMerge (a : Addr) (w : World) : (callFunc 107 #[.pointer (some a)]).run Tryz.prog w = .ok (.value (.tuple #[])) w := run_call_marked Tryz.func107 (by kernel_rfl) (by kernel_rfl) (by kernel_rfl) .releaseMerge (by kernel_rfl) a w

theorem store_deferred (a : Addr) (x : Value) (u : FrameMode) (w : World) (hc : w.cell? a = some x) (hz : w.frozen? a = false) :
    CallsD Tryz.prog 73 #[.pointer (some a), .bool true] u w fun e u' w' => u' = u ∧ (e = .returned (.tuple #[]) ∧ w' = w.drew.setCell a (.int .u32 1)) := by
  have hc' : w.drew.cell? a = some x := by go_simp
  have hz' : w.drew.frozen? a = false := by go_simp
  have hst := run_call_store (P := Tryz.prog) Tryz.func94 (by kernel_rfl) (by kernel_rfl) (by kernel_rfl) (by kernel_rfl) (k := .u32) (y := 1) hc' hz'
  go_enter_d Tryz.func73, Tryz.ntmps73
  go_wp2
  go_region_calls
  all_goals (go_end0; exact ⟨rfl, rfl⟩)

set_option maxRecDepth 100000 in
theorem unlock_deferred (a : Addr) (u : FrameMode) (w : World) (hc : w.cell? a = some (.int .i32 1)) (hz : w.frozen? a = false) :
    CallsD Tryz.prog 72 #[.pointer (some a)] u w fun e u' w' => u' = u ∧ (e = .returned (.tuple #[]) ∧ w' = w.setCell a (.int .i32 0)) := by
  have hd := disable
  have he := enable
  have hr := releaseMerge
  have hadd := run_call_add (P := Tryz.prog) Tryz.func108 (by kernel_rfl) (by kernel_rfl) (by kernel_rfl) .i32 (by kernel_rfl) (y := -1) (s := 0) hc hz (by simp [go_sem]; rfl)
  have hcv := run_convert_to_unsafe (P := Tryz.prog) (src := 144) (dst := 148) Tryz.underlying144 Tryz.underlying148 (by kernel_rfl) hc
  go_enter_d Tryz.func72, Tryz.ntmps72
  go_wp2
  go_end0
  go_wp2
  go_end0
  exact ⟨rfl, rfl⟩

set_option maxRecDepth 100000 in
theorem lock_free (a : Addr) (w : World) (hc : w.cell? a = some (.int .i32 0)) (hz : w.frozen? a = false) :
    Calls Tryz.prog 71 #[.pointer (some a)] w fun e w' => e = .returned (.tuple #[]) ∧ w' = w.setCell a (.int .i32 1) := by
  have hd := disable
  have he := enable
  have ha := acquire
  have hcas := run_call_cas_hit (P := Tryz.prog) Tryz.func103 (by kernel_rfl) (by kernel_rfl) (by kernel_rfl) .i32 (by kernel_rfl) (y := 1) hc hz
  have hc' : (w.setCell a (.int .i32 1)).cell? a = some (.int .i32 1) := World.cell?_setCell_same w a _ hc
  have hcv := run_convert_to_unsafe (P := Tryz.prog) (src := 144) (dst := 148) Tryz.underlying144 Tryz.underlying148 (by kernel_rfl) hc'
  go_enter Tryz.func71, Tryz.ntmps71
  go_wp2
  first | go_end0 | (simp only [Exit.inBlock, Exit.then]; refine bodyPost_ret (results_none rfl _ _ _) rfl ?_) | refine bodyPost_ret (results_none rfl _ _ _) rfl ?_
  go_wp2
  go_end0
  exact ⟨rfl, rfl⟩
end Go.Proofs.YtddbekacdfohpaaGreatDoor

namespace Go.Proofs.YtddbekacdfohpaaGreatDoor
open Go.RowKit

set_option maxRecDepth 100000 in
theorem clos_any {n : Nat} (hn : n = 1 ∨ n = 2 ∨ n = 4 ∨ n = 8 ∨ n = 16 ∨ n = 32 ∨ n = 64 ∨ n = 128) (bk : Bool) (w : World) (pn pb pw : Addr) (G off : Nat) (x : Value) (h1 : w.cell? pn = some (.int .i64 n)) (h2 : w.cell? pb = some (.bool bk)) (h3 : w.cell? pw = some (.pointer (some ⟨G, off, none⟩)))
    (h4 : w.cell? ⟨G, off + 3, none⟩ = some x) (z4 : w.frozen? ⟨G, off + 3, none⟩ = false) (l1 : pn.block < w.heap.size) (l2 : pb.block < w.heap.size) (l3 : pw.block < w.heap.size) (l4 : G < w.heap.size) (q1 : ¬ pn.block = G) (q2 : ¬ pb.block = G) (q3 : ¬ pw.block = G) :
    Calls Tryz.prog 38 #[.pointer (some pn), .pointer (some pb), .pointer (some pw)] w fun e w' => e = .returned (.tuple #[]) ∧ ∃ v w1, w' = w1.setCell ⟨G, off + 3, none⟩ v ∧ Trn w1 v n bk w.heap.size ∧ Below w.heap.size w w1 := by
  have i1 := turnsOf_any hn bk
  clear hn
  go_enter Tryz.func38, Tryz.ntmps38
  go_wp2
  refine wp_region_any (by kernel_rfl) ?_
  change wpAny _ _ _ _ _ _ _ (World.drew _)
  refine wpI_any (I := fun X => X.cell? pn = some (.int .i64 n) ∧ X.cell? pb = some (.bool bk) ∧ X.cell? pw = some (.pointer (some ⟨G, off, none⟩))) _ _ _ _ ?_
  refine wpI_take (i := 0) (v := .pointer (some ⟨G, off, none⟩)) rfl (by kernel_rfl) (by kernel_rfl) (by kernel_rfl) (fun _ _ _ h => h) ⟨by rfl, ?_⟩ ?_
  · intro X hI; obtain ⟨c1, c2, c3⟩ := hI; go_simp; try go_bits
    try rw [if_pos (by omega)]
  refine wpI_take (i := 1) (v := .int .i64 n) rfl (by kernel_rfl) (by kernel_rfl) (by kernel_rfl) (fun _ _ _ h => h) ⟨by rfl, ?_⟩ ?_
  · intro X hI; obtain ⟨c1, c2, c3⟩ := hI; go_simp; try go_bits
    try rw [if_pos (by omega)]
  refine wpI_take (i := 2) (v := .bool bk) rfl (by kernel_rfl) (by kernel_rfl) (by kernel_rfl) (fun _ _ _ h => h) ⟨by rfl, ?_⟩ ?_
  · intro X hI; obtain ⟨c1, c2, c3⟩ := hI; go_simp; try go_bits
    try rw [if_pos (by omega)]
  refine wpI_only (i := 3) rfl (by kernel_rfl) ⟨by simpa using h1, by simpa using h2, by simpa using h3⟩ (by rfl) ?_
  intro K hK
  go_simp
  go_wp2_with (go_at_call 39; (with_reducible refine (i1 _).mono ?_); rintro e w1 ⟨v, rfl, ht, hb⟩; have HT : Hid (Trn w1 v n bk w.heap.size) := ht; obtain rfl := ht.1; have HB : Hid (Below w.heap.size w w1) := bstep (Below.refl _ w).drew hb; have k1 := (hb.cell (p := pn) l1).trans (by simpa using h1); have k2 := (hb.cell (p := pb) l2).trans (by simpa using h2); have k3 := (hb.cell (p := pw) l3).trans (by simpa using h3); have k4 := (hb.cell (p := ⟨G, off + 3, none⟩) l4).trans (by simpa using h4); have k5 := (hb.frozen (p := ⟨G, off + 3, none⟩) l4).trans (by simpa using z4); clear hb ht)
  refine wpI_only (i := 4) rfl (by kernel_rfl) ⟨k1, k2, k3⟩ (by rfl) ?_
  intro K hK
  go_simp
  try go_bits
  refine hK _ _ ?_
  refine wpI_only (i := 5) rfl (by kernel_rfl) ⟨k1, k2, k3⟩ (by rfl) ?_
  intro K hK
  go_simp
  try go_bits
  refine hK _ _ ?_
  refine wpI_only (i := 6) rfl (by kernel_rfl) ⟨k1, k2, k3⟩ (by rfl) ?_
  intro K hK
  go_simp
  refine hK _ _ ?_
  refine wpI_done ⟨(World.cell?_setCell_other _ _ _ _ (fun h => q1 (by rw [← h]))).trans k1, (World.cell?_setCell_other _ _ _ _ (fun h => q2 (by rw [← h]))).trans k2, (World.cell?_setCell_other _ _ _ _ (fun h => q3 (by rw [← h]))).trans k3⟩ (by kernel_rfl) ?_ _
  go_end0
  exact ⟨rfl, _, w1, rfl, HT.out, HB.out⟩
end Go.Proofs.YtddbekacdfohpaaGreatDoor

namespace Go.Proofs.YtddbekacdfohpaaGreatDoor
open Go.RowKit

/-- What Do leaves where the wheel was fresh. -/
def Dn (w w' : World) (G off n : Nat) (bk : Bool) : Prop := ∃ v w1, w' = ((w1.setCell ⟨G, off + 3, none⟩ v).drew.setCell ⟨G, off, none⟩ (.int .u32 1)).setCell ⟨G, off + 1, none⟩ (.int .i32 0) ∧ Trn w1 v n bk w.heap.size ∧ Below w.heap.size (w.setCell ⟨G, off + 1, none⟩ (.int .i32 1)) w1

theorem load_any (a : Addr) (d : Int) (b : Bool) (hb : (d != 0) = b) (w : World) (h0 : w.cell? a = some (.int .u32 d)) : Calls Tryz.prog 57 #[.pointer (some a)] w fun e w' => e = .returned (.bool b) ∧ w' = w := by
  have hl := run_call_load (P := Tryz.prog) Tryz.func70 (by kernel_rfl) (by kernel_rfl) (by kernel_rfl) .u32 (by kernel_rfl) h0
  go_enter Tryz.func57, Tryz.ntmps57
  go_wp2
  go_ret
  exact ⟨rfl, rfl⟩

set_option maxRecDepth 100000 in
set_option maxHeartbeats 1600000 in
theorem slow_any {n : Nat} (hn : n = 1 ∨ n = 2 ∨ n = 4 ∨ n = 8 ∨ n = 16 ∨ n = 32 ∨ n = 64 ∨ n = 128) (bk : Bool) (w : World) (pn pb pw : Addr) (G off : Nat) (x : Value) (h1 : w.cell? pn = some (.int .i64 n)) (h2 : w.cell? pb = some (.bool bk)) (h3 : w.cell? pw = some (.pointer (some ⟨G, off, none⟩)))
    (c0 : w.cell? ⟨G, off, none⟩ = some (.int .u32 0)) (c1 : w.cell? ⟨G, off + 1, none⟩ = some (.int .i32 0)) (c3 : w.cell? ⟨G, off + 3, none⟩ = some x)
    (f0 : w.frozen? ⟨G, off, none⟩ = false) (f1 : w.frozen? ⟨G, off + 1, none⟩ = false) (f3 : w.frozen? ⟨G, off + 3, none⟩ = false)
    (l1 : pn.block < w.heap.size) (l2 : pb.block < w.heap.size) (l3 : pw.block < w.heap.size) (l4 : G < w.heap.size) (q1 : ¬ pn.block = G) (q2 : ¬ pb.block = G) (q3 : ¬ pw.block = G) :
    Calls Tryz.prog 58 #[.pointer (some ⟨G, off, none⟩), .func (.func 38) #[] #[.pointer (some pn), .pointer (some pb), .pointer (some pw)]] w fun e w' => e = .returned (.tuple #[]) ∧
      Dn w w' G off n bk := by
  have hcl := clos_any hn bk (w.setCell ⟨G, off + 1, none⟩ (.int .i32 1)) pn pb pw G off x ((World.cell?_setCell_other _ _ _ _ (fun h => q1 (by rw [← h]))).trans h1) ((World.cell?_setCell_other _ _ _ _ (fun h => q2 (by rw [← h]))).trans h2) ((World.cell?_setCell_other _ _ _ _ (fun h => q3 (by rw [← h]))).trans h3)
    ((World.cell?_setCell_other _ ⟨G, off + 1, none⟩ ⟨G, off + 3, none⟩ _ (by simp)).trans c3) (by simpa using f3) (by simpa using l1) (by simpa using l2) (by simpa using l3) (by simpa using l4) q1 q2 q3
  have hsz : (w.setCell ⟨G, off + 1, none⟩ (.int .i32 1)).heap.size = w.heap.size := by simp
  rw [hsz] at hcl
  have c0' := (World.cell?_setCell_other w ⟨G, off + 1, none⟩ ⟨G, off, none⟩ (.int .i32 1) (by simp)).trans c0
  have c1' := World.cell?_setCell_same w ⟨G, off + 1, none⟩ (.int .i32 1) c1
  have f0' : (w.setCell ⟨G, off + 1, none⟩ (.int .i32 1)).frozen? ⟨G, off, none⟩ = false := by simpa using f0
  have f1' : (w.setCell ⟨G, off + 1, none⟩ (.int .i32 1)).frozen? ⟨G, off + 1, none⟩ = false := by simpa using f1
  have hnot : ∀ (x : Bool) (w : World), (Op.unary .not (.bool x)).run Tryz.prog w = .ok (.bool (!x)) w := fun _ _ => rfl
  have hld := load_any ⟨G, off, none⟩ 0 false rfl _ c0'
  clear hn h1 h2 h3
  go_enter_defers Tryz.func58, Tryz.ntmps58
  go_wp2_with (first | (go_at_call 71; refine (lock_free ⟨G, off + 1, none⟩ _ (by go_simp) (by go_simp)).mono ?_; rintro e w' ⟨rfl, rfl⟩) | (go_at_call 57; refine hld.mono ?_; rintro e w' ⟨rfl, hw⟩; obtain rfl := hw.symm) | (go_at_call 38; refine hcl.mono ?_; rintro e w' ⟨rfl, v, w1, hw, HT, HB⟩; obtain rfl := hw.symm))
  have d0 := (HB.cell (p := ⟨G, off, none⟩) l4).trans c0'
  have d1 := (HB.cell (p := ⟨G, off + 1, none⟩) l4).trans c1'
  have e0 := (HB.frozen (p := ⟨G, off, none⟩) l4).trans f0'
  have e1 := (HB.frozen (p := ⟨G, off + 1, none⟩) l4).trans f1'
  refine leaves_cons (f := 73) (args := #[.pointer (some ⟨G, off, none⟩), .bool true]) (by simp) (by simp [go_sem]) ?_
  refine (store_deferred ⟨G, off, none⟩ (.int .u32 0) .returning _ ?_ (by simpa using e0)).mono ?_
  · exact (World.cell?_setCell_other _ ⟨G, off + 3, none⟩ ⟨G, off, none⟩ _ (by simp)).trans d0
  rintro e u' w'' ⟨rfl, rfl, rfl⟩
  refine leaves_cons (f := 72) (args := #[.pointer (some ⟨G, off + 1, none⟩)]) (by simp [settle]) (by simp [go_sem]) ?_
  refine (unlock_deferred ⟨G, off + 1, none⟩ _ _ ?_ (by simpa using e1)).mono ?_
  · refine (World.cell?_setCell_other _ ⟨G, off, none⟩ ⟨G, off + 1, none⟩ _ (by simp)).trans ?_
    rw [World.cell?_drew]
    exact (World.cell?_setCell_other _ ⟨G, off + 3, none⟩ ⟨G, off + 1, none⟩ _ (by simp)).trans d1
  rintro e u' w'' ⟨rfl, rfl, rfl⟩
  simp only [Leaves, settle]
  refine ⟨.tuple #[], by simp [results, Tryz.results58], rfl, v, w1, rfl, HT, HB⟩

set_option maxRecDepth 100000 in
set_option maxHeartbeats 1600000 in
theorem do_first {n : Nat} (hn : n = 1 ∨ n = 2 ∨ n = 4 ∨ n = 8 ∨ n = 16 ∨ n = 32 ∨ n = 64 ∨ n = 128) (bk : Bool) (w : World) (pn pb pw : Addr) (G off : Nat) (x : Value) (h1 : w.cell? pn = some (.int .i64 n)) (h2 : w.cell? pb = some (.bool bk)) (h3 : w.cell? pw = some (.pointer (some ⟨G, off, none⟩)))
    (c0 : w.cell? ⟨G, off, none⟩ = some (.int .u32 0)) (c1 : w.cell? ⟨G, off + 1, none⟩ = some (.int .i32 0)) (c3 : w.cell? ⟨G, off + 3, none⟩ = some x)
    (f0 : w.frozen? ⟨G, off, none⟩ = false) (f1 : w.frozen? ⟨G, off + 1, none⟩ = false) (f3 : w.frozen? ⟨G, off + 3, none⟩ = false)
    (l1 : pn.block < w.heap.size) (l2 : pb.block < w.heap.size) (l3 : pw.block < w.heap.size) (l4 : G < w.heap.size) (q1 : ¬ pn.block = G) (q2 : ¬ pb.block = G) (q3 : ¬ pw.block = G) :
    Calls Tryz.prog 37 #[.pointer (some ⟨G, off, none⟩), .func (.func 38) #[] #[.pointer (some pn), .pointer (some pb), .pointer (some pw)]] w fun e w' => e = .returned (.tuple #[]) ∧
      Dn w w' G off n bk := by
  have hsl := slow_any hn bk w pn pb pw G off x h1 h2 h3 c0 c1 c3 f0 f1 f3 l1 l2 l3 l4 q1 q2 q3
  have hld := load_any ⟨G, off, none⟩ 0 false rfl _ c0
  have hnot : ∀ (x : Bool) (w : World), (Op.unary .not (.bool x)).run Tryz.prog w = .ok (.bool (!x)) w := fun _ _ => rfl
  clear hn h1 h2 h3
  go_enter Tryz.func37, Tryz.ntmps37
  go_wp2_with (first | (go_at_call 58; refine hsl.mono ?_; rintro e w' ⟨rfl, HD⟩) | (go_at_call 57; refine hld.mono ?_; rintro e w' ⟨rfl, hw⟩; obtain rfl := hw.symm))
  go_end0
  exact ⟨rfl, HD⟩

theorem do_done (a : Addr) (fv : Value) (w : World) (h0 : w.cell? a = some (.int .u32 1)) :
    Calls Tryz.prog 37 #[.pointer (some a), fv] w fun e w' => e = .returned (.tuple #[]) ∧ w' = w := by
  have hld := load_any a 1 true rfl _ h0
  have hnot : ∀ (x : Bool) (w : World), (Op.unary .not (.bool x)).run Tryz.prog w = .ok (.bool (!x)) w := fun _ _ => rfl
  go_enter Tryz.func37, Tryz.ntmps37
  go_wp2_with (go_at_call 57; refine hld.mono ?_; rintro e w' ⟨rfl, hw⟩; obtain rfl := hw.symm)
  go_end0
  exact ⟨rfl, rfl⟩

/-- Nothing old has turned but in one block. -/
structure Kp (G : Nat) (w w' : World) : Prop where
  os : w'.os = w.os
  tape : w'.tape = w.tape
  output : w'.output = w.output
  size : w.heap.size ≤ w'.heap.size
  block : ∀ k, k < w.heap.size → k ≠ G → w'.heap[k]? = w.heap[k]?

theorem Kp.refl (G : Nat) (w : World) : Kp G w w := ⟨rfl, rfl, rfl, Nat.le_refl _, fun _ _ _ => rfl⟩
theorem Kp.trans {G : Nat} {a b c : World} (h : Kp G a b) (k : Kp G b c) : Kp G a c :=
  ⟨k.os.trans h.os, k.tape.trans h.tape, k.output.trans h.output, Nat.le_trans h.size k.size, fun i hi hg => (k.block i (Nat.lt_of_lt_of_le hi h.size) hg).trans (h.block i hi hg)⟩
theorem Kp.below {G : Nat} {a b c : World} (h : Kp G a b) (k : Below b.heap.size b c) : Kp G a c :=
  h.trans ⟨k.os, k.tape, k.output, k.size, fun i hi _ => k.block i hi⟩
theorem Kp.set {G : Nat} {a b : World} (h : Kp G a b) (o : Nat) (u : Value) : Kp G a (b.setCell ⟨G, o, none⟩ u) :=
  h.trans ⟨rfl, rfl, rfl, by simp [World.setCell], fun _ _ hg => Below.heap_setCell _ _ _ _ hg⟩
theorem Kp.drew {G : Nat} {a b : World} (h : Kp G a b) : Kp G a b.drew := ⟨h.os, h.tape, h.output, h.size, h.block⟩
theorem Kp.cell {G : Nat} {w w' : World} (h : Kp G w w') {p : Addr} (hp : p.block < w.heap.size) (hg : p.block ≠ G) : w'.cell? p = w.cell? p := World.cell?_of_block (w := w) (h.block p.block hp hg)
theorem Kp.frozen {G : Nat} {w w' : World} (h : Kp G w w') {p : Addr} (hp : p.block < w.heap.size) (hg : p.block ≠ G) : w'.frozen? p = w.frozen? p := World.frozen?_of_block (w := w) (h.block p.block hp hg)
theorem Kp.after {G B : Nat} {w0 w w' : World} (h : Below B w0 w) (hB : B ≤ w.heap.size) (hG : B ≤ G) (k : Kp G w w') : Below B w0 w' :=
  h.trans ⟨k.os, k.tape, k.output, k.size, fun i hi => k.block i (by omega) (by omega)⟩

theorem Trn.kp {G : Nat} {w w' : World} {v : Value} {n : Nat} {bk : Bool} {g : Nat} (h : Trn w v n bk g) (hg : g ≠ G) (k : Kp G w w') : Trn w' v n bk g := by
  obtain ⟨h0, hl, X, Y, h1⟩ := h
  exact ⟨h0, Nat.lt_of_lt_of_le hl k.size, X, Y, fun i hi => ⟨(k.cell (p := ⟨g, i, none⟩) hl hg).trans (h1 i hi).1, (h1 i hi).2⟩⟩

/-- A wheel: fresh, or done. -/
def Wh1 (w : World) (G j : Nat) (bk : Bool) : Prop :=
  (w.frozen? ⟨G, j * 4, none⟩ = false ∧ w.frozen? ⟨G, j * 4 + 1, none⟩ = false ∧ w.frozen? ⟨G, j * 4 + 3, none⟩ = false) ∧
  ((w.cell? ⟨G, j * 4, none⟩ = some (.int .u32 0) ∧ w.cell? ⟨G, j * 4 + 1, none⟩ = some (.int .i32 0) ∧ ∃ x, w.cell? ⟨G, j * 4 + 3, none⟩ = some x) ∨
   (w.cell? ⟨G, j * 4, none⟩ = some (.int .u32 1) ∧ ∃ v g, w.cell? ⟨G, j * 4 + 3, none⟩ = some v ∧ Trn w v (2 ^ j) bk g ∧ g ≠ G))

/-- The wheels. -/
def Whl (w : World) (G : Nat) (bk : Bool) : Prop := G < w.heap.size ∧ ∀ j, j < 8 → Wh1 w G j bk

theorem Wh1.same {w w' : World} {G j : Nat} {bk : Bool} (h : Wh1 w G j bk) (k : Kp G w w') (hc : ∀ i, i = j * 4 ∨ i = j * 4 + 1 ∨ i = j * 4 + 3 → w'.cell? ⟨G, i, none⟩ = w.cell? ⟨G, i, none⟩) (hf : ∀ i, w'.frozen? ⟨G, i, none⟩ = w.frozen? ⟨G, i, none⟩) : Wh1 w' G j bk := by
  obtain ⟨⟨f0, f1, f3⟩, h⟩ := h
  refine ⟨⟨(hf _).trans f0, (hf _).trans f1, (hf _).trans f3⟩, ?_⟩
  rw [hc _ (.inl rfl), hc _ (.inr (.inl rfl)), hc _ (.inr (.inr rfl))]
  rcases h with h | ⟨h0, v, g, h3, ht, hg⟩
  · exact .inl h
  · exact .inr ⟨h0, v, g, h3, ht.kp hg k, hg⟩

theorem Whl.below {w w' : World} {G : Nat} {bk : Bool} (h : Whl w G bk) (hb : Below w.heap.size w w') : Whl w' G bk :=
  ⟨Nat.lt_of_lt_of_le h.1 hb.size, fun j hj => (h.2 j hj).same ((Kp.refl G w).below hb) (fun i _ => hb.cell (p := ⟨G, i, none⟩) h.1) (fun i => hb.frozen (p := ⟨G, i, none⟩) h.1)⟩

theorem Dn.facts {w w' : World} {G j n : Nat} {bk : Bool} (h : Dn w w' G (j * 4) n bk) (hj : j < 8) (hn : n = 2 ^ j) (hW : Whl w G bk) (c0 : w.cell? ⟨G, j * 4, none⟩ = some (.int .u32 0)) (c1 : w.cell? ⟨G, j * 4 + 1, none⟩ = some (.int .i32 0)) {x : Value} (c3 : w.cell? ⟨G, j * 4 + 3, none⟩ = some x) :
    ∃ v, w'.cell? ⟨G, j * 4 + 3, none⟩ = some v ∧ Trn w' v n bk w.heap.size ∧ Whl w' G bk ∧ Kp G w w' := by
  obtain ⟨v, w1, rfl, ht, hb⟩ := h
  obtain ⟨hG, hall⟩ := hW
  have k0 : Kp G w (w.setCell ⟨G, j * 4 + 1, none⟩ (.int .i32 1)) := (Kp.refl G w).set _ _
  have k1 : Kp G w w1 := k0.below (by simpa using hb)
  have k2 : Kp G w1 (((w1.setCell ⟨G, j * 4 + 3, none⟩ v).drew.setCell ⟨G, j * 4, none⟩ (.int .u32 1)).setCell ⟨G, j * 4 + 1, none⟩ (.int .i32 0)) := ((((Kp.refl G w1).set _ _).drew).set _ _).set _ _
  have d3 : w1.cell? ⟨G, j * 4 + 3, none⟩ = some x := (hb.cell (p := ⟨G, j * 4 + 3, none⟩) hG).trans ((World.cell?_setCell_other _ ⟨G, j * 4 + 1, none⟩ ⟨G, j * 4 + 3, none⟩ _ (by simp)).trans c3)
  have d0 : w1.cell? ⟨G, j * 4, none⟩ = some (.int .u32 0) := (hb.cell (p := ⟨G, j * 4, none⟩) hG).trans ((World.cell?_setCell_other _ ⟨G, j * 4 + 1, none⟩ ⟨G, j * 4, none⟩ _ (by simp)).trans c0)
  have e3 : (((w1.setCell ⟨G, j * 4 + 3, none⟩ v).drew.setCell ⟨G, j * 4, none⟩ (.int .u32 1)).setCell ⟨G, j * 4 + 1, none⟩ (.int .i32 0)).cell? ⟨G, j * 4 + 3, none⟩ = some v := by
    rw [World.cell?_setCell_other _ ⟨G, j * 4 + 1, none⟩ ⟨G, j * 4 + 3, none⟩ _ (by simp), World.cell?_setCell_other _ ⟨G, j * 4, none⟩ ⟨G, j * 4 + 3, none⟩ _ (by simp), World.cell?_drew]
    exact World.cell?_setCell_same _ _ _ d3
  have e0 : (((w1.setCell ⟨G, j * 4 + 3, none⟩ v).drew.setCell ⟨G, j * 4, none⟩ (.int .u32 1)).setCell ⟨G, j * 4 + 1, none⟩ (.int .i32 0)).cell? ⟨G, j * 4, none⟩ = some (.int .u32 1) := by
    rw [World.cell?_setCell_other _ ⟨G, j * 4 + 1, none⟩ ⟨G, j * 4, none⟩ _ (by simp)]
    refine World.cell?_setCell_same (u := .int .u32 0) _ _ _ ?_
    rw [World.cell?_drew, World.cell?_setCell_other _ ⟨G, j * 4 + 3, none⟩ ⟨G, j * 4, none⟩ _ (by simp)]
    exact d0
  have hfz : ∀ i, (((w1.setCell ⟨G, j * 4 + 3, none⟩ v).drew.setCell ⟨G, j * 4, none⟩ (.int .u32 1)).setCell ⟨G, j * 4 + 1, none⟩ (.int .i32 0)).frozen? ⟨G, i, none⟩ = w.frozen? ⟨G, i, none⟩ := fun i => by
    have := hb.frozen (p := ⟨G, i, none⟩) hG
    simpa using this
  have hoc : ∀ i, i ≠ j * 4 → i ≠ j * 4 + 1 → i ≠ j * 4 + 3 → (((w1.setCell ⟨G, j * 4 + 3, none⟩ v).drew.setCell ⟨G, j * 4, none⟩ (.int .u32 1)).setCell ⟨G, j * 4 + 1, none⟩ (.int .i32 0)).cell? ⟨G, i, none⟩ = w.cell? ⟨G, i, none⟩ := fun i h0 h1 h3 => by
    rw [World.cell?_setCell_other _ ⟨G, j * 4 + 1, none⟩ ⟨G, i, none⟩ _ (by simp [*]), World.cell?_setCell_other _ ⟨G, j * 4, none⟩ ⟨G, i, none⟩ _ (by simp [*]), World.cell?_drew, World.cell?_setCell_other _ ⟨G, j * 4 + 3, none⟩ ⟨G, i, none⟩ _ (by simp [*]), hb.cell (p := ⟨G, i, none⟩) hG, World.cell?_setCell_other _ ⟨G, j * 4 + 1, none⟩ ⟨G, i, none⟩ _ (by simp [*])]
  have k3 := k1.trans k2
  have ht2 := ht.kp (G := G) (by omega) k2
  refine ⟨v, e3, ht2, ⟨Nat.lt_of_lt_of_le hG k3.size, fun i hi => ?_⟩, k3⟩
  by_cases hij : i = j
  · subst hij
    obtain ⟨⟨f0, f1, f3⟩, _⟩ := hall i hi
    exact ⟨⟨(hfz _).trans f0, (hfz _).trans f1, (hfz _).trans f3⟩, .inr ⟨e0, v, w.heap.size, e3, hn ▸ ht2, by omega⟩⟩
  · exact (hall i hi).same k3 (fun q hq => hoc q (by omega) (by omega) (by omega)) hfz
end Go.Proofs.YtddbekacdfohpaaGreatDoor
