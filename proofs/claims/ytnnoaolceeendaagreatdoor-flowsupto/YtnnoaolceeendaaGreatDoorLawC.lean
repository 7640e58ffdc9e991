import Derived.Test.YtnnoaolceeendaaGreatDoorRefO
import Derived.Test.YtnnoaolceeendaaGreatDoorRows
import Derived.WalkKit
import Derived.ProofKit
import Derived.OpenShut
import Derived.Deep.Draws
namespace Go.Proofs.YtnnoaolceeendaaGreatDoor
open Go.ChangeShapes Go.WideShapes Go.ChangeAt Go.RowKit

def winB (n lo hi : Int) : Bool := decide (lo ≤ n) && decide (n ≤ hi)
def gwB (a b : Int) : Bool := winB a 1 1000 && (winB b 1 a && decide (a ≤ 10 * b))

theorem win_yes {n lo hi : Int} (h1 : lo ≤ n) (h2 : n ≤ hi) : winB n lo hi = true := by simp [winB, h1, h2]
theorem win_no1 {n lo hi : Int} (h1 : ¬ lo ≤ n) : winB n lo hi = false := by simp [winB, h1]
theorem win_no2 {n lo hi : Int} (h1 : ¬ n ≤ hi) : winB n lo hi = false := by simp [winB, h1]

theorem gw_of1 {a b : Int} (h : winB a 1 1000 = false) : gwB a b = false := by simp [gwB, h]
theorem gw_of2 {a b : Int} (h : winB a 1 1000 = true) (h2 : winB b 1 a = false) : gwB a b = false := by simp [gwB, h, h2]
theorem gw_of3 {a b : Int} (h : winB a 1 1000 = true) (h2 : winB b 1 a = true) : gwB a b = decide (a ≤ 10 * b) := by simp [gwB, h, h2]
theorem win_bd {n lo hi : Int} (h : winB n lo hi = true) : lo ≤ n ∧ n ≤ hi := by simpa [winB] using h

theorem sized_any (a b : Int) (w : World) :
    Calls Tryz.prog 42 #[.int .i64 a, .int .i64 b] w fun e w' => e = .returned (.bool (gwB a b)) ∧ w' = w := by
  by_cases h1 : 1 ≤ a
  · by_cases h2 : a ≤ 1000
    · have e1 := win_yes h1 h2
      by_cases h3 : 1 ≤ b
      · by_cases h4 : b ≤ a
        · rw [gw_of3 e1 (win_yes h3 h4)]
          clear e1
          go_enter Tryz.func42, Tryz.ntmps42
          go_wp2
          go_ret
          exact ⟨rfl, rfl⟩
        · rw [gw_of2 e1 (win_no2 h4)]
          clear e1
          go_enter Tryz.func42, Tryz.ntmps42
          go_wp2
          go_ret
          exact ⟨rfl, rfl⟩
      · rw [gw_of2 e1 (win_no1 h3)]
        clear e1
        go_enter Tryz.func42, Tryz.ntmps42
        go_wp2
        go_ret
        exact ⟨rfl, rfl⟩
    · rw [gw_of1 (win_no2 h2)]
      go_enter Tryz.func42, Tryz.ntmps42
      go_wp2
      go_ret
      exact ⟨rfl, rfl⟩
  · rw [gw_of1 (win_no1 h1)]
    go_enter Tryz.func42, Tryz.ntmps42
    go_wp2
    go_ret
    exact ⟨rfl, rfl⟩

def goodB (a b c d e f : Int) : Bool := gwB a b && (winB c 0 1000 && (winB d 0 100 && (winB e 1 8 && winB f 0 3)))
theorem Good_any (a b c d e f : Int) (w : World) :
    Calls Tryz.prog 20 #[.agg #[.int .i64 a, .int .i64 b, .int .i64 c, .int .i64 d, .int .i64 e, .int .i64 f]] w fun r w' => r = .returned (.bool (goodB a b c d e f)) ∧ Below w.heap.size w w' := by
  by_cases h1 : gwB a b = true
  · by_cases c1 : 0 ≤ c
    · by_cases c2 : c ≤ 1000
      · by_cases d1 : 0 ≤ d
        · by_cases d2 : d ≤ 100
          · by_cases e1 : 1 ≤ e
            · by_cases e2 : e ≤ 8
              · by_cases f1 : 0 ≤ f
                · have E : Hid (goodB a b c d e f = decide (f ≤ 3)) := by simp [Hid, goodB, winB, *]
                  rw [E.out]; clear E
                  go_enter Tryz.func20, Tryz.ntmps20
                  go_wp2_with (go_at_call 42; refine (sized_any _ _ _).mono ?_; rintro e w' ⟨rfl, rfl⟩)
                  go_ret
                  exact ⟨rfl, (Below.refl _ _).alloc (Nat.le_refl _) _⟩
                · have E : Hid (goodB a b c d e f = false) := by simp [Hid, goodB, winB, *]
                  rw [E.out]; clear E
                  go_enter Tryz.func20, Tryz.ntmps20
                  go_wp2_with (go_at_call 42; refine (sized_any _ _ _).mono ?_; rintro e w' ⟨rfl, rfl⟩)
                  go_ret
                  exact ⟨rfl, (Below.refl _ _).alloc (Nat.le_refl _) _⟩
              · have E : Hid (goodB a b c d e f = false) := by simp [Hid, goodB, winB, *]
                rw [E.out]; clear E
                go_enter Tryz.func20, Tryz.ntmps20
                go_wp2_with (go_at_call 42; refine (sized_any _ _ _).mono ?_; rintro e w' ⟨rfl, rfl⟩)
                go_ret
                exact ⟨rfl, (Below.refl _ _).alloc (Nat.le_refl _) _⟩
            · have E : Hid (goodB a b c d e f = false) := by simp [Hid, goodB, winB, *]
              rw [E.out]; clear E
              go_enter Tryz.func20, Tryz.ntmps20
              go_wp2_with (go_at_call 42; refine (sized_any _ _ _).mono ?_; rintro e w' ⟨rfl, rfl⟩)
              go_ret
              exact ⟨rfl, (Below.refl _ _).alloc (Nat.le_refl _) _⟩
          · have E : Hid (goodB a b c d e f = false) := by simp [Hid, goodB, winB, *]
            rw [E.out]; clear E
            go_enter Tryz.func20, Tryz.ntmps20
            go_wp2_with (go_at_call 42; refine (sized_any _ _ _).mono ?_; rintro e w' ⟨rfl, rfl⟩)
            go_ret
            exact ⟨rfl, (Below.refl _ _).alloc (Nat.le_refl _) _⟩
        · have E : Hid (goodB a b c d e f = false) := by simp [Hid, goodB, winB, *]
          rw [E.out]; clear E
          go_enter Tryz.func20, Tryz.ntmps20
          go_wp2_with (go_at_call 42; refine (sized_any _ _ _).mono ?_; rintro e w' ⟨rfl, rfl⟩)
          go_ret
          exact ⟨rfl, (Below.refl _ _).alloc (Nat.le_refl _) _⟩
      · have E : Hid (goodB a b c d e f = false) := by simp [Hid, goodB, winB, *]
        rw [E.out]; clear E
        go_enter Tryz.func20, Tryz.ntmps20
        go_wp2_with (go_at_call 42; refine (sized_any _ _ _).mono ?_; rintro e w' ⟨rfl, rfl⟩)
        go_ret
        exact ⟨rfl, (Below.refl _ _).alloc (Nat.le_refl _) _⟩
    · have E : Hid (goodB a b c d e f = false) := by simp [Hid, goodB, winB, *]
      rw [E.out]; clear E
      go_enter Tryz.func20, Tryz.ntmps20
      go_wp2_with (go_at_call 42; refine (sized_any _ _ _).mono ?_; rintro e w' ⟨rfl, rfl⟩)
      go_ret
      exact ⟨rfl, (Below.refl _ _).alloc (Nat.le_refl _) _⟩
  · have h1' : gwB a b = false := by simpa using h1
    have E : Hid (goodB a b c d e f = false) := by simp [Hid, goodB, h1']
    rw [E.out]; clear E h1
    go_enter Tryz.func20, Tryz.ntmps20
    go_wp2_with (go_at_call 42; refine (sized_any _ _ _).mono ?_; rintro e w' ⟨rfl, rfl⟩)
    go_ret
    exact ⟨rfl, (Below.refl _ _).alloc (Nat.le_refl _) _⟩

theorem config_any (a b c d e f : Int) (w : World) :
    Calls Tryz.prog 8 #[.agg #[.int .i64 a, .int .i64 b, .int .i64 c, .int .i64 d, .int .i64 e, .int .i64 f]] w fun r w' => r = .returned (.agg #[.int .i64 a, .int .i64 b, .int .i64 c, .int .i64 d, .int .i64 e, .int .i64 f]) ∧ Below w.heap.size w w' := by
  go_enter Tryz.func8, Tryz.ntmps8
  go_wp2
  exact bodyPost_ret (v := .agg #[.int .i64 a, .int .i64 b, .int .i64 c, .int .i64 d, .int .i64 e, .int .i64 f]) (by simp [results, Tryz.results8, go_sem]) rfl ⟨rfl, ((Below.refl _ _).alloc (Nat.le_refl _) _).alloc (by simp) _⟩
end Go.Proofs.YtnnoaolceeendaaGreatDoor
namespace Go.Proofs.YtnnoaolceeendaaGreatDoor
open Go.ChangeShapes Go.WideShapes Go.ChangeAt Go.RowKit

def Cf.good (C : Cf) : Bool := goodB C.size C.slide C.bound C.idle C.parts C.fold

theorem good_all {a b c d e f : Int} (h : goodB a b c d e f = true) : 1 ≤ b ∧ b ≤ a ∧ a ≤ 10 * b ∧ a ≤ 1000 ∧ 0 ≤ c ∧ c ≤ 1000 ∧ 0 ≤ d ∧ d ≤ 100 ∧ 1 ≤ e ∧ e ≤ 8 ∧ 0 ≤ f ∧ f ≤ 3 := by
  simp only [goodB, gwB, winB, Bool.and_eq_true, decide_eq_true_eq] at h
  omega

theorem Cf.ok {C : Cf} (h : C.good = true) : CfOk C := by
  have := good_all h
  exact ⟨by omega, by omega, by omega, by omega, by omega, by omega, by omega⟩

def ptZero : Array Value := #[.bool false, .int .i64 0, .bool false, .bool false, .int .i64 0]
theorem Tryz.infoPt : (Tryz.prog.info? 117).map (fun i => (i.zero, i.size, i.bytes)) = some (some (.agg ptZero), 5, 32) := by kernel_rfl

theorem made0 : (madeCells ptZero (0 * 5)).toList = (List.replicate 0 M.newP).flatMap ptC := by kernel_rfl
theorem made1 : (madeCells ptZero (1 * 5)).toList = (List.replicate 1 M.newP).flatMap ptC := by kernel_rfl
theorem made2 : (madeCells ptZero (2 * 5)).toList = (List.replicate 2 M.newP).flatMap ptC := by kernel_rfl
theorem made3 : (madeCells ptZero (3 * 5)).toList = (List.replicate 3 M.newP).flatMap ptC := by kernel_rfl
theorem made4 : (madeCells ptZero (4 * 5)).toList = (List.replicate 4 M.newP).flatMap ptC := by kernel_rfl
theorem made5 : (madeCells ptZero (5 * 5)).toList = (List.replicate 5 M.newP).flatMap ptC := by kernel_rfl
theorem made6 : (madeCells ptZero (6 * 5)).toList = (List.replicate 6 M.newP).flatMap ptC := by kernel_rfl
theorem made7 : (madeCells ptZero (7 * 5)).toList = (List.replicate 7 M.newP).flatMap ptC := by kernel_rfl
theorem made8 : (madeCells ptZero (8 * 5)).toList = (List.replicate 8 M.newP).flatMap ptC := by kernel_rfl
theorem made_parts (n : Nat) (h : n ≤ 8) : (madeCells ptZero (n * 5)).toList = (List.replicate n M.newP).flatMap ptC := by
  match n, h with
  | 0, _ => exact made0
  | 1, _ => exact made1
  | 2, _ => exact made2
  | 3, _ => exact made3
  | 4, _ => exact made4
  | 5, _ => exact made5
  | 6, _ => exact made6
  | 7, _ => exact made7
  | 8, _ => exact made8

theorem rmake_parts (e : Int) (h1 : 1 ≤ e) (h8 : e ≤ 8) : ∀ w : World, (Instr.makeSlice 84 (.int .i64 e) (.int .i64 e)).run Tryz.prog w = .ok (.slice (some ⟨w.heap.size, 0, none⟩) e.toNat e.toNat) (w.alloc (.cells (madeCells ptZero (e.toNat * 5)) 117)) := by
  intro w
  obtain ⟨i0, hi, hz0, hz1, hz2⟩ := info_parts Tryz.infoPt
  have := run_make (P := Tryz.prog) w 84 117 i0 _ Tryz.underlying84 hi hz0 .i64 .i64 e e (by omega) (by omega) (by rw [hz2]; omega) (by omega)
  rw [hz1] at this
  exact this

theorem keep6 {W w1 : World} (hb : Below W.heap.size W w1) {b : Nat} (hlt : b < W.heap.size) {v0 v1 v2 v3 v4 v5 : Value}
    (k0 : W.cell? ⟨b, 0, none⟩ = some v0) (k1 : W.cell? ⟨b, 1, none⟩ = some v1) (k2 : W.cell? ⟨b, 2, none⟩ = some v2) (k3 : W.cell? ⟨b, 3, none⟩ = some v3) (k4 : W.cell? ⟨b, 4, none⟩ = some v4) (k5 : W.cell? ⟨b, 5, none⟩ = some v5) :
    w1.cell? ⟨b, 0, none⟩ = some v0 ∧ w1.cell? ⟨b, 1, none⟩ = some v1 ∧ w1.cell? ⟨b, 2, none⟩ = some v2 ∧ w1.cell? ⟨b, 3, none⟩ = some v3 ∧ w1.cell? ⟨b, 4, none⟩ = some v4 ∧ w1.cell? ⟨b, 5, none⟩ = some v5 ∧ b < w1.heap.size :=
  ⟨(hb.cell (p := ⟨b, 0, none⟩) hlt).trans k0, (hb.cell (p := ⟨b, 1, none⟩) hlt).trans k1, (hb.cell (p := ⟨b, 2, none⟩) hlt).trans k2, (hb.cell (p := ⟨b, 3, none⟩) hlt).trans k3, (hb.cell (p := ⟨b, 4, none⟩) hlt).trans k4, (hb.cell (p := ⟨b, 5, none⟩) hlt).trans k5, Nat.lt_of_lt_of_le hlt hb.size⟩

theorem rNew_no (C : Cf) (w : World) (h : C.good = false) :
    Calls Tryz.prog 9 #[.agg #[.int .i64 C.size, .int .i64 C.slide, .int .i64 C.bound, .int .i64 C.idle, .int .i64 C.parts, .int .i64 C.fold]] w fun r w' => r = .returned (.tuple #[.pointer none, .int .i64 1]) ∧ Below w.heap.size w w' := by
  unfold Cf.good at h
  go_enter Tryz.func9, Tryz.ntmps9
  go_wp2_with (go_at_call 20; refine (Good_any _ _ _ _ _ _ _).mono ?_; rintro r w1 ⟨rfl, hb1⟩)
  go_ret2
  exact ⟨rfl, ((Below.refl _ _).alloc (Nat.le_refl _) _).trans (hb1.mono (by simp))⟩

set_option maxRecDepth 100000 in
set_option maxHeartbeats 1000000 in
theorem rNew_yes (C : Cf) (w : World) (h : C.good = true) :
    Calls Tryz.prog 9 #[.agg #[.int .i64 C.size, .int .i64 C.slide, .int .i64 C.bound, .int .i64 C.idle, .int .i64 C.parts, .int .i64 C.fold]] w fun r w' => ∃ g pv, r = .returned (.tuple #[.pointer (some ⟨g, 0, none⟩), .int .i64 0]) ∧ RefAt w' g C (M.newF C.parts.toNat) pv (.slice none 0 0) (.slice none 0 0) (.slice none 0 0) ∧ Below w.heap.size w w' ∧ w.heap.size ≤ g ∧ (∀ b, pv.ownBlock = some b → w.heap.size ≤ b) := by
  have hall := good_all h
  obtain ⟨-, -, -, -, -, -, -, -, he1, he8, -, -⟩ := hall
  unfold Cf.good at h
  go_enter Tryz.func9, Tryz.ntmps9
  go_wp2_with (go_at_call 20; refine (Good_any _ _ _ _ _ _ _).mono ?_; rintro r w1 ⟨rfl, hb1⟩)
  obtain ⟨k0, k1, k2, k3, k4, k5, hlt⟩ := keep6 hb1 (b := w.heap.size) (by simp) (World.cell?_alloc_new ..) (World.cell?_alloc_new ..) (World.cell?_alloc_new ..) (World.cell?_alloc_new ..) (World.cell?_alloc_new ..) (World.cell?_alloc_new ..)
  have hB1 := hideP (((Below.refl _ _).alloc (Nat.le_refl _) _).trans (hb1.mono (by simp)) : Below w.heap.size w w1)
  clear hb1
  have hmk := rmake_parts C.parts he1 he8
  obtain ⟨n, hn⟩ := Int.eq_ofNat_of_zero_le (show 0 ≤ C.parts by omega)
  have HNP := hideP hn
  clear hn
  go_region
  all_goals
    go_wp2
    go_ret2
    have hs := hB1.out.size
    refine ⟨w1.heap.size + 1, .slice (some ⟨w1.heap.size, 0, none⟩) C.parts.toNat C.parts.toNat, rfl, ⟨?_, ?_, RowIs.nil _ _ _ _ _, RowIs.nil _ _ _ _ _, RowIs.nil _ _ _ _ _, ?_, ?_, ?_, ?_⟩, ?_, by omega, ?_⟩
    · exact heap_alloc2_new w1 _ _
    · refine ⟨?_, .inr ⟨w1.heap.size, C.parts.toNat, madeCells ptZero (C.parts.toNat * 5), ?_, Nat.zero_le _, heap_alloc2_old w1 _ _, ?_, by unfold maxLen; omega, by rw [size_madeCells], ?_⟩⟩
      · rw [flat_len ptC_len]
      · simp [M.newF]
      · simp [M.newF]
      · rw [List.take_of_length_le (by simp [M.newF, size_madeCells]), made_parts _ (by omega)]
        rfl
    · intro k hk
      simp [Value.ownBlock] at hk
      omega
    · intro k hk
      simp [Value.ownBlock]
    · intro k hk
      simp [Value.ownBlock] at hk
    · intro k hk
      simp [Value.ownBlock] at hk
    · exact ((hB1.out.alloc hs _).alloc (by simp; omega) _).drew
    · intro b hb
      simp [Value.ownBlock] at hb
      omega
end Go.Proofs.YtnnoaolceeendaaGreatDoor
namespace Go.Proofs.YtnnoaolceeendaaGreatDoor
open Go.ChangeShapes Go.WideShapes Go.ChangeAt Go.RowKit

theorem num_any (n : Int) (w : World) : Calls Tryz.prog 10 #[.int .i64 n] w fun r w' => r = .returned (.int .i64 n) ∧ w' = w := by
  go_enter Tryz.func10, Tryz.ntmps10
  go_wp2
  go_ret
  exact ⟨rfl, rfl⟩

theorem event_any (p : Int) (key : ByteArray) (t v : Int) (w : World) :
    Calls Tryz.prog 33 #[.agg #[.int .i64 p, .string key, .int .i64 t, .int .i64 v]] w fun r w' => r = .returned (.agg #[.int .i64 p, .string key, .int .i64 t, .int .i64 v]) ∧ Below w.heap.size w w' := by
  go_enter Tryz.func33, Tryz.ntmps33
  go_wp2
  exact bodyPost_ret (v := .agg #[.int .i64 p, .string key, .int .i64 t, .int .i64 v]) (by simp [results, Tryz.results33, go_sem]) rfl ⟨rfl, ((Below.refl _ _).alloc (Nat.le_refl _) _).alloc (by simp) _⟩

theorem Tryz.infoTEv : (Tryz.prog.info? 54).map (fun i => (i.zero, i.size, i.bytes)) = some (some (.agg #[.int .i64 0, .string ByteArray.empty, .int .i64 0, .int .i64 0]), 4, 40) := by kernel_rfl

theorem EvsAt.below {w w' : World} {v : Value} {es : List (M.Ev ByteArray)} (h : EvsAt w v es) (hb : Below w.heap.size w w') : EvsAt w' v es := h.touch (Touch.of_below (S := fun _ => False) hb) (fun _ _ h => h)

set_option maxRecDepth 100000 in
set_option maxHeartbeats 2000000 in
theorem theirs_any (es : List (M.Ev ByteArray)) (v : Value) (w : World) (he : EvsAt w v es) (hn : es.length ≤ 100000000) :
    Calls Tryz.prog 12 #[v] w fun r w' => ∃ v', r = .returned v' ∧ RowIs evC w' w.heap.size 54 4 v' es ∧ Below w.heap.size w w' := by
  obtain ⟨i0, hi, hz0, hz1, hz2⟩ := info_parts Tryz.infoTEv
  obtain ⟨a0, cap, rfl⟩ := he.form
  have HE := hideP he
  clear he
  go_enter Tryz.func12, Tryz.ntmps12
  go_wp2
  go_loopw [3, 4] (fun vo ii wr => ∃ k : Nat, k ≤ es.length ∧ ii = .int .i64 k ∧ Hid (RowIs evC wr w.heap.size 54 4 vo (es.take k)) ∧ Hid (Below w.heap.size w wr)) (fun _ ii _ => es.length - (intOf ii).toNat)
  case atStart => exact ⟨0, Nat.zero_le _, rfl, RowIs.nil _ _ _ _ _, Below.refl _ _⟩
  case round =>
    obtain ⟨k, hk, rfl, HR, HB⟩ := hrel
    by_cases hlt : k < es.length
    · obtain ⟨e, hx⟩ : ∃ e, es[k]? = some e := ⟨_, List.getElem?_eq_getElem hlt⟩
      obtain ⟨b, off, cp, ev, hb, m0, m1, m2, m3⟩ := (HE.out.below HB.out).lies k e hx
      simp only [Value.slice.injEq] at ev
      obtain ⟨rfl, -, rfl⟩ := ev
      have HT := hideP (take_snoc' hx)
      have i1 : (0 : Int) ≤ (k : Int) := by omega
      have i2 : (k : Int) < (es.length : Int) := by omega
      have hbz := HB.out.size
      have htl : (es.take k).length ≤ k := List.length_take_le _ _
      clear hx
      go_wp2_with (first
        | (go_at_call 33; refine (event_any _ _ _ _ _).mono ?_; rintro r w1 ⟨rfl, hb1⟩; have hR1 := hideP (HR.out.below hb1); have hB1 := hideP (HB.out.trans (hb1.mono hbz)); have hz1 : w.heap.size ≤ w1.heap.size := hB1.out.size; clear hb1)
        | (at_builtin; refine wpList_push _ rfl _ _ 37 rfl w.heap.size 54 i0 _ 4 40 Tryz.underlying37 hi hz0 (by assumption) hz2 rfl (by decide) _ (es.take k) e rfl hR1.out _ rfl rfl rfl (evC_one _) (by omega) (by unfold maxLen; omega) (by omega) ?_; intro v2 w2 hr2 hb2))
      have hR2 : Hid (RowIs evC w2 w.heap.size 54 4 v2 (es.take (k + 1))) := by rw [HT.out]; exact hr2
      have hB2 := hideP (hB1.out.trans hb2)
      clear hr2 hb2
      go_roundw
      case rel => exact ⟨k + 1, by omega, by go_num, hR2, hB2⟩
      case measure => simp [intOf]; omega
    · have ek : k = es.length := by omega
      subst ek
      rw [List.take_length] at HR
      go_wp2
      go_ret
      exact ⟨_, rfl, HR.out, HB.out⟩
end Go.Proofs.YtnnoaolceeendaaGreatDoor
namespace Go.Proofs.YtnnoaolceeendaaGreatDoor
open Go.ChangeShapes Go.WideShapes Go.ChangeAt Go.RowKit

theorem RowIs.evs {w : World} {B e : Nat} {v : Value} {es : List (M.Ev ByteArray)} (h : RowIs evC w B e 4 v es) : EvsAt w v es :=
  ⟨h.slice, fun k x hx => by
    obtain ⟨g, cap, ev, -, h2, h3, -⟩ := h.at evC_len hx
    exact ⟨g, 0, cap, ev, h2, by rw [Nat.zero_add]; exact h3 0 (by omega), by rw [Nat.zero_add]; exact h3 1 (by omega), by rw [Nat.zero_add]; exact h3 2 (by omega), by rw [Nat.zero_add]; exact h3 3 (by omega)⟩⟩

set_option maxRecDepth 100000 in
set_option maxHeartbeats 2000000 in
theorem events_same (es : List (M.Ev ByteArray)) (v u : Value) (w : World) (h1 : EvsAt w v es) (h2 : EvsAt w u es) (hn : es.length ≤ 100000000) :
    Calls Tryz.prog 17 #[v, u] w fun r w' => r = .returned (.bool true) ∧ Below w.heap.size w w' := by
  obtain ⟨a1, c1, rfl⟩ := h1.form
  obtain ⟨a2, c2, rfl⟩ := h2.form
  have H1 := hideP h1
  have H2 := hideP h2
  clear h1 h2
  go_enter Tryz.func17, Tryz.ntmps17
  go_wp2
  go_loopw [5] (fun ii wr => ∃ k : Nat, k ≤ es.length ∧ ii = .int .i64 k ∧ Hid (Below w.heap.size w wr)) (fun ii _ => es.length - (intOf ii).toNat)
  case atStart => exact ⟨0, Nat.zero_le _, rfl, Below.refl _ _⟩
  case round =>
    obtain ⟨k, hk, rfl, HB⟩ := hrel
    by_cases hlt : k < es.length
    · obtain ⟨e, hx⟩ : ∃ e, es[k]? = some e := ⟨_, List.getElem?_eq_getElem hlt⟩
      obtain ⟨b1, o1, p1, ev, hb1, m0, m1, m2, m3⟩ := (H1.out.below HB.out).lies k e hx
      simp only [Value.slice.injEq] at ev
      obtain ⟨rfl, -, rfl⟩ := ev
      obtain ⟨b2, o2, p2, ev, hb2, n0, n1, n2, n3⟩ := (H2.out.below HB.out).lies k e hx
      simp only [Value.slice.injEq] at ev
      obtain ⟨rfl, -, rfl⟩ := ev
      have i1 : (0 : Int) ≤ (k : Int) := by omega
      have i2 : (k : Int) < (es.length : Int) := by omega
      have hbz := HB.out.size
      clear hx
      go_wp2_with fail
      go_cut [26] (fun d wx => d = .bool false ∧ Hid (Below w.heap.size w wx))
      case first =>
        go_region_with (go_at_call 33; refine (event_any _ _ _ _ _).mono ?_; rintro r w1 ⟨rfl, hb3⟩; have y0 := keepAt hb3 hb1 m0; have y1 := keepAt hb3 hb1 m1; have y2 := keepAt hb3 hb1 m2; have y3 := keepAt hb3 hb1 m3)
        all_goals
          go_wp2_with fail
          go_meet
          exact ⟨rfl, HB.out.drew.trans (hb3.mono hbz)⟩
      case rest =>
        obtain ⟨rfl, HB2⟩ := hcut
        go_wp2
        go_roundw
        case rel => exact ⟨k + 1, by omega, by go_num, HB2⟩
        case measure => simp [intOf]; omega
    · go_wp2
      go_ret
      exact ⟨rfl, HB.out⟩

/-- A list of panes lies in memory, wherever. -/
structure PnsAt (w : World) (v : Value) (es : List (M.Pn ByteArray)) : Prop where
  form : ∃ a cap, v = .slice a es.length cap
  lies : ∀ k e, es[k]? = some e → ∃ b off cap, v = .slice (some ⟨b, off, none⟩) es.length cap ∧ b < w.heap.size ∧ w.cell? ⟨b, off + k * 4, none⟩ = some (.int .i64 e.start) ∧ w.cell? ⟨b, off + k * 4 + 1, none⟩ = some (.int .i64 e.stop) ∧ w.cell? ⟨b, off + k * 4 + 2, none⟩ = some (.string e.key) ∧ w.cell? ⟨b, off + k * 4 + 3, none⟩ = some (.int .i64 e.n)

theorem PnsAt.touch {S : Nat → Prop} {w w' : World} {v : Value} {es : List (M.Pn ByteArray)} (h : PnsAt w v es) (ht : Touch S w w') (hn : ∀ b, heldIn v = some b → ¬ S b) : PnsAt w' v es :=
  ⟨h.form, fun k e he => by
    obtain ⟨b, off, cap, hv, hb, h0, h1, h2, h3⟩ := h.lies k e he
    have hs := hn b (by rw [hv]; exact heldIn_at he)
    exact ⟨b, off, cap, hv, Nat.lt_of_lt_of_le hb ht.size, ht.cell hb hs h0, ht.cell hb hs h1, ht.cell hb hs h2, ht.cell hb hs h3⟩⟩
theorem PnsAt.below {w w' : World} {v : Value} {es : List (M.Pn ByteArray)} (h : PnsAt w v es) (hb : Below w.heap.size w w') : PnsAt w' v es := h.touch (Touch.of_below (S := fun _ => False) hb) (fun _ _ h => h)

theorem RowIs.pns {w : World} {B e : Nat} {v : Value} {es : List (M.Pn ByteArray)} (h : RowIs pnC w B e 4 v es) : PnsAt w v es :=
  ⟨h.slice, fun k x hx => by
    obtain ⟨g, cap, ev, -, h2, h3, -⟩ := h.at pnC_len hx
    exact ⟨g, 0, cap, ev, h2, by rw [Nat.zero_add]; exact h3 0 (by omega), by rw [Nat.zero_add]; exact h3 1 (by omega), by rw [Nat.zero_add]; exact h3 2 (by omega), by rw [Nat.zero_add]; exact h3 3 (by omega)⟩⟩

set_option maxRecDepth 100000 in
set_option maxHeartbeats 2000000 in
theorem panes_same (es : List (M.Pn ByteArray)) (v u : Value) (w : World) (h1 : PnsAt w v es) (h2 : PnsAt w u es) (hn : es.length ≤ 100000000) :
    Calls Tryz.prog 18 #[v, u] w fun r w' => r = .returned (.bool true) ∧ Below w.heap.size w w' := by
  obtain ⟨a1, c1, rfl⟩ := h1.form
  obtain ⟨a2, c2, rfl⟩ := h2.form
  have H1 := hideP h1
  have H2 := hideP h2
  clear h1 h2
  go_enter Tryz.func18, Tryz.ntmps18
  go_wp2
  go_loopw [5] (fun ii wr => ∃ k : Nat, k ≤ es.length ∧ ii = .int .i64 k ∧ Hid (Below w.heap.size w wr)) (fun ii _ => es.length - (intOf ii).toNat)
  case atStart => exact ⟨0, Nat.zero_le _, rfl, Below.refl _ _⟩
  case round =>
    obtain ⟨k, hk, rfl, HB⟩ := hrel
    by_cases hlt : k < es.length
    · obtain ⟨e, hx⟩ : ∃ e, es[k]? = some e := ⟨_, List.getElem?_eq_getElem hlt⟩
      obtain ⟨b1, o1, p1, ev, hb1, m0, m1, m2, m3⟩ := (H1.out.below HB.out).lies k e hx
      simp only [Value.slice.injEq] at ev
      obtain ⟨rfl, -, rfl⟩ := ev
      obtain ⟨b2, o2, p2, ev, hb2, n0, n1, n2, n3⟩ := (H2.out.below HB.out).lies k e hx
      simp only [Value.slice.injEq] at ev
      obtain ⟨rfl, -, rfl⟩ := ev
      have i1 : (0 : Int) ≤ (k : Int) := by omega
      have i2 : (k : Int) < (es.length : Int) := by omega
      clear hx
      go_wp2_with fail
      go_quiet (fail)
      have HB2 := hideP (HB.out.trans ((drawn_below nq).mono HB.out.size))
      go_wp2
      go_roundw
      case rel => exact ⟨k + 1, by omega, by go_num, HB2⟩
      case measure => simp [intOf]; omega
    · go_wp2
      go_ret
      exact ⟨rfl, HB.out⟩
end Go.Proofs.YtnnoaolceeendaaGreatDoor
namespace Go.Proofs.YtnnoaolceeendaaGreatDoor
open Go.ChangeShapes Go.WideShapes Go.ChangeAt Go.RowKit

/-- What the laws ask of the program's flows: 'FA w g C f S': the flow f lies at block g, all of it in blocks of S; 'L': what the package's variables hold (blocks below B0). -/
structure Tide (L : World → Prop) (B0 : Nat) (FA : World → Nat → Cf → M.Fl ByteArray → (Nat → Prop) → Prop) : Prop where
  here : ∀ {w w' : World} {g : Nat} {C : Cf} {f : M.Fl ByteArray} {S : Nat → Prop}, FA w g C f S → (∀ k, S k ∨ k < B0 → w'.heap[k]? = w.heap[k]?) → FA w' g C f S
  lt : ∀ {w : World} {g : Nat} {C : Cf} {f : M.Fl ByteArray} {S : Nat → Prop}, FA w g C f S → ∀ k, S k → k < w.heap.size
  low : ∀ {w : World} {g : Nat} {C : Cf} {f : M.Fl ByteArray} {S : Nat → Prop}, FA w g C f S → ∀ k, S k → B0 ≤ k
  size : ∀ {w : World} {g : Nat} {C : Cf} {f : M.Fl ByteArray} {S : Nat → Prop}, FA w g C f S → B0 ≤ w.heap.size
  keep : ∀ {w w' : World}, L w → Below w.heap.size w w' → L w'
  base : ∀ {w : World}, L w → B0 ≤ w.heap.size
  new_no : ∀ (C : Cf) (w : World), L w → C.good = false → Calls Tryz.prog 7 #[.agg #[.int .i64 C.size, .int .i64 C.slide, .int .i64 C.bound, .int .i64 C.idle, .int .i64 C.parts, .int .i64 C.fold]] w
    fun r w' => r = .returned (.tuple #[.pointer none, .int .i64 1]) ∧ Below w.heap.size w w'
  new_yes : ∀ (C : Cf) (w : World), L w → C.good = true → Calls Tryz.prog 7 #[.agg #[.int .i64 C.size, .int .i64 C.slide, .int .i64 C.bound, .int .i64 C.idle, .int .i64 C.parts, .int .i64 C.fold]] w
    fun r w' => ∃ g S, r = .returned (.tuple #[.pointer (some ⟨g, 0, none⟩), .int .i64 0]) ∧ FA w' g C (M.newF C.parts.toNat) S ∧ Below w.heap.size w w' ∧ ∀ k, S k → w.heap.size ≤ k
  put : ∀ {w : World} {g : Nat} {C : Cf} {f : M.Fl ByteArray} {S : Nat → Prop} (es : List (M.Ev ByteArray)) (v : Value), FA w g C f S → C.good = true → EvsAt w v es → (∀ b, heldIn v = some b → ¬ S b) → timesOk es → Room f es.length → FlOk C f →
    Calls Tryz.prog 11 #[.pointer (some ⟨g, 0, none⟩), v] w fun r w' => r = .returned (.tuple #[.int .i64 (putR C es f).1, .int .i64 (putR C es f).2.1]) ∧ ∃ S', FA w' g C (putR C es f).2.2 S' ∧ Touch S w w' ∧ ∀ k, S' k → S k ∨ w.heap.size ≤ k
  fin : ∀ {w : World} {g : Nat} {C : Cf} {f : M.Fl ByteArray} {S : Nat → Prop} (es : List Int) (v : Value) (N : Nat), FA w g C f S → C.good = true → IntsAt w v es → (∀ b, heldIn v = some b → ¬ S b) → es.length ≤ 50000000 → Room f N → FlOk C f →
    Calls Tryz.prog 23 #[.pointer (some ⟨g, 0, none⟩), v] w fun r w' => r = .returned (.tuple #[.int .i64 (endR C es f).1, .int .i64 (endR C es f).2.1]) ∧ ∃ S', FA w' g C (endR C es f).2.2 S' ∧ Touch S w w' ∧ ∀ k, S' k → S k ∨ w.heap.size ≤ k
  tick : ∀ {w : World} {g : Nat} {C : Cf} {f : M.Fl ByteArray} {S : Nat → Prop} (n sb : Int) (N : Nat), FA w g C f S → C.good = true → Room f N → FlOk C f → silentOk sb f.parts → sb ≤ 1000000000000 →
    Calls Tryz.prog 35 #[.pointer (some ⟨g, 0, none⟩), .int .i64 n] w fun r w' => r = .returned (.int .i64 (tickR C n f).1) ∧ ∃ S', FA w' g C (tickR C n f).2 S' ∧ Touch S w w' ∧ ∀ k, S' k → S k ∨ w.heap.size ≤ k
  look : ∀ {w : World} {g : Nat} {C : Cf} {f : M.Fl ByteArray} {S : Nat → Prop}, FA w g C f S → Calls Tryz.prog 27 #[.pointer (some ⟨g, 0, none⟩)] w fun r w' => r = .returned (.int .i64 f.now) ∧ ∃ m, w' = w.drewN m
  panes : ∀ {w : World} {g : Nat} {C : Cf} {f : M.Fl ByteArray} {S : Nat → Prop}, FA w g C f S → f.told.length ≤ 100000000 → Calls Tryz.prog 24 #[.pointer (some ⟨g, 0, none⟩)] w fun r w' => ∃ v, r = .returned v ∧ RowIs pnC w' w.heap.size 52 4 v f.told ∧ Below w.heap.size w w'
  late : ∀ {w : World} {g : Nat} {C : Cf} {f : M.Fl ByteArray} {S : Nat → Prop}, FA w g C f S → f.after.length ≤ 100000000 → Calls Tryz.prog 25 #[.pointer (some ⟨g, 0, none⟩)] w fun r w' => ∃ v, r = .returned v ∧ RowIs evC w' w.heap.size 54 4 v f.after ∧ Below w.heap.size w w'

theorem Tide.below {L : World → Prop} {B0 : Nat} {FA : World → Nat → Cf → M.Fl ByteArray → (Nat → Prop) → Prop} (T : Tide L B0 FA) {w w' : World} {g : Nat} {C : Cf} {f : M.Fl ByteArray} {S : Nat → Prop} (h : FA w g C f S) (hb : Below w.heap.size w w') : FA w' g C f S :=
  T.here h fun k hk => hb.block k (by
    rcases hk with hk | hk
    · exact T.lt h k hk
    · have := T.size h; omega)

theorem Tide.mark {L : World → Prop} {B0 : Nat} {FA : World → Nat → Cf → M.Fl ByteArray → (Nat → Prop) → Prop} (T : Tide L B0 FA) {w : World} {g : Nat} {C : Cf} {f : M.Fl ByteArray} {S : Nat → Prop} (h : FA w g C f S) : Calls Tryz.prog 27 #[.pointer (some ⟨g, 0, none⟩)] w fun r w' => r = .returned (.int .i64 f.now) ∧ Below w.heap.size w w' :=
  (T.look h).mono fun r w' hr => ⟨hr.1, by obtain ⟨m, rfl⟩ := hr.2; exact ⟨rfl, rfl, rfl, Nat.le_refl _, fun _ _ => rfl⟩⟩

/-- What touches neither the flow nor what is below B0. -/
theorem Tide.apart {L : World → Prop} {B0 : Nat} {FA : World → Nat → Cf → M.Fl ByteArray → (Nat → Prop) → Prop} (T : Tide L B0 FA) {w w' : World} {g : Nat} {C : Cf} {f : M.Fl ByteArray} {S U : Nat → Prop} (h : FA w g C f S) (t : Touch U w w') (hn : ∀ k, S k → ¬ U k) (hB : ∀ k, U k → B0 ≤ k) : FA w' g C f S :=
  T.here h fun k hk => by
    rcases hk with hk | hk
    · exact t.block k (T.lt h k hk) (hn k hk)
    · exact t.block k (by have := T.size h; omega) (fun hu => by have := hB k hu; omega)

/-- A row that is being spoilt. -/
structure Spoilt (w0 wr : World) (B e : Nat) (v : Value) (n : Nat) : Prop where
  row : ∃ xs, wr.ownsRow B e 4 v n xs
  touch : Touch (fun b => v.ownBlock = some b) w0 wr

theorem Spoilt.start {α : Type} {enc : α → List Value} {w : World} {B e : Nat} {v : Value} {l : List α} (h : RowIs enc w B e 4 v l) : Spoilt w w B e v l.length := ⟨⟨_, h⟩, Touch.refl _ _⟩

theorem Spoilt.cells {w0 wr : World} {B e : Nat} {v : Value} {n k : Nat} (h : Spoilt w0 wr B e v n) (hk : k < n) :
    ∃ g cap a0 a1 a2 a3, v = .slice (some ⟨g, 0, none⟩) n cap ∧ B ≤ g ∧ g < wr.heap.size ∧ wr.cell? ⟨g, k * 4, none⟩ = some a0 ∧ wr.cell? ⟨g, k * 4 + 1, none⟩ = some a1 ∧ wr.cell? ⟨g, k * 4 + 2, none⟩ = some a2 ∧ wr.cell? ⟨g, k * 4 + 3, none⟩ = some a3 ∧ ∀ j, wr.frozen? ⟨g, j, none⟩ = false := by
  obtain ⟨xs, hx⟩ := h.row
  have h0 := hx
  rcases hx.2 with ⟨_, h2⟩ | ⟨g, cap, cur, rfl, hg, hh, _⟩
  · omega
  · have hl : xs.length = n * 4 := h0.1
    exact ⟨g, cap, xs[k * 4]'(by omega), xs[k * 4 + 1]'(by omega), xs[k * 4 + 2]'(by omega), xs[k * 4 + 3]'(by omega), rfl, hg, lt_of_block hh, (h0.cellAt (k * 4) (by omega)).trans (List.getElem?_eq_getElem _), (h0.cellAt (k * 4 + 1) (by omega)).trans (List.getElem?_eq_getElem _), (h0.cellAt (k * 4 + 2) (by omega)).trans (List.getElem?_eq_getElem _), (h0.cellAt (k * 4 + 3) (by omega)).trans (List.getElem?_eq_getElem _), fun j => h0.frozenAt j⟩

theorem Spoilt.step {w0 wr : World} {B e g n cap : Nat} (h : Spoilt w0 wr B e (.slice (some ⟨g, 0, none⟩) n cap) n) (k : Nat) (z0 z1 z2 z3 : Value) :
    Spoilt w0 ((((wr.setCell ⟨g, k * 4, none⟩ z0).setCell ⟨g, k * 4 + 1, none⟩ z1).setCell ⟨g, k * 4 + 2, none⟩ z2).setCell ⟨g, k * 4 + 3, none⟩ z3) B e (.slice (some ⟨g, 0, none⟩) n cap) n := by
  obtain ⟨xs, hx⟩ := h.row
  have s1 := (hx.stored (k * 4) z0).1
  have s2 := (s1.stored (k * 4 + 1) z1).1
  have s3 := (s2.stored (k * 4 + 2) z2).1
  have s4 := (s3.stored (k * 4 + 3) z3).1
  refine ⟨⟨_, s4⟩, ?_⟩
  have t : ∀ (w : World) (a : Nat) (z : Value), Touch (fun b => (Value.slice (some ⟨g, 0, none⟩) n cap).ownBlock = some b) w (w.setCell ⟨g, a, none⟩ z) := fun w a z => Touch.set (a := ⟨g, a, none⟩) (S := fun b => (Value.slice (some ⟨g, 0, none⟩) n cap).ownBlock = some b) rfl z
  exact (((h.touch.trans (t _ _ _) (fun _ h => .inl h)).trans (t _ _ _) (fun _ h => .inl h)).trans (t _ _ _) (fun _ h => .inl h)).trans (t _ _ _) (fun _ h => .inl h)
end Go.Proofs.YtnnoaolceeendaaGreatDoor
