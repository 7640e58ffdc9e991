import Derived.Test.YtnnoaolceeendaaGreatDoorRows
import Derived.WalkKit
import Derived.ProofKit
import Derived.OpenShut
import Derived.Test.YtnnoaolceeendaaGreatDoorWinA
namespace Go.Proofs.YtnnoaolceeendaaGreatDoor
open Go.ChangeShapes Go.WideShapes Go.ChangeAt Go.RowKit

theorem Tryz.infoInt : (Tryz.prog.info? 3).map (fun i => (i.zero, i.size, i.bytes)) = some (some (.int .i64 0), 1, 8) := by kernel_rfl

theorem owns_snoc {w1 : World} {B : Nat} {v' : Value} {acc : List Int} {x : Int} (h : w1.ownsRow B 3 1 v' (acc.length + 1) (acc.map (Value.int .i64) ++ [.int .i64 x])) :
    w1.ownsRow B 3 1 v' (acc ++ [x]).length ((acc ++ [x]).map (Value.int .i64)) := by simpa using h

/-- What the loops hold: 'acc' is gathered, 'n' begins are still to be looked at; the row of the list lies from B on. -/
structure Gath (t size rest slide : Int) (L : List Int) (B : Nat) (w wr : World) (v : Value) (n : Nat) (acc : List Int) : Prop where
  all : acc ++ sel t size rest slide n = L
  short : acc.length + n ≤ 11
  own : wr.ownsRow B 3 1 v acc.length (acc.map (Value.int .i64))
  below : Below B w wr

theorem Gath.skip {t size rest slide : Int} {L : List Int} {B : Nat} {w wr : World} {v : Value} {n : Nat} {acc : List Int} (h : Gath t size rest slide L B w wr v (n + 1) acc) (ho : okB t size (rest + n * slide) = false) :
    Gath t size rest slide L B w wr v n acc := ⟨sel_no h.all ho, by have := h.short; omega, h.own, h.below⟩
theorem Gath.take {t size rest slide : Int} {L : List Int} {B : Nat} {w wr w1 : World} {v v' : Value} {n : Nat} {acc : List Int} {o : Obj} (h : Gath t size rest slide L B w wr v (n + 1) acc) (hB : B ≤ w.heap.size) (ho : okB t size (rest + n * slide) = true)
    (hown : w1.ownsRow B 3 1 v' (acc.length + 1) (acc.map (Value.int .i64) ++ [.int .i64 (t - (rest + n * slide))])) (hg : (wr.alloc o).grownBy w1 v.ownBlock) :
    Gath t size rest slide L B w w1 v' n (acc ++ [t - (rest + n * slide)]) :=
  ⟨sel_yes h.all ho, by have := h.short; simp; omega, owns_snoc hown, (h.below.alloc (by have := h.below.size; omega) _).grown hg (by have := h.below.size; simp; omega) (fun k hk => (h.own.lt k hk).1)⟩

set_option maxRecDepth 100000 in
set_option maxHeartbeats 1000000 in
theorem rbegins_neg (t size slide : Int) (w : World) (ht1 : -9223372036854775808 ≤ t) (ht2 : t ≤ 9223372036854775807) (h0 : 1 ≤ slide) (h1 : slide ≤ size) (h3 : size ≤ 1000) (hneg : t.tmod slide < 0) :
    Calls Tryz.prog 39 #[.int .i64 t, .int .i64 size, .int .i64 slide] w fun e w' => ∃ v, e = .returned v ∧ w'.ownsRow w.heap.size 3 1 v (wins t size slide).length ((wins t size slide).map (Value.int .i64)) ∧ Below w.heap.size w w' := by
  obtain ⟨i0, hi, hz0, hz1, hz2⟩ := info_parts Tryz.infoInt
  obtain ⟨m1, m2, m3, m4⟩ := tmod_emod t slide h0
  have r0 := Int.emod_nonneg t (show slide ≠ 0 by omega)
  have r1 := Int.emod_lt_of_pos t (show 0 < slide by omega)
  have hr : t % slide = t.tmod slide + slide := by omega
  rw [hr] at r0 r1
  have HW : Hid (wins t size slide = sel t size (t.tmod slide + slide) slide 11) := by rw [← hr]; rfl
  clear hr m1 m2
  by_cases he : t < -9223372036854775808 + (t.tmod slide + slide)
  · have key : wins t size slide = [] := by rw [HW.out]; exact sel_nil (by omega) he 11
    rw [key]
    clear key
    go_enter Tryz.func39, Tryz.ntmps39
    go_wp2
    go_ret
    exact ⟨_, rfl, World.ownsRow_nil _ _ _ _, Below.refl _ _⟩
  · go_enter Tryz.func39, Tryz.ntmps39
    go_wp2
    generalize t.tmod slide = r at *
    go_loopw [8, 9] (fun v b wr => ∃ (n : Nat) (x : Int) (acc : List Int), b = .int .i64 x ∧ Hid (x = n - 1) ∧ -1 ≤ x ∧ x ≤ 10 ∧ Hid (Gath t size (r + slide) slide (wins t size slide) w.heap.size w wr v n acc))
      (fun _ b _ => (intOf b + 1).toNat)
    case atStart =>
      exact ⟨11, 10, [], rfl, rfl, by omega, by omega, ⟨by simpa using HW.out.symm, by simp, World.ownsRow_nil _ _ _ _, Below.refl _ _⟩⟩
    case round =>
      obtain ⟨n, x, acc, rfl, HX, hx1, hx2, HG⟩ := hrel
      by_cases hx : 0 ≤ x
      · obtain ⟨n', rfl⟩ : ∃ n', n = n' + 1 := by
          cases n with
          | zero => exfalso; have := HX.out; simp at this; omega
          | succ k => exact ⟨k, rfl⟩
        have HX' : x = n' := by have := HX.out; simp at this; omega
        subst HX'
        clear HX
        have p0 : 0 ≤ (n' : Int) * slide := Int.mul_nonneg (by omega) (by omega)
        have p1 : (n' : Int) * slide ≤ 10000 := by
          have a := Int.mul_le_mul_of_nonneg_right hx2 (show 0 ≤ slide by omega)
          omega
        by_cases k0 : (r + slide) + (n' : Int) * slide < size
        · by_cases k1 : -9223372036854775808 + ((r + slide) + (n' : Int) * slide) ≤ t
          · by_cases k2 : t - ((r + slide) + (n' : Int) * slide) ≤ 9223372036854775807 - size
            · have hown := HG.out.own
              have hsh := HG.out.short
              have hbz := HG.out.below.size
              go_wp2_with (at_builtin; refine wpList_append_own _ rfl _ _ 40 rfl w.heap.size 3 i0 (.int .i64 0) 1 8 Tryz.underlying40 hi hz0 hz1 hz2 rfl (by decide) _ _ _ rfl (hown.alloc _) ⟨wr.heap.size, 0, none⟩ 1 1 [.int .i64 (t - ((r + slide) + (n' : Int) * slide))] rfl rfl ?c1 ?c2 ?c3 ?c4 ?c5 ?_)
              case c1 =>
                intro j u hj
                match j, hj with
                | 0, hj => simp at hj; subst hj; simp [Addr.add]
              case c2 => intro u hu; simp at hu; subst hu; rfl
              case c3 => unfold maxLen; omega
              case c4 => omega
              case c5 => simp; omega
              intro v' w1 hown' hgrow _
              have R : Hid (Gath t size (r + slide) slide (wins t size slide) w.heap.size w w1 v' n' (acc ++ [t - ((r + slide) + (n' : Int) * slide)])) :=
                HG.out.take (Nat.le_refl _) (okB_yes k0 k1 k2) hown' hgrow
              clear hown' hgrow hown HG
              go_wp2
              go_roundw
              case rel => exact ⟨n', _, _, rfl, rfl, by omega, by omega, R⟩
              case measure => simp [intOf]
            · go_wp2
              go_roundw
              case rel => exact ⟨n', _, acc, rfl, rfl, by omega, by omega, HG.out.skip (okB_no3 k2)⟩
              case measure => simp [intOf]
          · go_wp2
            go_roundw
            case rel => exact ⟨n', _, acc, rfl, rfl, by omega, by omega, HG.out.skip (okB_no2 k1)⟩
            case measure => simp [intOf]
        · go_wp2
          go_roundw
          case rel => exact ⟨n', _, acc, rfl, rfl, by omega, by omega, HG.out.skip (okB_no1 k0)⟩
          case measure => simp [intOf]
      · have hn : n = 0 := by have := HX.out; omega
        subst hn
        have hall : acc = wins t size slide := by simpa [sel] using HG.out.all
        have H2 : Hid _ := hall
        clear hall
        go_wp2
        go_ret
        refine ⟨_, rfl, ?_, HG.out.below⟩
        rw [← H2.out]
        exact HG.out.own

set_option maxRecDepth 100000 in
set_option maxHeartbeats 1000000 in
theorem rbegins_pos (t size slide : Int) (w : World) (ht1 : -9223372036854775808 ≤ t) (ht2 : t ≤ 9223372036854775807) (h0 : 1 ≤ slide) (h1 : slide ≤ size) (h3 : size ≤ 1000) (hneg : 0 ≤ t.tmod slide) :
    Calls Tryz.prog 39 #[.int .i64 t, .int .i64 size, .int .i64 slide] w fun e w' => ∃ v, e = .returned v ∧ w'.ownsRow w.heap.size 3 1 v (wins t size slide).length ((wins t size slide).map (Value.int .i64)) ∧ Below w.heap.size w w' := by
  obtain ⟨i0, hi, hz0, hz1, hz2⟩ := info_parts Tryz.infoInt
  obtain ⟨m1, m2, m3, m4⟩ := tmod_emod t slide h0
  have r0 := Int.emod_nonneg t (show slide ≠ 0 by omega)
  have r1 := Int.emod_lt_of_pos t (show 0 < slide by omega)
  have hr : t % slide = t.tmod slide := by omega
  rw [hr] at r0 r1
  have HW : Hid (wins t size slide = sel t size (t.tmod slide) slide 11) := by rw [← hr]; rfl
  clear hr m1 m2
  by_cases he : t < -9223372036854775808 + (t.tmod slide)
  · have key : wins t size slide = [] := by rw [HW.out]; exact sel_nil (by omega) he 11
    rw [key]
    clear key
    go_enter Tryz.func39, Tryz.ntmps39
    go_wp2
    go_ret
    exact ⟨_, rfl, World.ownsRow_nil _ _ _ _, Below.refl _ _⟩
  · go_enter Tryz.func39, Tryz.ntmps39
    go_wp2
    generalize t.tmod slide = r at *
    go_loopw [8, 9] (fun v b wr => ∃ (n : Nat) (x : Int) (acc : List Int), b = .int .i64 x ∧ Hid (x = n - 1) ∧ -1 ≤ x ∧ x ≤ 10 ∧ Hid (Gath t size (r) slide (wins t size slide) w.heap.size w wr v n acc))
      (fun _ b _ => (intOf b + 1).toNat)
    case atStart =>
      exact ⟨11, 10, [], rfl, rfl, by omega, by omega, ⟨by simpa using HW.out.symm, by simp, World.ownsRow_nil _ _ _ _, Below.refl _ _⟩⟩
    case round =>
      obtain ⟨n, x, acc, rfl, HX, hx1, hx2, HG⟩ := hrel
      by_cases hx : 0 ≤ x
      · obtain ⟨n', rfl⟩ : ∃ n', n = n' + 1 := by
          cases n with
          | zero => exfalso; have := HX.out; simp at this; omega
          | succ k => exact ⟨k, rfl⟩
        have HX' : x = n' := by have := HX.out; simp at this; omega
        subst HX'
        clear HX
        have p0 : 0 ≤ (n' : Int) * slide := Int.mul_nonneg (by omega) (by omega)
        have p1 : (n' : Int) * slide ≤ 10000 := by
          have a := Int.mul_le_mul_of_nonneg_right hx2 (show 0 ≤ slide by omega)
          omega
        by_cases k0 : (r) + (n' : Int) * slide < size
        · by_cases k1 : -9223372036854775808 + ((r) + (n' : Int) * slide) ≤ t
          · by_cases k2 : t - ((r) + (n' : Int) * slide) ≤ 9223372036854775807 - size
            · have hown := HG.out.own
              have hsh := HG.out.short
              have hbz := HG.out.below.size
              go_wp2_with (at_builtin; refine wpList_append_own _ rfl _ _ 40 rfl w.heap.size 3 i0 (.int .i64 0) 1 8 Tryz.underlying40 hi hz0 hz1 hz2 rfl (by decide) _ _ _ rfl (hown.alloc _) ⟨wr.heap.size, 0, none⟩ 1 1 [.int .i64 (t - ((r) + (n' : Int) * slide))] rfl rfl ?c1 ?c2 ?c3 ?c4 ?c5 ?_)
              case c1 =>
                intro j u hj
                match j, hj with
                | 0, hj => simp at hj; subst hj; simp [Addr.add]
              case c2 => intro u hu; simp at hu; subst hu; rfl
              case c3 => unfold maxLen; omega
              case c4 => omega
              case c5 => simp; omega
              intro v' w1 hown' hgrow _
              have R : Hid (Gath t size (r) slide (wins t size slide) w.heap.size w w1 v' n' (acc ++ [t - ((r) + (n' : Int) * slide)])) :=
                HG.out.take (Nat.le_refl _) (okB_yes k0 k1 k2) hown' hgrow
              clear hown' hgrow hown HG
              go_wp2
              go_roundw
              case rel => exact ⟨n', _, _, rfl, rfl, by omega, by omega, R⟩
              case measure => simp [intOf]
            · go_wp2
              go_roundw
              case rel => exact ⟨n', _, acc, rfl, rfl, by omega, by omega, HG.out.skip (okB_no3 k2)⟩
              case measure => simp [intOf]
          · go_wp2
            go_roundw
            case rel => exact ⟨n', _, acc, rfl, rfl, by omega, by omega, HG.out.skip (okB_no2 k1)⟩
            case measure => simp [intOf]
        · go_wp2
          go_roundw
          case rel => exact ⟨n', _, acc, rfl, rfl, by omega, by omega, HG.out.skip (okB_no1 k0)⟩
          case measure => simp [intOf]
      · have hn : n = 0 := by have := HX.out; omega
        subst hn
        have hall : acc = wins t size slide := by simpa [sel] using HG.out.all
        have H2 : Hid _ := hall
        clear hall
        go_wp2
        go_ret
        refine ⟨_, rfl, ?_, HG.out.below⟩
        rw [← H2.out]
        exact HG.out.own

theorem rbegins_any (t size slide : Int) (w : World) (ht1 : -9223372036854775808 ≤ t) (ht2 : t ≤ 9223372036854775807) (h0 : 1 ≤ slide) (h1 : slide ≤ size) (h3 : size ≤ 1000) :
    Calls Tryz.prog 39 #[.int .i64 t, .int .i64 size, .int .i64 slide] w fun e w' => ∃ v, e = .returned v ∧ w'.ownsRow w.heap.size 3 1 v (wins t size slide).length ((wins t size slide).map (Value.int .i64)) ∧ Below w.heap.size w w' := by
  rcases Int.lt_or_le (t.tmod slide) 0 with h | h
  · exact rbegins_neg t size slide w ht1 ht2 h0 h1 h3 h
  · exact rbegins_pos t size slide w ht1 ht2 h0 h1 h3 h
end Go.Proofs.YtnnoaolceeendaaGreatDoor
