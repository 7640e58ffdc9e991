import Derived.Test.YtgepipnbfgdjkaaGreatDoorFlwC
namespace Go.Proofs.YtgepipnbfgdjkaaGreatDoor
open Go.ChangeShapes Go.WideShapes Go.ChangeAt Go.RowKit

/-- What the table of the folds' starts holds. -/
structure FSt (w : World) : Prop where
  z0 : w.cell? ⟨0, 0, none⟩ = some (.int .i64 0)
  z1 : w.cell? ⟨0, 1, none⟩ = some (.int .i64 0)
  z2 : w.cell? ⟨0, 2, none⟩ = some (.int .i64 9223372036854775807)
  z3 : w.cell? ⟨0, 3, none⟩ = some (.int .i64 (-9223372036854775808))

theorem FSt.lt {w : World} (h : FSt w) : 1 ≤ w.heap.size := by
  have := World.block_lt_of_cell? w _ h.z0
  simp only at this
  omega
theorem FSt.agree {w w' : World} (h : FSt w) (e : w'.heap[0]? = w.heap[0]?) : FSt w' := by
  have c : ∀ i, w'.cell? ⟨0, i, none⟩ = w.cell? ⟨0, i, none⟩ := fun i => World.cell?_of_block (w := w) (a := ⟨0, i, none⟩) e
  exact ⟨(c 0).trans h.z0, (c 1).trans h.z1, (c 2).trans h.z2, (c 3).trans h.z3⟩

/-- What is at a key behind one value more. -/
def addV (fold : Int) (o : Option Int) (v : Int) : Int := match o with
  | none => M.firstV fold v
  | some n => M.foldV fold n v

theorem w64_fits (n : Int) : fits (M.w64 n) := by unfold fits M.w64; omega
theorem w64_id {n : Int} (h : fits n) : M.w64 n = n := by unfold fits at h; unfold M.w64; omega
theorem addV_fits {fold v : Int} {o : Option Int} (hv : fits v) (ho : ∀ n, o = some n → fits n) : fits (addV fold o v) := by
  unfold addV
  cases o with
  | none =>
    simp only [M.firstV]
    split
    · exact ⟨by omega, by omega⟩
    · exact hv
  | some n =>
    have hn := ho n rfl
    simp only [M.foldV]
    split
    · exact w64_fits _
    · split
      · exact w64_fits _
      · split <;> split <;> assumption
theorem wrap64_w (n : Int) : wrap64 n = M.w64 n := by unfold wrap64 M.w64; omega

/-- The value from where the fold goes on. -/
def sofar (fold : Int) (o : Option Int) : Int := match o with
  | some n => n
  | none => if fold = 2 then 9223372036854775807 else if fold = 3 then -9223372036854775808 else 0

theorem sofar_add {fold v : Int} {o : Option Int} (hv : fits v) (f0 : 0 ≤ fold) (f3 : fold ≤ 3) : M.foldV fold (sofar fold o) v = addV fold o v := by
  unfold addV sofar
  cases o with
  | some n => rfl
  | none =>
    unfold fits at hv
    simp only [M.foldV, M.firstV]
    by_cases h0 : fold = 0
    · subst h0; simp [M.w64]
    · by_cases h1 : fold = 1
      · subst h1; simp [w64_id hv]
      · by_cases h2 : fold = 2
        · subst h2
          simp only [h0, h1, if_false, if_true]
          split <;> omega
        · by_cases h3 : fold = 3
          · subst h3
            simp only [h0, h1, h2, if_false, if_true]
            split <;> omega
          · omega

/-- A function value is stored as any other. -/
theorem store_func (fn : Fn) (x y : Array Value) (a : Addr) (w : World) : (store a (.func fn x y)).run Tryz.prog w = stored Tryz.prog w a (.func fn x y) .plain := run_store _ w a _ _ rfl

theorem countUp_any (n v : Int) (w : World) : Calls Tryz.prog 58 #[.int .i64 n, .int .i64 v] w fun r w' => r = .returned (.int .i64 (M.foldV 0 n v)) ∧ w' = w := by
  have e : M.foldV 0 n v = wrap64 (n + 1) := by rw [wrap64_w]; rfl
  rw [e]
  go_enter Tryz.func58, Tryz.ntmps58
  go_wp2
  go_ret
  exact ⟨rfl, rfl⟩
theorem sumUp_any (n v : Int) (w : World) : Calls Tryz.prog 59 #[.int .i64 n, .int .i64 v] w fun r w' => r = .returned (.int .i64 (M.foldV 1 n v)) ∧ w' = w := by
  have e : M.foldV 1 n v = wrap64 (n + v) := by rw [wrap64_w]; rfl
  rw [e]
  go_enter Tryz.func59, Tryz.ntmps59
  go_wp2
  go_ret
  exact ⟨rfl, rfl⟩
theorem lesser_any (n v : Int) (w : World) : Calls Tryz.prog 60 #[.int .i64 n, .int .i64 v] w fun r w' => r = .returned (.int .i64 (M.foldV 2 n v)) ∧ w' = w := by
  have e : M.foldV 2 n v = min n v := by simp only [M.foldV]; rw [if_neg (by decide), if_neg (by decide), if_pos (by decide)]; split <;> omega
  rw [e]
  go_enter Tryz.func60, Tryz.ntmps60
  go_wp2
  go_ret
  exact ⟨rfl, rfl⟩
theorem greater_any (n v : Int) (w : World) : Calls Tryz.prog 61 #[.int .i64 n, .int .i64 v] w fun r w' => r = .returned (.int .i64 (M.foldV 3 n v)) ∧ w' = w := by
  have e : M.foldV 3 n v = max n v := by simp only [M.foldV]; rw [if_neg (by decide), if_neg (by decide), if_neg (by decide)]; split <;> omega
  rw [e]
  go_enter Tryz.func61, Tryz.ntmps61
  go_wp2
  go_ret
  exact ⟨rfl, rfl⟩

set_option maxRecDepth 100000 in
set_option maxHeartbeats 2000000 in
theorem add_any (b : Nat) (G : ByteArray → Option Int) (key : ByteArray) (v fold : Int) (w : World) (h : TalAt w b G) (hL : FSt w) (hs : key.size ≤ maxLen) (hv : fits v) (f0 : 0 ≤ fold) (f3 : fold ≤ 3) (ks : List ByteArray) (hks : ∀ s, (G s).isSome = true → s ∈ ks) (hkl : ks.length ≤ 100000000) :
    Calls Tryz.prog 47 #[.map (some b), .string key, .int .i64 v, .int .i64 fold] w fun r w' => r = .returned (.tuple #[]) ∧ TalAt w' b (putG G key (addV fold (G key) v)) ∧ Touch (fun k => k = b) w w' := by
  have H := hideP h
  obtain ⟨o, hG⟩ : ∃ o, G key = o := ⟨_, rfl⟩
  have hof : ∀ n, G key = some n → fits n := fun n hn => by
    obtain ⟨D, -, h2⟩ := h
    exact (h2.yes key n hn).2.1
  have hbz := h.lt
  have HG := hideP hG
  have hA1 : ∀ o, Below w.heap.size w (w.alloc o) := fun o => (Below.refl _ _).alloc (Nat.le_refl _) o
  have hz := hL.lt
  have y0 : ∀ o, (w.alloc o).cell? ⟨0, 0, none⟩ = some (.int .i64 0) := fun o => (hL.agree ((hA1 o).block 0 hz)).z0
  have y1 : ∀ o, (w.alloc o).cell? ⟨0, 1, none⟩ = some (.int .i64 0) := fun o => (hL.agree ((hA1 o).block 0 hz)).z1
  have y2 : ∀ o, (w.alloc o).cell? ⟨0, 2, none⟩ = some (.int .i64 9223372036854775807) := fun o => (hL.agree ((hA1 o).block 0 hz)).z2
  have y3 : ∀ o, (w.alloc o).cell? ⟨0, 3, none⟩ = some (.int .i64 (-9223372036854775808)) := fun o => (hL.agree ((hA1 o).block 0 hz)).z3
  clear hL
  have HA : Hid (TalAt (w.alloc (.cells #[.func (.func 58) #[] #[], .func (.func 59) #[] #[], .func (.func 60) #[] #[], .func (.func 61) #[] #[]] 114)) b G) :=
    H.out.agree ((hA1 _).block b hbz)
  have HF : ∀ f, f = fold → Hid (fits (M.foldV f (sofar fold o) v) ∧ M.foldV f (sofar fold o) v = addV fold (G key) v) := fun f hf => by
    subst hf
    rw [sofar_add hv f0 f3, hG]
    exact ⟨addV_fits hv (fun n hn => hof n (hG.trans hn)), rfl⟩
  clear h hG hA1
  have hsf := store_func
  rcases (show fold = 0 ∨ fold = 1 ∨ fold = 2 ∨ fold = 3 by omega) with rfl | rfl | rfl | rfl <;> cases o
  all_goals
    have HF := HF _ rfl
    go_enter Tryz.func47, Tryz.ntmps47
    go_wp2_with (first
      | (at_lookup; refine wpList_tal_ok _ rfl _ _ rfl b G key rfl HA.out rfl hs ?_; rw [HG.out]; simp only [Option.getD_some, Option.isSome_some, Option.getD_none, Option.isSome_none])
      | (go_at_call 58; refine (countUp_any _ _ _).mono ?_; rintro r w9 ⟨rfl, rfl⟩)
      | (go_at_call 59; refine (sumUp_any _ _ _).mono ?_; rintro r w9 ⟨rfl, rfl⟩)
      | (go_at_call 60; refine (lesser_any _ _ _).mono ?_; rintro r w9 ⟨rfl, rfl⟩)
      | (go_at_call 61; refine (greater_any _ _ _).mono ?_; rintro r w9 ⟨rfl, rfl⟩)
      | (at_mapUpdate; refine wpList_tal_put _ rfl _ _ _ rfl b G key _ rfl HA.out rfl rfl hs HF.out.1 ks hks hkl ?_; intro w1 ht1 hto1))
    go_end0
    exact ⟨rfl, by rw [← HF.out.2]; exact ht1, (Touch.of_below ((Below.refl _ _).alloc (Nat.le_refl _) _)).trans hto1 (fun _ h => .inl h)⟩
end Go.Proofs.YtgepipnbfgdjkaaGreatDoor
