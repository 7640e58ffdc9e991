import Derived.Test.YtnnoaolceeendaaGreatDoorLawG
import Derived.Test.YtnnoaolceeendaaGreatDoorRows
import Derived.OpenShut
import Derived.Deep.Slices
import Derived.Lib.SmallJoins
namespace Go.Proofs.YtnnoaolceeendaaGreatDoor
open Go.ChangeShapes Go.WideShapes Go.ChangeAt Go.RowKit Go.Joins

/-! ### What the arguments read as: opened -/
theorem Tryz.cellsEv : Tryz.prog.cellsOf 90 = 4 := by kernel_rfl
theorem Tryz.cellsInt : Tryz.prog.cellsOf 3 = 1 := by kernel_rfl
theorem Tryz.cellsStr : Tryz.prog.cellsOf 9 = 1 := by kernel_rfl
theorem Tryz.cellsOp : Tryz.prog.cellsOf 42 = 4 := by kernel_rfl
theorem Tryz.cellsEvs : Tryz.prog.cellsOf 39 = 1 := by kernel_rfl
theorem Tryz.cellsInts : Tryz.prog.cellsOf 40 = 1 := by kernel_rfl
theorem Tryz.cellsCf : Tryz.prog.cellsOf 23 = 6 := by kernel_rfl

theorem list4 {α : Type} {cs : List α} (h : cs.length = 4) : ∃ c0 c1 c2 c3, cs = [c0, c1, c2, c3] := by
  match cs, h with
  | [c0, c1, c2, c3], _ => exact ⟨c0, c1, c2, c3, rfl⟩

theorem wf_time {n : Int} (h : (Lit.int .i64 n).wf = true) : -9223372036854775808 ≤ n ∧ n ≤ 9223372036854775807 := by
  simpa [Lit.wf, IntKind.min, IntKind.max, IntKind.signed, IntKind.bits] using h

theorem bulk_one {H : Type} (d : DataW H) : 1 ≤ Rows.uptoBulk d := by
  cases d with
  | lit l => cases l <;> simp [Rows.uptoBulk]
  | nil => simp [Rows.uptoBulk]
  | ptr d => simp [Rows.uptoBulk]
  | slice elems spare => simp [Rows.uptoBulk]
  | agg parts => simp [Rows.uptoBulk]
  | iface t d => simp [Rows.uptoBulk]
  | map entries => simp [Rows.uptoBulk]
  | held h => simp [Rows.uptoBulk]
theorem bulk_sum {H : Type} (l : List (DataW H)) : Rows.uptoBulkAll l = (l.map Rows.uptoBulk).sum := by
  induction l with
  | nil => simp [Rows.uptoBulkAll]
  | cons x l ih => simp [Rows.uptoBulkAll, ih]
theorem sum_le_of {α : Type} {f g : α → Nat} : ∀ {l : List α}, (∀ x ∈ l, f x ≤ g x) → (l.map f).sum ≤ (l.map g).sum
  | [], _ => Nat.le_refl _
  | x :: l, h => by
    have h1 := h x (by simp)
    have h2 := sum_le_of (f := f) (g := g) (l := l) (fun y hy => h y (by simp [hy]))
    simp only [List.map_cons, List.sum_cons]
    omega

theorem sum_ones (n : Nat) : ((List.range n).map fun _ => 1).sum = n := by
  induction n with
  | zero => rfl
  | succ n ih => rw [List.range_succ, List.map_append, List.sum_append, ih]; rfl
theorem bulk_elems {H : Type} {len : Nat} (D : Nat → DataW H) (r : List (DataW H)) : ((List.range len).map fun i => Rows.uptoBulk (D i)).sum ≤ Rows.uptoBulk (.slice ((List.range len).map D) r) := by
  simp only [Rows.uptoBulk, bulk_sum, List.map_map, Function.comp_def]
  omega
theorem bulk_len {H : Type} {len : Nat} (D : Nat → DataW H) (r : List (DataW H)) : len ≤ Rows.uptoBulk (.slice ((List.range len).map D) r) := by
  have h1 := sum_le_of (f := fun _ => 1) (g := fun i => Rows.uptoBulk (D i)) (l := List.range len) (fun i _ => bulk_one _)
  have h2 := bulk_elems (len := len) D r
  have h3 := sum_ones len
  omega

theorem mem_le_sum : ∀ {l : List Nat} {x : Nat}, x ∈ l → x ≤ l.sum
  | y :: l, x, h => by
    rcases List.mem_cons.1 h with rfl | h
    · simp
    · have := mem_le_sum h
      simp only [List.sum_cons]
      omega

instance : Inhabited (M.Ev ByteArray) := ⟨⟨0, ByteArray.empty, 0, 0⟩⟩

section
variable {H : Type} {enc : TypeId × Value → H} {w : World} {base : Nat} {spare : Nat → Bool} {held : Bool} {n : Nat} {cs : List Value} {x : DataW H × List MemPlace}

theorem open_ev (h : DataW.trod enc Tryz.prog w base spare held n 90 cs = some x) (hB : Rows.uptoBulk x.1 ≤ 1048576) :
    ∃ e : M.Ev ByteArray, cs = [.int .i64 e.part, .string e.key, .int .i64 e.at_, .int .i64 e.val] ∧ -9223372036854775808 ≤ e.at_ ∧ e.at_ ≤ 9223372036854775807 ∧ plainEv e := by
  obtain ⟨y0, y1, y2, y3, m, rfl, hl, h0, h1, h2, h3⟩ := trod_struct4 Tryz.underlying90 h
  obtain ⟨c0, c1, c2, c3, rfl⟩ := list4 (hl.trans Tryz.cellsEv)
  obtain ⟨a0, e0, -, -⟩ := DataW.trod_int Tryz.underlying3 h0
  obtain ⟨a1, e1, x1, -⟩ := DataW.trod_string Tryz.underlying9 h1
  obtain ⟨a2, e2, -, w2⟩ := DataW.trod_int Tryz.underlying3 h2
  obtain ⟨a3, e3, -, w3⟩ := DataW.trod_int Tryz.underlying3 h3
  simp [Tryz.cellsInt, Tryz.cellsStr] at e0 e1 e2 e3
  subst e0 e1 e2 e3
  have hk : a1.size ≤ 1048576 := by
    rw [x1] at hB
    simp only [Rows.uptoBulk, Rows.uptoBulkAll, Array.length_toList] at hB
    show a1.data.size ≤ _
    omega
  exact ⟨⟨a0, a1, a2, a3⟩, rfl, (wf_time w2).1, (wf_time w2).2, hk, wf_time w3⟩

theorem spot_none {a : Addr} {v : Value} (h : w.cell? a = some v) : a.spot = none := by
  unfold World.cell? at h
  split at h
  · split at h
    · cases h
    · rename_i hs
      cases hx : a.spot with
      | none => rfl
      | some s => simp [hx] at hs
  · cases h
theorem cell_lt {a : Addr} {v : Value} (h : w.cell? a = some v) : a.block < w.heap.size := by
  unfold World.cell? at h
  split at h
  · rename_i hx
    exact (Array.getElem?_eq_some_iff.1 hx).1
  · cases h
theorem add_none {a : Addr} (h : a.spot = none) (k : Nat) : a.add k = ⟨a.block, a.off + k, none⟩ := by
  obtain ⟨b, o, s⟩ := a
  simp only at h
  subst h
  unfold Addr.add
  split
  · rename_i hk; subst hk; rfl
  · rfl

/-- The cells of an element, one by one. -/
theorem cells_at {a : Addr} {c i : Nat} {xs : List Value} (h : w.cells? base (a.add (i * c)) c = some xs) {j : Nat} (hj : j < c) : w.cell? (a.add (i * c + j)) = xs[j]? := by
  obtain ⟨_, _, h3⟩ := World.cells?_some h
  rw [← Deep.add_add]
  exact h3 j hj

theorem open_evs (h : DataW.trod enc Tryz.prog w base spare held n 39 cs = some x) (hB : Rows.uptoBulk x.1 ≤ 1048576) :
    ∃ v es, cs = [v] ∧ EvsAt w v es ∧ timesOk es ∧ (∀ q, heldIn v = some q → q < w.heap.size) ∧ es.length ≤ Rows.uptoBulk x.1 := by
  rcases Deep.open_slice Tryz.underlying39 h with ⟨rfl, rfl⟩ | ⟨a, len, cap, m, k, D, Pl, rfl, -, hlc, -, hm, rfl, hx⟩
  · exact ⟨_, [], rfl, ⟨⟨_, _, rfl⟩, fun k e he => by simp at he⟩, fun e he => by simp at he, fun q hq => by simp [heldIn] at hq, by simp⟩
  · rw [Tryz.cellsEv] at hx
    have hlm : len ≤ m := by rw [hm]; split <;> omega
    have hbe := bulk_elems (len := len) D ((List.range (m - len)).map fun j => D (len + j))
    have hone : ∀ i, i < len → Rows.uptoBulk (D i) ≤ Rows.uptoBulk (.slice ((List.range len).map D) ((List.range (m - len)).map fun j => D (len + j))) := fun i hi =>
      Nat.le_trans (mem_le_sum (List.mem_map.2 ⟨i, by simpa using hi, rfl⟩)) hbe
    obtain ⟨E, hE⟩ := Deep.choose_lt (α := M.Ev ByteArray) (n := len) (p := fun i e => w.cells? base (a.add (i * 4)) 4 = some [.int .i64 e.part, .string e.key, .int .i64 e.at_, .int .i64 e.val] ∧ -9223372036854775808 ≤ e.at_ ∧ e.at_ ≤ 9223372036854775807 ∧ plainEv e) (fun i hi => by
      obtain ⟨cs', h1, h2⟩ := hx i (by omega)
      obtain ⟨e, rfl, h3⟩ := open_ev h2 (Nat.le_trans (hone i hi) hB)
      exact ⟨e, h1, h3⟩)
    have hlen : ((List.range len).map E).length = len := by simp
    have hsp : 0 < len → a.spot = none ∧ a.block < w.heap.size := fun h0 => by
      have := cells_at (hE 0 h0).1 (j := 0) (by omega)
      rw [show 0 * 4 + 0 = 0 by omega] at this
      have e0 : a.add 0 = a := by simp [Addr.add]
      rw [e0] at this
      exact ⟨spot_none this, cell_lt this⟩
    refine ⟨_, (List.range len).map E, rfl, ⟨⟨some a, cap, by rw [hlen]⟩, fun i e he => ?_⟩, fun e he => ?_, fun q hq => ?_, ?_⟩
    · have hi : i < len := by have := (List.getElem?_eq_some_iff.1 he).1; simpa using this
      have hee : E i = e := by simpa [hi] using he
      subst hee
      obtain ⟨s1, s2⟩ := hsp (by omega)
      have c : ∀ j, j < 4 → w.cell? ⟨a.block, a.off + (i * 4 + j), none⟩ = [Value.int .i64 (E i).part, .string (E i).key, .int .i64 (E i).at_, .int .i64 (E i).val][j]? := fun j hj => by
        rw [← add_none s1]
        exact cells_at (hE i hi).1 hj
      refine ⟨a.block, a.off, cap, by rw [hlen]; obtain ⟨ab, ao, asp⟩ := a; simp only at s1; rw [s1], s2, ?_, ?_, ?_, ?_⟩
      · exact c 0 (by omega)
      · exact c 1 (by omega)
      · exact c 2 (by omega)
      · exact c 3 (by omega)
    · obtain ⟨i, hi, rfl⟩ := List.mem_map.1 he
      exact (hE i (by simpa using hi)).2
    · cases len with
      | zero => simp [heldIn] at hq
      | succ l => simp only [heldIn, Option.some.injEq] at hq; subst hq; exact (hsp (by omega)).2
    · rw [hlen]
      exact bulk_len D _

theorem open_is (h : DataW.trod enc Tryz.prog w base spare held n 40 cs = some x) :
    ∃ v es, cs = [v] ∧ IntsAt w v es ∧ (∀ e ∈ es, -9223372036854775808 ≤ e ∧ e ≤ 9223372036854775807) ∧ (∀ q, heldIn v = some q → q < w.heap.size) ∧ es.length ≤ Rows.uptoBulk x.1 := by
  rcases Deep.open_slice1 Tryz.underlying40 Tryz.cellsInt h with ⟨rfl, rfl⟩ | ⟨a, len, cap, m, k, V, D, Pl, rfl, -, hlc, -, hm, rfl, hx⟩
  · exact ⟨_, [], rfl, ⟨⟨_, _, rfl⟩, fun k e he => by simp at he⟩, fun e he => by simp at he, fun q hq => by simp [heldIn] at hq, by simp⟩
  · have hlm : len ≤ m := by rw [hm]; split <;> omega
    obtain ⟨E, hE⟩ := Deep.choose_lt (α := Int) (n := len) (p := fun i e => w.cell? (a.add i) = some (.int .i64 e) ∧ -9223372036854775808 ≤ e ∧ e ≤ 9223372036854775807) (fun i hi => by
      obtain ⟨h1, h2⟩ := hx i (by omega)
      obtain ⟨e, e1, -, e2⟩ := DataW.trod_int Tryz.underlying3 h2
      simp only [List.cons.injEq, and_true] at e1
      exact ⟨e, by rw [h1, e1], wf_time e2⟩)
    have hlen : ((List.range len).map E).length = len := by simp
    have hsp : 0 < len → a.spot = none ∧ a.block < w.heap.size := fun h0 => by
      have := (hE 0 h0).1
      have e0 : a.add 0 = a := by simp [Addr.add]
      rw [e0] at this
      exact ⟨spot_none this, cell_lt this⟩
    refine ⟨_, (List.range len).map E, rfl, ⟨⟨some a, cap, by rw [hlen]⟩, fun i e he => ?_⟩, fun e he => ?_, fun q hq => ?_, ?_⟩
    · have hi : i < len := by have := (List.getElem?_eq_some_iff.1 he).1; simpa using this
      have hee : E i = e := by simpa [hi] using he
      subst hee
      obtain ⟨s1, s2⟩ := hsp (by omega)
      refine ⟨a.block, a.off, cap, by rw [hlen]; obtain ⟨ab, ao, asp⟩ := a; simp only at s1; rw [s1], s2, ?_⟩
      rw [← add_none s1]
      exact (hE i hi).1
    · obtain ⟨i, hi, rfl⟩ := List.mem_map.1 he
      exact (hE i (by simpa using hi)).2
    · cases len with
      | zero => simp [heldIn] at hq
      | succ l => simp only [heldIn, Option.some.injEq] at hq; subst hq; exact (hsp (by omega)).2
    · rw [hlen]
      exact bulk_len D _
end
end Go.Proofs.YtnnoaolceeendaaGreatDoor
namespace Go.Proofs.YtnnoaolceeendaaGreatDoor
open Go.ChangeShapes Go.WideShapes Go.ChangeAt Go.RowKit Go.Joins
set_option linter.unusedVariables false

theorem Tryz.laidOut : laidOutB Tryz.prog = true := by kernel_rfl

theorem array6 {cs : Array Value} (h : cs.size = 6) : ∃ c0 c1 c2 c3 c4 c5, cs = #[c0, c1, c2, c3, c4, c5] := by
  obtain ⟨l⟩ := cs
  match l, h with
  | [c0, c1, c2, c3, c4, c5], _ => exact ⟨c0, c1, c2, c3, c4, c5, rfl⟩

set_option maxRecDepth 100000 in
/-- The config, opened: six numbers. -/
theorem open_config {H : Type} {enc : TypeId × Value → H} {w : World} {r : Reach} {b0 base : Nat} {spare : Nat → Bool} {held : Bool} {v : Value} {d : DataW H} {p : List MemPlace}
    (hv : Value.okWide Tryz.prog w r b0 23 v) (h : DataW.Trod enc Tryz.prog w base spare held 23 v d p) :
    ∃ C : Cf, v = .agg #[.int .i64 C.size, .int .i64 C.slide, .int .i64 C.bound, .int .i64 C.idle, .int .i64 C.parts, .int .i64 C.fold] := by
  obtain ⟨cs, rfl, hsz⟩ := okWide_struct Tryz.underlying23 hv
  obtain ⟨c0, c1, c2, c3, c4, c5, rfl⟩ := array6 (hsz.trans Tryz.cellsCf)
  obtain ⟨fuel, hf⟩ := h
  obtain ⟨xs, n, _, _, _, hlen, hf⟩ := DataW.trod_struct Tryz.underlying23 hf
  match xs, hlen with
  | [y0, y1, y2, y3, y4, y5], _ =>
    have g0 := hf 0 _ rfl
    have g1 := hf 1 _ rfl
    have g2 := hf 2 _ rfl
    have g3 := hf 3 _ rfl
    have g4 := hf 4 _ rfl
    have g5 := hf 5 _ rfl
    simp only [Value.cells] at g0 g1 g2 g3 g4 g5
    obtain ⟨n0, e0, _⟩ := DataW.trod_int Tryz.underlying3 g0
    obtain ⟨n1, e1, _⟩ := DataW.trod_int Tryz.underlying3 g1
    obtain ⟨n2, e2, _⟩ := DataW.trod_int Tryz.underlying3 g2
    obtain ⟨n3, e3, _⟩ := DataW.trod_int Tryz.underlying3 g3
    obtain ⟨n4, e4, _⟩ := DataW.trod_int Tryz.underlying3 g4
    obtain ⟨n5, e5, _⟩ := DataW.trod_int Tryz.underlying3 g5
    simp [Tryz.cellsInt] at e0 e1 e2 e3 e4 e5
    exact ⟨⟨n0, n1, n2, n3, n4, n5⟩, by rw [e0, e1, e2, e3, e4, e5]⟩

instance : Inhabited Sc := ⟨⟨0, [], [], 0⟩⟩

section
variable {H : Type} {enc : TypeId × Value → H} {w : World} {base : Nat} {spare : Nat → Bool} {held : Bool} {n : Nat} {cs : List Value} {x : DataW H × List MemPlace}

theorem open_op (h : DataW.trod enc Tryz.prog w base spare held n 42 cs = some x) (hB : Rows.uptoBulk x.1 ≤ 1048576) :
    ∃ (o : Sc) (ev iv : Value), cs = [.int .i64 o.kind, ev, iv, .int .i64 o.n] ∧ EvsAt w ev o.es ∧ IntsAt w iv o.ps ∧ (∀ q, heldIn ev = some q → q < w.heap.size) ∧ (∀ q, heldIn iv = some q → q < w.heap.size) ∧ timesOk o.es ∧ o.es.length + o.ps.length ≤ Rows.uptoBulk x.1 := by
  obtain ⟨y0, y1, y2, y3, m, rfl, hl, h0, h1, h2, h3⟩ := trod_struct4 Tryz.underlying42 h
  obtain ⟨c0, c1, c2, c3, rfl⟩ := list4 (hl.trans Tryz.cellsOp)
  obtain ⟨a0, e0, -, -⟩ := DataW.trod_int Tryz.underlying3 h0
  obtain ⟨ev, es, e1, q1, q2, q3, q4⟩ := open_evs h1 (by simp only [Rows.uptoBulk, Rows.uptoBulkAll] at hB; omega)
  obtain ⟨iv, is, e2, r1, -, r3, r4⟩ := open_is h2
  obtain ⟨a3, e3, -, -⟩ := DataW.trod_int Tryz.underlying3 h3
  simp [Tryz.cellsInt, Tryz.cellsEvs, Tryz.cellsInts] at e0 e1 e2 e3
  subst e0 e1 e2 e3
  exact ⟨⟨a0, es, is, a3⟩, _, _, rfl, q1, r1, q3, r3, q2, by simp only [Rows.uptoBulk, Rows.uptoBulkAll]; show es.length + is.length ≤ _; omega⟩

theorem open_script (h : DataW.trod enc Tryz.prog w base spare held n 24 cs = some x) (hB : Rows.uptoBulk x.1 ≤ 1048576) :
    ∃ v sc, cs = [v] ∧ ScAt w v sc ∧ (∀ o ∈ sc, timesOk o.es) ∧ (∀ o ∈ sc, o.ps.length ≤ Rows.uptoBulk x.1) ∧ sc.length ≤ Rows.uptoBulk x.1 ∧ tot sc ≤ Rows.uptoBulk x.1 := by
  rcases Deep.open_slice Tryz.underlying24 h with ⟨rfl, rfl⟩ | ⟨a, len, cap, m, k, D, Pl, rfl, -, hlc, -, hm, rfl, hx⟩
  · exact ⟨_, [], rfl, ⟨⟨_, _, rfl⟩, fun k e he => by simp at he⟩, fun e he => by simp at he, fun e he => by simp at he, by simp, by simp [tot]⟩
  · rw [Tryz.cellsOp] at hx
    have hlm : len ≤ m := by rw [hm]; split <;> omega
    have hbe := bulk_elems (len := len) D ((List.range (m - len)).map fun j => D (len + j))
    have hone : ∀ i, i < len → Rows.uptoBulk (D i) ≤ Rows.uptoBulk (.slice ((List.range len).map D) ((List.range (m - len)).map fun j => D (len + j))) := fun i hi =>
      Nat.le_trans (mem_le_sum (List.mem_map.2 ⟨i, by simpa using hi, rfl⟩)) hbe
    obtain ⟨E, hE⟩ := Deep.choose_lt (α := Sc × Value × Value) (n := len) (p := fun i e => w.cells? base (a.add (i * 4)) 4 = some [.int .i64 e.1.kind, e.2.1, e.2.2, .int .i64 e.1.n] ∧ EvsAt w e.2.1 e.1.es ∧ IntsAt w e.2.2 e.1.ps ∧ (∀ q, heldIn e.2.1 = some q → q < w.heap.size) ∧ (∀ q, heldIn e.2.2 = some q → q < w.heap.size) ∧ timesOk e.1.es ∧ e.1.es.length + e.1.ps.length ≤ Rows.uptoBulk (D i)) (fun i hi => by
      obtain ⟨cs', h1, h2⟩ := hx i (by omega)
      obtain ⟨o, ev, iv, rfl, h3⟩ := open_op h2 (Nat.le_trans (hone i hi) hB)
      exact ⟨(o, ev, iv), h1, h3⟩)
    have hlen : ((List.range len).map fun i => (E i).1).length = len := by simp
    have hsp : 0 < len → a.spot = none ∧ a.block < w.heap.size := fun h0 => by
      have := cells_at (hE 0 h0).1 (j := 0) (by omega)
      rw [show 0 * 4 + 0 = 0 by omega] at this
      have e0 : a.add 0 = a := by simp [Addr.add]
      rw [e0] at this
      exact ⟨spot_none this, cell_lt this⟩
    refine ⟨_, (List.range len).map fun i => (E i).1, rfl, ⟨⟨some a, cap, by rw [hlen]⟩, fun i o ho => ?_⟩, fun o ho => ?_, fun o ho => ?_, ?_, ?_⟩
    · have hi : i < len := by have := (List.getElem?_eq_some_iff.1 ho).1; simpa using this
      have hee : (E i).1 = o := by simpa [hi] using ho
      subst hee
      obtain ⟨s1, s2⟩ := hsp (by omega)
      have c : ∀ j, j < 4 → w.cell? ⟨a.block, a.off + (i * 4 + j), none⟩ = [Value.int .i64 (E i).1.kind, (E i).2.1, (E i).2.2, .int .i64 (E i).1.n][j]? := fun j hj => by
        rw [← add_none s1]
        exact cells_at (hE i hi).1 hj
      obtain ⟨-, t1, t2, t3, t4, -⟩ := hE i hi
      refine ⟨a.block, a.off, cap, _, _, by rw [hlen]; obtain ⟨ab, ao, asp⟩ := a; simp only at s1; rw [s1], s2, c 0 (by omega), c 1 (by omega), c 2 (by omega), c 3 (by omega), t1, t2, t3, t4⟩
    · obtain ⟨i, hi, rfl⟩ := List.mem_map.1 ho
      exact (hE i (by simpa using hi)).2.2.2.2.2.1
    · obtain ⟨i, hi, rfl⟩ := List.mem_map.1 ho
      have h1 := (hE i (by simpa using hi)).2.2.2.2.2.2
      have h2 := hone i (by simpa using hi)
      simp only
      omega
    · rw [hlen]
      exact bulk_len D _
    · refine Nat.le_trans ?_ hbe
      unfold tot
      rw [List.map_map]
      exact sum_le_of fun i hi => by
        have h1 := (hE i (by simpa using hi)).2.2.2.2.2.2
        simp only [Function.comp]
        omega
end

set_option maxRecDepth 100000 in
theorem flows_contract {L : World → Prop} {B0 : Nat} {FA : World → Nat → Cf → M.Fl ByteArray → (Nat → Prop) → Prop} (T : Tide L B0 FA) (H : Type) (enc : TypeId × Value → H) (W : World) (base : Nat) (args : Array Value) (ds gs : List (DataW H)) (before : List MemPlace) (hL : L W)
    (hval : ∀ (j : Nat) t v, Tryz.f3.params[j]? = some t → args[j]? = some v → Value.okWide Tryz.prog W .any base t v)
    (hW : DataW.Whole enc Tryz.prog Tryz.f3.params.toList Rows.flowsSpec.vars false W args.toList ds gs before) (hk : Rows.uptoSmall H (ds ++ gs) = true) :
    Calls Tryz.prog 3 args W fun e W' => ∃ v, e = .returned v ∧ Rows.flowsSpec.post enc Tryz.prog Tryz.f3 false true false false W args v W' := by
  have hW' := hW
  obtain ⟨p, q, hA0, hV, rfl, hfz, hnd⟩ := hW
  have hA : DataW.TrodAll enc Tryz.prog W 0 (fun _ => true) true Tryz.f3.params.toList args.toList ds p := hA0
  rw [Tryz.params3] at hA hval
  obtain ⟨v0, vs0, d0, ds0, p0, q0, hargs, rfl, rfl, h0, r0⟩ := trodAll_cons hA
  obtain ⟨v1, vs1, d1, ds1, p1, q1, rfl, rfl, rfl, h1, r1⟩ := trodAll_cons r0
  obtain ⟨rfl, rfl, rfl⟩ := trodAll_nil r1
  obtain rfl : args = #[v0, v1] := by cases args; simp_all
  obtain ⟨rfl, rfl⟩ := trodVars_none hV
  obtain ⟨C, rfl⟩ := open_config (hval 0 23 v0 rfl rfl) h0
  have hb : Rows.uptoBulkAll ([d0, d1] ++ []) ≤ 1048576 := of_decide_eq_true hk
  simp only [List.append_nil, Rows.uptoBulkAll] at hb
  obtain ⟨a1, l1, c1, rfl⟩ := okWide_slice Tryz.underlying24 (hval 1 24 v1 rfl rfl)
  obtain ⟨f1, hf1⟩ := h1
  obtain ⟨v, sc, hv, s1, s2, s3, s4, s5⟩ := open_script hf1 (by simp only; omega)
  obtain rfl : Value.slice a1 l1 c1 = v := by simpa [Value.cells] using hv
  clear hA0 hval
  simp only [List.append_nil] at hW'
  have hlt : ∀ x ∈ p0 ++ p1, x.block < W.heap.size := fun x hx => by simpa using hW'.lt x (by simpa using hx)
  refine (flows_walk T C sc _ W hL s1 s2 (fun o ho => by have := s3 o ho; simp only at this; omega) (by simp only at s4; omega) (by simp only at s5; omega)).mono fun r W' ⟨he, hbw⟩ => ?_
  subst he
  refine ⟨_, rfl, _, _, _, [], p0 ++ p1, [], hW', ?_, ?_, rfl, hbw.frame _, fun h => by cases h⟩
  · exact trodAll_cons_mk (shut_bool Tryz.underlying4 _) trodAll_mk0
  · have t0 := Below.trod Tryz.laidOut (by kernel_rfl) (of_decide_eq_true (by kernel_rfl)) h0 hbw (fun x hx => hlt x (by simp [hx]))
    have t1 := Below.trod Tryz.laidOut (by kernel_rfl) (of_decide_eq_true (by kernel_rfl)) ⟨f1, hf1⟩ hbw (fun x hx => hlt x (by simp [hx]))
    have t := trodAll_cons_mk t0 (trodAll_cons_mk t1 trodAll_mk0)
    rw [List.append_nil] at t
    exact t
end Go.Proofs.YtnnoaolceeendaaGreatDoor
