import Derived.Test.YtnnoaolceeendaaDoorLawG
import Derived.Test.YtnnoaolceeendaaDoorRows
import Derived.OpenShut
import Derived.Deep.Slices
import Derived.Lib.SmallJoins
namespace Go.Proofs.YtnnoaolceeendaaDoor
open Go.ChangeShapes Go.WideShapes Go.ChangeAt Go.RowKit Go.Joins

/-! ### What the arguments read as: opened -/
theorem Tryd.cellsEv : Tryd.prog.cellsOf 67 = 4 := by kernel_rfl
theorem Tryd.cellsInt : Tryd.prog.cellsOf 3 = 1 := by kernel_rfl
theorem Tryd.cellsStr : Tryd.prog.cellsOf 9 = 1 := by kernel_rfl
theorem Tryd.cellsOp : Tryd.prog.cellsOf 39 = 4 := by kernel_rfl
theorem Tryd.cellsEvs : Tryd.prog.cellsOf 36 = 1 := by kernel_rfl
theorem Tryd.cellsInts : Tryd.prog.cellsOf 37 = 1 := by kernel_rfl
theorem Tryd.cellsCf : Tryd.prog.cellsOf 23 = 6 := by kernel_rfl

theorem list4 {α : Type} {cs : List α} (h : cs.length = 4) : ∃ c0 c1 c2 c3, cs = [c0, c1, c2, c3] := by
  match cs, h with
  | [c0, c1, c2, c3], _ => exact ⟨c0, c1, c2, c3, rfl⟩

theorem wf_time {n : Int} (h : (Lit.int .i64 n).wf = true) : -9223372036854775808 ≤ n ∧ n ≤ 9223372036854775807 := by
  simpa [Lit.wf, IntKind.min, IntKind.max, IntKind.signed, IntKind.bits] using h

theorem bulk_one {H : Type} (d : DataW H) : 1 ≤ Rows.uptoBulk d := by
  cases d with
  | lit l => cases l <;> simp [Rows.uptoBulk]
  | nil => simp [Rows.uptoBulk]
  | ptr d => simp [Rows.uptoBulk]
  | slice elems spare => simp [Rows.uptoBulk]
  | agg parts => simp [Rows.uptoBulk]
  | iface t d => simp [Rows.uptoBulk]
  | map entries => simp [Rows.uptoBulk]
  | held h => simp [Rows.uptoBulk]
theorem bulk_sum {H : Type} (l : List (DataW H)) : Rows.uptoBulkAll l = (l.map Rows.uptoBulk).sum := by
  induction l with
  | nil => simp [Rows.uptoBulkAll]
  | cons x l ih => simp [Rows.uptoBulkAll, ih]
theorem sum_le_of {α : Type} {f g : α → Nat} : ∀ {l : List α}, (∀ x ∈ l, f x ≤ g x) → (l.map f).sum ≤ (l.map g).sum
  | [], _ => Nat.le_refl _
  | x :: l, h => by
    have h1 := h x (by simp)
    have h2 := sum_le_of (f := f) (g := g) (l := l) (fun y hy => h y (by simp [hy]))
    simp only [List.map_cons, List.sum_cons]
    omega

theorem sum_ones (n : Nat) : ((List.range n).map fun _ => 1).sum = n := by
  induction n with
  | zero => rfl
  | succ n ih => rw [List.range_succ, List.map_append, List.sum_append, ih]; rfl
theorem bulk_elems {H : Type} {len : Nat} (D : Nat → DataW H) (r : List (DataW H)) : ((List.range len).map fun i => Rows.uptoBulk (D i)).sum ≤ Rows.uptoBulk (.slice ((List.range len).map D) r) := by
  simp only [Rows.uptoBulk, bulk_sum, List.map_map, Function.comp_def]
  omega
theorem bulk_len {H : Type} {len : Nat} (D : Nat → DataW H) (r : List (DataW H)) : len ≤ Rows.uptoBulk (.slice ((List.range len).map D) r) := by
  have h1 := sum_le_of (f := fun _ => 1) (g := fun i => Rows.uptoBulk (D i)) (l := List.range len) (fun i _ => bulk_one _)
  have h2 := bulk_elems (len := len) D r
  have h3 := sum_ones len
  omega

theorem mem_le_sum : ∀ {l : List Nat} {x : Nat}, x ∈ l → x ≤ l.sum
  | y :: l, x, h => by
    rcases List.mem_cons.1 h with rfl | h
    · simp
    · have := mem_le_sum h
      simp only [List.sum_cons]
      omega

instance : Inhabited (M.Ev ByteArray) := ⟨⟨0, ByteArray.empty, 0, 0⟩⟩

section
variable {H : Type} {enc : TypeId × Value → H} {w : World} {base : Nat} {spare : Nat → Bool} {held : Bool} {n : Nat} {cs : List Value} {x : DataW H × List MemPlace}

theorem open_ev (h : DataW.trod enc Tryd.prog w base spare held n 67 cs = some x) (hB : Rows.uptoBulk x.1 ≤ 1048576) :
    ∃ e : M.Ev ByteArray, cs = [.int .i64 e.part, .string e.key, .int .i64 e.at_, .int .i64 e.val] ∧ -9223372036854775808 ≤ e.at_ ∧ e.at_ ≤ 9223372036854775807 ∧ plainEv e := by
  obtain ⟨y0, y1, y2, y3, m, rfl, hl, h0, h1, h2, h3⟩ := trod_struct4 Tryd.underlying67 h
  obtain ⟨c0, c1, c2, c3, rfl⟩ := list4 (hl.trans Tryd.cellsEv)
  obtain ⟨a0, e0, -, -⟩ := DataW.trod_int Tryd.underlying3 h0
  obtain ⟨a1, e1, x1, -⟩ := DataW.trod_string Tryd.underlying9 h1
  obtain ⟨a2, e2, -, w2⟩ := DataW.trod_int Tryd.underlying3 h2
  obtain ⟨a3, e3, -, w3⟩ := DataW.trod_int Tryd.underlying3 h3
  simp [Tryd.cellsInt, Tryd.cellsStr] at e0 e1 e2 e3
  subst e0 e1 e2 e3
  have hk : a1.size ≤ 1048576 := by
    rw [x1] at hB
    simp only [Rows.uptoBulk, Rows.uptoBulkAll, Array.length_toList] at hB
    show a1.data.size ≤ _
    omega
  exact ⟨⟨a0, a1, a2, a3⟩, rfl, (wf_time w2).1, (wf_time w2).2, hk, wf_time w3⟩

theorem spot_none {a : Addr} {v : Value} (h : w.cell? a = some v) : a.spot = none := by
  unfold World.cell? at h
  split at h
  · split at h
    · cases h
    · rename_i hs
      cases hx : a.spot with
      | none => rfl
      | some s => simp [hx] at hs
  · cases h
theorem cell_lt {a : Addr} {v : Value} (h : w.cell? a = some v) : a.block < w.heap.size := by
  unfold World.cell? at h
  split at h
  · rename_i hx
    exact (Array.getElem?_eq_some_iff.1 hx).1
  · cases h
theorem add_none {a : Addr} (h : a.spot = none) (k : Nat) : a.add k = ⟨a.block, a.off + k, none⟩ := by
  obtain ⟨b, o, s⟩ := a
  simp only at h
  subst h
  unfold Addr.add
  split
  · rename_i hk; subst hk; rfl
  · rfl

/-- The cells of an element, one by one. -/
theorem cells_at {a : Addr} {c i : Nat} {xs : List Value} (h : w.cells? base (a.add (i * c)) c = some xs) {j : Nat} (hj : j < c) : w.cell? (a.add (i * c + j)) = xs[j]? := by
  obtain ⟨_, _, h3⟩ := World.cells?_some h
  rw [← Deep.add_add]
  exact h3 j hj

theorem open_evs (h : DataW.trod enc Tryd.prog w base spare held n 36 cs = some x) (hB : Rows.uptoBulk x.1 ≤ 1048576) :
    ∃ v es, cs = [v] ∧ EvsAt w v es ∧ timesOk es ∧ (∀ q, heldIn v = some q → q < w.heap.size) ∧ es.length ≤ Rows.uptoBulk x.1 := by
  rcases Deep.open_slice Tryd.underlying36 h with ⟨rfl, rfl⟩ | ⟨a, len, cap, m, k, D, Pl, rfl, -, hlc, -, hm, rfl, hx⟩
  · exact ⟨_, [], rfl, ⟨⟨_, _, rfl⟩, fun k e he => by simp at he⟩, fun e he => by simp at he, fun q hq => by simp [heldIn] at hq, by simp⟩
  · rw [Tryd.cellsEv] at hx
    have hlm : len ≤ m := by rw [hm]; split <;> omega
    have hbe := bulk_elems (len := len) D ((List.range (m - len)).map fun j => D (len + j))
    have hone : ∀ i, i < len → Rows.uptoBulk (D i) ≤ Rows.uptoBulk (.slice ((List.range len).map D) ((List.range (m - len)).map fun j => D (len + j))) := fun i hi =>
      Nat.le_trans (mem_le_sum (List.mem_map.2 ⟨i, by simpa using hi, rfl⟩)) hbe
    obtain ⟨E, hE⟩ := Deep.choose_lt (α := M.Ev ByteArray) (n := len) (p := fun i e => w.cells? base (a.add (i * 4)) 4 = some [.int .i64 e.part, .string e.key, .int .i64 e.at_, .int .i64 e.val] ∧ -9223372036854775808 ≤ e.at_ ∧ e.at_ ≤ 9223372036854775807 ∧ plainEv e) (fun i hi => by
      obtain ⟨cs', h1, h2⟩ := hx i (by omega)
      obtain ⟨e, rfl, h3⟩ := open_ev h2 (Nat.le_trans (hone i hi) hB)
      exact ⟨e, h1, h3⟩)
    have hlen : ((List.range len).map E).length = len := by simp
    have hsp : 0 < len → a.spot = none ∧ a.block < w.heap.size := fun h0 => by
      have := cells_at (hE 0 h0).1 (j := 0) (by omega)
      rw [show 0 * 4 + 0 = 0 by omega] at this
      have e0 : a.add 0 = a := by simp [Addr.add]
      rw [e0] at this
      exact ⟨spot_none this, cell_lt this⟩
    refine ⟨_, (List.range len).map E, rfl, ⟨⟨some a, cap, by rw [hlen]⟩, fun i e he => ?_⟩, fun e he => ?_, fun q hq => ?_, ?_⟩
    · have hi : i < len := by have := (List.getElem?_eq_some_iff.1 he).1; simpa using this
      have hee : E i = e := by simpa [hi] using he
      subst hee
      obtain ⟨s1, s2⟩ := hsp (by omega)
      have c : ∀ j, j < 4 → w.cell? ⟨a.block, a.off + (i * 4 + j), none⟩ = [Value.int .i64 (E i).part, .string (E i).key, .int .i64 (E i).at_, .int .i64 (E i).val][j]? := fun j hj => by
        rw [← add_none s1]
        exact cells_at (hE i hi).1 hj
      refine ⟨a.block, a.off, cap, by rw [hlen]; obtain ⟨ab, ao, asp⟩ := a; simp only at s1; rw [s1], s2, ?_, ?_, ?_, ?_⟩
      · exact c 0 (by omega)
      · exact c 1 (by omega)
      · exact c 2 (by omega)
      · exact c 3 (by omega)
    · obtain ⟨i, hi, rfl⟩ := List.mem_map.1 he
      exact (hE i (by simpa using hi)).2
    · cases len with
      | zero => simp [heldIn] at hq
      | succ l => simp only [heldIn, Option.some.injEq] at hq; subst hq; exact (hsp (by omega)).2
    · rw [hlen]
      exact bulk_len D _

theorem open_is (h : DataW.trod enc Tryd.prog w base spare held n 37 cs = some x) :
    ∃ v es, cs = [v] ∧ IntsAt w v es ∧ (∀ e ∈ es, -9223372036854775808 ≤ e ∧ e ≤ 9223372036854775807) ∧ (∀ q, heldIn v = some q → q < w.heap.size) ∧ es.length ≤ Rows.uptoBulk x.1 := by
  rcases Deep.open_slice1 Tryd.underlying37 Tryd.cellsInt h with ⟨rfl, rfl⟩ | ⟨a, len, cap, m, k, V, D, Pl, rfl, -, hlc, -, hm, rfl, hx⟩
  · exact ⟨_, [], rfl, ⟨⟨_, _, rfl⟩, fun k e he => by simp at he⟩, fun e he => by simp at he, fun q hq => by simp [heldIn] at hq, by simp⟩
  · have hlm : len ≤ m := by rw [hm]; split <;> omega
    obtain ⟨E, hE⟩ := Deep.choose_lt (α := Int) (n := len) (p := fun i e => w.cell? (a.add i) = some (.int .i64 e) ∧ -9223372036854775808 ≤ e ∧ e ≤ 9223372036854775807) (fun i hi => by
      obtain ⟨h1, h2⟩ := hx i (by omega)
      obtain ⟨e, e1, -, e2⟩ := DataW.trod_int Tryd.underlying3 h2
      simp only [List.cons.injEq, and_true] at e1
      exact ⟨e, by rw [h1, e1], wf_time e2⟩)
    have hlen : ((List.range len).map E).length = len := by simp
    have hsp : 0 < len → a.spot = none ∧ a.block < w.heap.size := fun h0 => by
      have := (hE 0 h0).1
      have e0 : a.add 0 = a := by simp [Addr.add]
      rw [e0] at this
      exact ⟨spot_none this, cell_lt this⟩
    refine ⟨_, (List.range len).map E, rfl, ⟨⟨some a, cap, by rw [hlen]⟩, fun i e he => ?_⟩, fun e he => ?_, fun q hq => ?_, ?_⟩
    · have hi : i < len := by have := (List.getElem?_eq_some_iff.1 he).1; simpa using this
      have hee : E i = e := by simpa [hi] using he
      subst hee
      obtain ⟨s1, s2⟩ := hsp (by omega)
      refine ⟨a.block, a.off, cap, by rw [hlen]; obtain ⟨ab, ao, asp⟩ := a; simp only at s1; rw [s1], s2, ?_⟩
      rw [← add_none s1]
      exact (hE i hi).1
    · obtain ⟨i, hi, rfl⟩ := List.mem_map.1 he
      exact (hE i (by simpa using hi)).2
    · cases len with
      | zero => simp [heldIn] at hq
      | succ l => simp only [heldIn, Option.some.injEq] at hq; subst hq; exact (hsp (by omega)).2
    · rw [hlen]
      exact bulk_len D _
end
end Go.Proofs.YtnnoaolceeendaaDoor
namespace Go.Proofs.YtnnoaolceeendaaDoor
open Go.ChangeShapes Go.WideShapes Go.ChangeAt Go.RowKit Go.Joins
set_option linter.unusedVariables false

theorem Tryd.laidOut : laidOutB Tryd.prog = true := by kernel_rfl

theorem array6 {cs : Array Value} (h : cs.size = 6) : ∃ c0 c1 c2 c3 c4 c5, cs = #[c0, c1, c2, c3, c4, c5] := by
  obtain ⟨l⟩ := cs
  match l, h with
  | [c0, c1, c2, c3, c4, c5], _ => exact ⟨c0, c1, c2, c3, c4, c5, rfl⟩

set_option maxRecDepth 100000 in
/-- The config, opened: six numbers. -/
theorem open_config {H : Type} {enc : TypeId × Value → H} {w : World} {r : Reach} {b0 base : Nat} {spare : Nat → Bool} {held : Bool} {v : Value} {d : DataW H} {p : List MemPlace}
    (hv : Value.okWide Tryd.prog w r b0 23 v) (h : DataW.Trod enc Tryd.prog w base spare held 23 v d p) :
    ∃ C : Cf, v = .agg #[.int .i64 C.size, .int .i64 C.slide, .int .i64 C.bound, .int .i64 C.idle, .int .i64 C.parts, .int .i64 C.fold] := by
  obtain ⟨cs, rfl, hsz⟩ := okWide_struct Tryd.underlying23 hv
  obtain ⟨c0, c1, c2, c3, c4, c5, rfl⟩ := array6 (hsz.trans Tryd.cellsCf)
  obtain ⟨fuel, hf⟩ := h
  obtain ⟨xs, n, _, _, _, hlen, hf⟩ := DataW.trod_struct Tryd.underlying23 hf
  match xs, hlen with
  | [y0, y1, y2, y3, y4, y5], _ =>
    have g0 := hf 0 _ rfl
    have g1 := hf 1 _ rfl
    have g2 := hf 2 _ rfl
    have g3 := hf 3 _ rfl
    have g4 := hf 4 _ rfl
    have g5 := hf 5 _ rfl
    simp only [Value.cells] at g0 g1 g2 g3 g4 g5
    obtain ⟨n0, e0, _⟩ := DataW.trod_int Tryd.underlying3 g0
    obtain ⟨n1, e1, _⟩ := DataW.trod_int Tryd.underlying3 g1
    obtain ⟨n2, e2, _⟩ := DataW.trod_int Tryd.underlying3 g2
    obtain ⟨n3, e3, _⟩ := DataW.trod_int Tryd.underlying3 g3
    obtain ⟨n4, e4, _⟩ := DataW.trod_int Tryd.underlying3 g4
    obtain ⟨n5, e5, _⟩ := DataW.trod_int Tryd.underlying3 g5
    simp [Tryd.cellsInt] at e0 e1 e2 e3 e4 e5
    exact ⟨⟨n0, n1, n2, n3, n4, n5⟩, by rw [e0, e1, e2, e3, e4, e5]⟩

instance : Inhabited Sc := ⟨⟨0, [], [], 0⟩⟩

section
variable {H : Type} {enc : TypeId × Value → H} {w : World} {base : Nat} {spare : Nat → Bool} {held : Bool} {n : Nat} {cs : List Value} {x : DataW H × List MemPlace}

theorem open_op (h : DataW.trod enc Tryd.prog w base spare held n 39 cs = some x) (hB : Rows.uptoBulk x.1 ≤ 1048576) :
    ∃ (o : Sc) (ev iv : Value), cs = [.int .i64 o.kind, ev, iv, .int .i64 o.n] ∧ EvsAt w ev o.es ∧ IntsAt w iv o.ps ∧ (∀ q, heldIn ev = some q → q < w.heap.size) ∧ (∀ q, heldIn iv = some q → q < w.heap.size) ∧ timesOk o.es ∧ o.es.length + o.ps.length ≤ Rows.uptoBulk x.1 := by
  obtain ⟨y0, y1, y2, y3, m, rfl, hl, h0, h1, h2, h3⟩ := trod_struct4 Tryd.underlying39 h
  obtain ⟨c0, c1, c2, c3, rfl⟩ := list4 (hl.trans Tryd.cellsOp)
  obtain ⟨a0, e0, -, -⟩ := DataW.trod_int Tryd.underlying3 h0
  obtain ⟨ev, es, e1, q1, q2, q3, q4⟩ := open_evs h1 (by simp only [Rows.uptoBulk, Rows.uptoBulkAll] at hB; omega)
  obtain ⟨iv, is, e2, r1, -, r3, r4⟩ := open_is h2
  obtain ⟨a3, e3, -, -⟩ := DataW.trod_int Tryd.underlying3 h3
  simp [Tryd.cellsInt, Tryd.cellsEvs, Tryd.cellsInts] at e0 e1 e2 e3
  subst e0 e1 e2 e3
  exact ⟨⟨a0, es, is, a3⟩, _, _, rfl, q1, r1, q3, r3, q2, by simp only [Rows.uptoBulk, Rows.uptoBulkAll]; show es.length + is.length ≤ _; omega⟩

theorem open_script (h : DataW.trod enc Tryd.prog w base spare held n 24 cs = some x) (hB : Rows.uptoBulk x.1 ≤ 1048576) :
    ∃ v sc, cs = [v] ∧ ScAt w v sc ∧ (∀ o ∈ sc, timesOk o.es) ∧ (∀ o ∈ sc, o.ps.length ≤ Rows.uptoBulk x.1) ∧ sc.length ≤ Rows.uptoBulk x.1 ∧ tot sc ≤ Rows.uptoBulk x.1 := by
  rcases Deep.open_slice Tryd.underlying24 h with ⟨rfl, rfl⟩ | ⟨a, len, cap, m, k, D, Pl, rfl, -, hlc, -, hm, rfl, hx⟩
  · exact ⟨_, [], rfl, ⟨⟨_, _, rfl⟩, fun k e he => by simp at he⟩, fun e he => by simp at he, fun e he => by simp at he, by simp, by simp [tot]⟩
  · rw [Tryd.cellsOp] at hx
    have hlm : len ≤ m := by rw [hm]; split <;> omega
    have hbe := bulk_elems (len := len) D ((List.range (m - len)).map fun j => D (len + j))
    have hone : ∀ i, i < len → Rows.uptoBulk (D i) ≤ Rows.uptoBulk (.slice ((List.range len).map D) ((List.range (m - len)).map fun j => D (len + j))) := fun i hi =>
      Nat.le_trans (mem_le_sum (List.mem_map.2 ⟨i, by simpa using hi, rfl⟩)) hbe
    obtain ⟨E, hE⟩ := Deep.choose_lt (α := Sc × Value × Value) (n := len) (p := fun i e => w.cells? base (a.add (i * 4)) 4 = some [.int .i64 e.1.kind, e.2.1, e.2.2, .int .i64 e.1.n] ∧ EvsAt w e.2.1 e.1.es ∧ IntsAt w e.2.2 e.1.ps ∧ (∀ q, heldIn e.2.1 = some q → q < w.heap.size) ∧ (∀ q, heldIn e.2.2 = some q → q < w.heap.size) ∧ timesOk e.1.es ∧ e.1.es.length + e.1.ps.length ≤ Rows.uptoBulk (D i)) (fun i hi => by
      obtain ⟨cs', h1, h2⟩ := hx i (by omega)
      obtain ⟨o, ev, iv, rfl, h3⟩ := open_op h2 (Nat.le_trans (hone i hi) hB)
      exact ⟨(o, ev, iv), h1, h3⟩)
    have hlen : ((List.range len).map fun i => (E i).1).length = len := by simp
    have hsp : 0 < len → a.spot = none ∧ a.block < w.heap.size := fun h0 => by
      have := cells_at (hE 0 h0).1 (j := 0) (by omega)
      rw [show 0 * 4 + 0 = 0 by omega] at this
      have e0 : a.add 0 = a := by simp [Addr.add]
      rw [e0] at this
      exact ⟨spot_none this, cell_lt this⟩
    refine ⟨_, (List.range len).map fun i => (E i).1, rfl, ⟨⟨some a, cap, by rw [hlen]⟩, fun i o ho => ?_⟩, fun o ho => ?_, fun o ho => ?_, ?_, ?_⟩
    · have hi : i < len := by have := (List.getElem?_eq_some_iff.1 ho).1; simpa using this
      have hee : (E i).1 = o := by simpa [hi] using ho
      subst hee
      obtain ⟨s1, s2⟩ := hsp (by omega)
      have c : ∀ j, j < 4 → w.cell? ⟨a.block, a.off + (i * 4 + j), none⟩ = [Value.int .i64 (E i).1.kind, (E i).2.1, (E i).2.2, .int .i64 (E i).1.n][j]? := fun j hj => by
        rw [← add_none s1]
        exact cells_at (hE i hi).1 hj
      obtain ⟨-, t1, t2, t3, t4, -⟩ := hE i hi
      refine ⟨a.block, a.off, cap, _, _, by rw [hlen]; obtain ⟨ab, ao, asp⟩ := a; simp only at s1; rw [s1], s2, c 0 (by omega), c 1 (by omega), c 2 (by omega), c 3 (by omega), t1, t2, t3, t4⟩
    · obtain ⟨i, hi, rfl⟩ := List.mem_map.1 ho
      exact (hE i (by simpa using hi)).2.2.2.2.2.1
    · obtain ⟨i, hi, rfl⟩ := List.mem_map.1 ho
      have h1 := (hE i (by simpa using hi)).2.2.2.2.2.2
      have h2 := hone i (by simpa using hi)
      simp only
      omega
    · rw [hlen]
      exact bulk_len D _
    · refine Nat.le_trans ?_ hbe
      unfold tot
      rw [List.map_map]
      exact sum_le_of fun i hi => by
        have h1 := (hE i (by simpa using hi)).2.2.2.2.2.2
        simp only [Function.comp]
        omega
end

end Go.Proofs.YtnnoaolceeendaaDoor
