import Derived.Test.YtnnoaolceeendaaGreatDoorRefF
import Derived.Maps.Own
import Derived.Maps.OwnOps
import Derived.Maps.OwnSet
import Derived.Sort.KeysCollected
namespace Go.Proofs.YtnnoaolceeendaaGreatDoor
open Go.ChangeShapes Go.WideShapes Go.ChangeAt Go.RowKit

/-! ### A tally: a map of numbers by texts -/
abbrev strL (s : ByteArray) : Lit := .string s.data.toList
theorem strL_inj {a b : ByteArray} (h : strL a = strL b) : a = b := by
  simp only [strL, Lit.string.injEq] at h
  obtain ⟨x⟩ := a
  obtain ⟨y⟩ := b
  simp only at h
  rw [show x = y from Array.toList_inj.1 h]
theorem strL_key (s : ByteArray) : WideAt.IsKeyLit (strL s) := by simp [WideAt.IsKeyLit]
theorem intL_key (n : Int) : WideAt.IsKeyLit (.int .i64 n) := by simp [WideAt.IsKeyLit]
def fits (v : Int) : Prop := -9223372036854775808 ≤ v ∧ v ≤ 9223372036854775807
theorem fits_wf {v : Int} (h : fits v) : (Lit.int .i64 v).wf = true := by
  obtain ⟨h1, h2⟩ := h
  exact WalkArith.wf_i64 ⟨h1, h2⟩

abbrev keyS : Maps.Keyed Tryz.prog 9 := Maps.string_keyed Tryz.underlying9
abbrev keyI : Maps.Keyed Tryz.prog 3 := Maps.int_keyed Tryz.underlying3

structure TalD (D : DataW Unit) (G : ByteArray → Option Int) : Prop where
  yes : ∀ s v, G s = some v → s.size ≤ maxLen ∧ fits v ∧ ∀ z, D.atKey (strL s) z = .lit (.int .i64 v)
  no : ∀ s, G s = none → Maps.has D (strL s) = false

theorem TalD.has {D : DataW Unit} {G : ByteArray → Option Int} (h : TalD D G) (s : ByteArray) : Maps.has D (strL s) = (G s).isSome := by
  cases hg : G s with
  | none => rw [h.no s hg]; rfl
  | some v => rw [Maps.has_true_of_atKey (h.yes s v hg).2.2]; rfl

theorem TalD.at {D : DataW Unit} {G : ByteArray → Option Int} (h : TalD D G) (s : ByteArray) : D.atKey (strL s) (.lit (.int .i64 0)) = .lit (.int .i64 ((G s).getD 0)) := by
  cases hg : G s with
  | none => rw [Maps.atKey_of_not_has (h.no s hg)]; rfl
  | some v => exact (h.yes s v hg).2.2 _

/-- A tally lies at block b. -/
def TalAt (w : World) (b : Nat) (G : ByteArray → Option Int) : Prop :=
  ∃ D : DataW Unit, w.ownsMap Tryz.prog 9 (plainElem Tryz.prog 3) b (Maps.size D) D ∧ TalD D G

theorem ownsMap_size {P : Program} {k : TypeId} {R : Value → Option (DataW Unit × List MemPlace)} {w : World} {b n : Nat} {D : DataW Unit} (h : w.ownsMap P k R b n D) : w.ownsMap P k R b (Maps.size D) D := by
  obtain ⟨es, clock, hb, F, -, rfl⟩ := h
  exact ⟨es, clock, hb, F, by rw [Maps.size_eq, length_sorted]; simp, rfl⟩

theorem ownsMap_agree {P : Program} {k : TypeId} {R : Value → Option (DataW Unit × List MemPlace)} {w w' : World} {b n : Nat} {D : DataW Unit} (h : w.ownsMap P k R b n D) (e : w'.heap[b]? = w.heap[b]?) : w'.ownsMap P k R b n D := by
  obtain ⟨es, clock, hb, r⟩ := h
  exact ⟨es, clock, e.trans hb, r⟩

theorem TalAt.agree {w w' : World} {b : Nat} {G : ByteArray → Option Int} (h : TalAt w b G) (e : w'.heap[b]? = w.heap[b]?) : TalAt w' b G := by
  obtain ⟨D, h1, h2⟩ := h
  exact ⟨D, ownsMap_agree h1 e, h2⟩

theorem TalAt.lt {w : World} {b : Nat} {G : ByteArray → Option Int} (h : TalAt w b G) : b < w.heap.size := by
  obtain ⟨D, h1, -⟩ := h
  exact h1.lt

theorem TalAt.made (w : World) : TalAt (w.alloc (.map #[] 0)) w.heap.size (fun _ => none) :=
  ⟨.map [], World.ownsMap_made _ _ _ _, fun s v h => by simp at h, fun s _ => rfl⟩

theorem TalAt.is_map {w : World} {b : Nat} {G : ByteArray → Option Int} (h : TalAt w b G) : ∃ es c, w.heap[b]? = some (.map es c) := by
  obtain ⟨D, ⟨es, c, h1, -⟩, -⟩ := h
  exact ⟨es, c, h1⟩

def putG (G : ByteArray → Option Int) (s : ByteArray) (v : Int) : ByteArray → Option Int := fun x => if x = s then some v else G x

theorem TalD.put {D : DataW Unit} {G : ByteArray → Option Int} (hm : Maps.IsMap D) (h : TalD D G) {s : ByteArray} {v : Int} (hs : s.size ≤ maxLen) (hv : fits v) : TalD (D.put (strL s) (.lit (.int .i64 v))) (putG G s v) := by
  constructor
  · intro x y hx
    unfold putG at hx
    split at hx
    · rename_i e
      subst e
      simp only [Option.some.injEq] at hx
      subst hx
      exact ⟨hs, hv, fun z => Maps.atKey_put_same hm (strL_key x) _ z⟩
    · rename_i e
      obtain ⟨h1, h2, h3⟩ := h.yes x y hx
      exact ⟨h1, h2, fun z => by rw [Maps.atKey_put_other (fun e' => e (strL_inj e'))]; exact h3 z⟩
  · intro x hx
    unfold putG at hx
    split at hx
    · simp at hx
    · rename_i e
      rw [Maps.has_put_other (fun e' => e (strL_inj e'))]
      exact h.no x hx

/-- The keys of a tally. -/
theorem TalD.keys {w : World} {b n : Nat} {D : DataW Unit} {G : ByteArray → Option Int} (ho : w.ownsMap Tryz.prog 9 (plainElem Tryz.prog 3) b n D) (h : TalD D G) (s : ByteArray) : s.data.toList ∈ strKeys D ↔ (G s).isSome = true := by
  rw [← h.has s]
  obtain ⟨es, rfl, hk⟩ := ho.keysOf
  rw [Maps.has_eq, List.any_eq_true]
  show s.data.toList ∈ es.map (fun p => strOf p.1) ↔ _
  rw [List.mem_map]
  constructor
  · rintro ⟨p, hp, he⟩
    obtain ⟨v, hv⟩ := hk p hp
    obtain ⟨x, -, e2, -⟩ := Maps.keyOf_str Tryz.underlying9 hv
    refine ⟨p, hp, ?_⟩
    rw [e2] at he ⊢
    simp only [strOf] at he
    subst he
    exact WideAt.sameKey_self (strL_key s)
  · rintro ⟨p, hp, he⟩
    have := (WideAt.sameKey_iff (strL_key s)).1 he
    exact ⟨p, hp, by rw [this]; rfl⟩

theorem TalD.nodup {w : World} {b n : Nat} {D : DataW Unit} (ho : w.ownsMap Tryz.prog 9 (plainElem Tryz.prog 3) b n D) : (strKeys D).Nodup := by
  obtain ⟨es, rfl, hp⟩ := ho.tidy keyS
  obtain ⟨es', e, hk⟩ := ho.keysOf
  simp only [DataW.map.injEq] at e
  subst e
  show (es.map fun p => strOf p.1).Nodup
  refine List.pairwise_map.2 (hp.imp_of_mem fun {p q} hp' hq' hne e => hne ?_)
  obtain ⟨v, hv⟩ := hk p hp'
  obtain ⟨x, -, e2, -⟩ := Maps.keyOf_str Tryz.underlying9 hv
  obtain ⟨v', hv'⟩ := hk q hq'
  obtain ⟨y, -, e3, -⟩ := Maps.keyOf_str Tryz.underlying9 hv'
  rw [e2, e3] at e ⊢
  exact congrArg _ e

/-- How many keys a tally has at most. -/
theorem TalD.size_le {w : World} {b n : Nat} {D : DataW Unit} {G : ByteArray → Option Int} (ho : w.ownsMap Tryz.prog 9 (plainElem Tryz.prog 3) b n D) (h : TalD D G) {ks : List ByteArray} (hk : ∀ s, (G s).isSome = true → s ∈ ks) : Maps.size D ≤ ks.length := by
  have h1 : Maps.size D = (strKeys D).length := by
    obtain ⟨es, rfl⟩ := ho.isMap
    rw [Maps.size_eq]
    show es.length = (es.map fun p => strOf p.1).length
    simp
  have h2 : (ks.map fun s : ByteArray => s.data.toList).length = ks.length := List.length_map _
  rw [h1, ← h2]
  refine (TalD.nodup ho).length_le_of_subset fun x hx => ?_
  obtain ⟨s, rfl⟩ : ∃ s : ByteArray, s.data.toList = x := ⟨⟨x.toArray⟩, by simp⟩
  exact List.mem_map.2 ⟨s, hk s ((h.keys ho s).1 hx), rfl⟩

/-! ### The tallies: a map of maps by ends -/
def refElem : Value → Option (DataW Unit × List MemPlace)
  | .map (some b) => some (.lit (.int .i64 (b : Int)), [])
  | .map none => some (.nil, [])
  | _ => none

theorem refElem_inv {v : Value} {b : Nat} {ps : List MemPlace} (h : refElem v = some (.lit (.int .i64 (b : Int)), ps)) : v = .map (some b) := by
  unfold refElem at h
  split at h
  · rename_i b'
    simp only [Option.some.injEq, Prod.mk.injEq, DataW.lit.injEq, Lit.int.injEq, true_and] at h
    have h1 := h.1
    have h2 : b' = b := by omega
    rw [h2]
  · simp at h
  · cases h
theorem refElem_nil {v : Value} {ps : List MemPlace} (h : refElem v = some (.nil, ps)) : v = .map none := by
  unfold refElem at h
  split at h
  · simp at h
  · rfl
  · cases h

structure TlsD (D : DataW Unit) (TM : Int → Option Nat) : Prop where
  yes : ∀ e b, TM e = some b → fits e ∧ ∀ z, D.atKey (.int .i64 e) z = .lit (.int .i64 (b : Int))
  no : ∀ e, TM e = none → Maps.has D (.int .i64 e) = false

def TlsAt (w : World) (b : Nat) (TM : Int → Option Nat) : Prop :=
  ∃ D : DataW Unit, w.ownsMap Tryz.prog 3 refElem b (Maps.size D) D ∧ TlsD D TM

theorem TlsAt.agree {w w' : World} {b : Nat} {TM : Int → Option Nat} (h : TlsAt w b TM) (e : w'.heap[b]? = w.heap[b]?) : TlsAt w' b TM := by
  obtain ⟨D, h1, h2⟩ := h
  exact ⟨D, ownsMap_agree h1 e, h2⟩
theorem TlsAt.lt {w : World} {b : Nat} {TM : Int → Option Nat} (h : TlsAt w b TM) : b < w.heap.size := by
  obtain ⟨D, h1, -⟩ := h
  exact h1.lt
theorem TlsAt.made (w : World) : TlsAt (w.alloc (.map #[] 0)) w.heap.size (fun _ => none) :=
  ⟨.map [], World.ownsMap_made _ _ _ _, fun s v h => by simp at h, fun s _ => rfl⟩
theorem TlsAt.is_map {w : World} {b : Nat} {TM : Int → Option Nat} (h : TlsAt w b TM) : ∃ es c, w.heap[b]? = some (.map es c) := by
  obtain ⟨D, ⟨es, c, h1, -⟩, -⟩ := h
  exact ⟨es, c, h1⟩

def putM (TM : Int → Option Nat) (e : Int) (b : Nat) : Int → Option Nat := fun x => if x = e then some b else TM x
def delM (TM : Int → Option Nat) (e : Int) : Int → Option Nat := fun x => if x = e then none else TM x

theorem intL_ne {a b : Int} (h : a ≠ b) : (Lit.int .i64 a) ≠ .int .i64 b := fun e => h (by simpa using e)

theorem TlsD.put {D : DataW Unit} {TM : Int → Option Nat} (hm : Maps.IsMap D) (h : TlsD D TM) {e : Int} {b : Nat} (he : fits e) : TlsD (D.put (.int .i64 e) (.lit (.int .i64 (b : Int)))) (putM TM e b) := by
  constructor
  · intro x y hx
    unfold putM at hx
    split at hx
    · rename_i e'
      subst e'
      simp only [Option.some.injEq] at hx
      subst hx
      exact ⟨he, fun z => Maps.atKey_put_same hm (intL_key x) _ z⟩
    · rename_i e'
      obtain ⟨h1, h2⟩ := h.yes x y hx
      exact ⟨h1, fun z => by rw [Maps.atKey_put_other (intL_ne e')]; exact h2 z⟩
  · intro x hx
    unfold putM at hx
    split at hx
    · simp at hx
    · rename_i e'
      rw [Maps.has_put_other (intL_ne e')]
      exact h.no x hx

theorem TlsD.del {D : DataW Unit} {TM : Int → Option Nat} (h : TlsD D TM) (e : Int) : TlsD (D.del (.int .i64 e)) (delM TM e) := by
  constructor
  · intro x y hx
    unfold delM at hx
    split at hx
    · simp at hx
    · rename_i e'
      obtain ⟨h1, h2⟩ := h.yes x y hx
      exact ⟨h1, fun z => by rw [Maps.atKey_del_other (intL_ne e')]; exact h2 z⟩
  · intro x hx
    unfold delM at hx
    split at hx
    · rename_i e'
      subst e'
      exact Maps.has_del_same
    · rename_i e'
      rw [Maps.has_del_other (intL_ne e')]
      exact h.no x hx

/-- What is found at an end. -/
theorem TlsD.find {D : DataW Unit} {TM : Int → Option Nat} (h : TlsD D TM) (e : Int) {v : Value} {ps : List MemPlace} (hv : refElem v = some (D.atKey (.int .i64 e) .nil, ps)) : v = .map (TM e) := by
  cases hg : TM e with
  | none => rw [Maps.atKey_of_not_has (h.no e hg)] at hv; exact refElem_nil hv
  | some b => rw [(h.yes e b hg).2] at hv; exact refElem_inv hv

theorem TlsD.size_le {w : World} {b n : Nat} {D : DataW Unit} {TM : Int → Option Nat} (ho : w.ownsMap Tryz.prog 3 refElem b n D) (h : TlsD D TM) {ks : List Int} (hk : ∀ e, (TM e).isSome = true → e ∈ ks) : Maps.size D ≤ ks.length := by
  obtain ⟨es, rfl, hp⟩ := ho.tidy keyI
  obtain ⟨es', e, hkk⟩ := ho.keysOf
  simp only [DataW.map.injEq] at e
  subst e
  rw [Maps.size_eq]
  have hkey : ∀ p ∈ es, ∃ x : Int, p.1 = .int .i64 x := fun p hp' => by
    obtain ⟨v, hv⟩ := hkk p hp'
    cases v <;> simp [keyOf, Tryz.underlying3, mapKey] at hv
    rename_i q a
    obtain ⟨⟨rfl, -⟩, hv⟩ := hv
    exact ⟨a, hv.symm⟩
  have h2 : (ks.map fun x : Int => Lit.int .i64 x).length = ks.length := List.length_map _
  have h3 : (es.map fun p => p.1).length = es.length := List.length_map _
  rw [← h3, ← h2]
  refine List.Nodup.length_le_of_subset (List.pairwise_map.2 hp) fun x hx => ?_
  obtain ⟨p, hp', rfl⟩ := List.mem_map.1 hx
  obtain ⟨a, ha⟩ := hkey p hp'
  rw [ha]
  refine List.mem_map.2 ⟨a, hk a ?_, rfl⟩
  cases hg : TM a with
  | some y => rfl
  | none =>
    have := h.no a hg
    rw [Maps.has_eq, List.any_eq_false] at this
    exact absurd (by rw [ha]; exact WideAt.sameKey_self (intL_key a)) (this p hp')
end Go.Proofs.YtnnoaolceeendaaGreatDoor
