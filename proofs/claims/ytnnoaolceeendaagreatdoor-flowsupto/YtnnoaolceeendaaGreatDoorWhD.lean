import Derived.Test.YtnnoaolceeendaaGreatDoorWhC
import Derived.Test.YtnnoaolceeendaaGreatDoorTideE
namespace Go.Proofs.YtnnoaolceeendaaGreatDoor.M
section
variable {K : Type} {lt : K → K → Bool}

/-- What is told by ends and keys, rising, is what is over, in order. -/
theorem told_ends (ho : SO lt) {size now t : Int} {opn : List (Pn K)} (ha : OpenOk size now opn) (ends : List Int) (hr : ends.Pairwise (· < ·)) (keys : Int → List K) (hk : ∀ e ∈ ends, (keys e).Pairwise fun a b => lt a b = true) (val : Int → K → Int)
    (hmem : ∀ p : Pn K, (p ∈ opn ∧ p.stop ≤ t) ↔ (p.stop ∈ ends ∧ p.key ∈ keys p.stop ∧ p.n = val p.stop p.key ∧ p.start = p.stop - size)) :
    (ends.flatMap fun e => (keys e).map fun k => (⟨e - size, e, k, val e k⟩ : Pn K)) = sortP lt (opn.filter fun p => decide (p.stop ≤ t)) := by
  have hf := filter_apart ha.apart (fun p => decide (p.stop ≤ t))
  refine sorted_eq ho ?_ (sortP_sorted ho hf) fun p => ?_
  · unfold Sorted
    rw [List.pairwise_flatMap]
    refine ⟨fun e he => ?_, hr.imp fun {a b} hab x hx y hy => ?_⟩
    · rw [List.pairwise_map]
      refine (hk e he).imp fun {a b} hab => ?_
      simp [lessP, hab]
    · obtain ⟨k, -, rfl⟩ := List.mem_map.1 hx
      obtain ⟨k', -, rfl⟩ := List.mem_map.1 hy
      unfold lessP
      rw [if_pos (by simp only; omega)]
      simpa using hab
  · rw [(sortP_perm ho hf).mem_iff, List.mem_filter, decide_eq_true_eq, hmem p]
    constructor
    · intro hp
      obtain ⟨e, he, hp⟩ := List.mem_flatMap.1 hp
      obtain ⟨k, hk', rfl⟩ := List.mem_map.1 hp
      exact ⟨he, hk', rfl, rfl⟩
    · rintro ⟨h1, h2, h3, h4⟩
      refine List.mem_flatMap.2 ⟨p.stop, h1, List.mem_map.2 ⟨p.key, h2, ?_⟩⟩
      obtain ⟨a, b, c, d⟩ := p
      simp only at h3 h4 ⊢
      rw [h3, h4]
end
end Go.Proofs.YtnnoaolceeendaaGreatDoor.M
