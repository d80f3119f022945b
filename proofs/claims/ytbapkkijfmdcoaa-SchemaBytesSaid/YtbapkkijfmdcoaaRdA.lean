/-
  A helper of ours: no claim of its own. Readers, on both sides, besides a list that grows in a block of its own.
-/
import Derived.Test.YtbapkkijfmdcoaaBinM
set_option linter.unusedVariables false
set_option linter.unusedSimpArgs false
namespace Go.Proofs.Ytbapkkijfmdcoaa
open Go.RowKit
theorem Rdr.blt {w : World} {S : List Nat} {b : Nat} {st : List UInt8 × Int} (h : Rdr w S b st) : b < w.heap.size := by
  obtain ⟨_, _, v, hO, _⟩ := h
  exact hO.lt
theorem Rdr.less {w : World} {S S' : List Nat} {b : Nat} {st : List UInt8 × Int} (h : Rdr w S b st) (hs : ∀ x, x ∈ S' → x ∈ S) (hb : b ∈ S') : Rdr w S' b st := h.more (fun x hx => .inl (hs x hx)) hb
theorem Qdr.blt {w : World} {S : List Nat} {b : Nat} {st : List UInt8 × Int} (h : Qdr w S b st) : b < w.heap.size := by
  obtain ⟨_, _, v, hO, _⟩ := h
  exact hO.lt
theorem Qdr.more {w : World} {S S' : List Nat} {b : Nat} {st : List UInt8 × Int} (h : Qdr w S b st) (hs : ∀ x, x ∈ S' → x ∈ S ∨ w.heap.size ≤ x) (hb' : b ∈ S') : Qdr w S' b st := by
  obtain ⟨hb, hi, v, hO, hB⟩ := h
  exact ⟨hb', hi, v, hO, Sl.new hB hs⟩
theorem Qdr.err {w : World} {S : List Nat} {b : Nat} {st : List UInt8 × Int} (h : Qdr w S b st) : w.cell? ⟨b, 1, none⟩ = some (.int .i64 st.2) := by
  obtain ⟨_, _, v, hO, _⟩ := h
  exact hO.cell 1 rfl
theorem Qdr.less {w : World} {S S' : List Nat} {b : Nat} {st : List UInt8 × Int} (h : Qdr w S b st) (hs : ∀ x, x ∈ S' → x ∈ S) (hb : b ∈ S') : Qdr w S' b st := h.more (fun x hx => .inl (hs x hx)) hb
theorem Qdr.front' {w : World} {S : List Nat} {b : Nat} {st : List UInt8 × Int} (h : Qdr w S b st) (o : Obj) : Qdr (w.alloc o) (w.heap.size :: S) b st :=
  qdr_ext (h.more (fun x hx => by rcases List.mem_cons.1 hx with rfl | hx; exact .inr (Nat.le_refl _); exact .inl hx) (by simp [h.1])) ((Ext.refl w).alloc _)
/-- What one's own block is, as a list. -/
abbrev ob (v : Value) : List Nat := v.ownBlock.toList
theorem own_fr {w w' : World} {base e size n : Nat} {v : Value} {xs : List Value} {S : List Nat} (h : w.ownsRow base e size v n xs) (k : Fr S w w') (hS : ∀ x ∈ S, x < base) : w'.ownsRow base e size v n xs := by
  refine ⟨h.1, ?_⟩
  rcases h.2 with h2 | ⟨g, cap, cur, rfl, hb, hg, hr⟩
  · exact .inl h2
  · exact .inr ⟨g, cap, cur, rfl, hb, (k.block g (lt_of_block hg) (fun m => by have := hS g m; omega)).trans hg, hr⟩
theorem ob_ge {w : World} {base e size n : Nat} {v : Value} {xs : List Value} (h : w.ownsRow base e size v n xs) : ∀ k ∈ ob v, base ≤ k ∧ k < w.heap.size := by
  intro k hk
  have hk' : v.ownBlock = some k := by simpa [ob] using hk
  rcases h.2 with ⟨rfl, _⟩ | ⟨g, cap, cur, rfl, hb, hg, _⟩
  · cases hk'
  · have : k = g := by simpa [Value.ownBlock] using hk'.symm
    subst this
    exact ⟨hb, lt_of_block hg⟩
theorem fr_grown {w w' : World} {v : Value} (h : w.grownBy w' v.ownBlock) : Fr (ob v) w w' :=
  (Fr.refl (ob v) w).grown h (fun k hk => .inl (by simp [ob, hk]))
theorem rdr_app {w w' : World} {S : List Nat} {b base : Nat} {st : List UInt8 × Int} {v v' : Value} (h : Rdr w (ob v ++ S) b st) (hbS : b ∈ S) (hg : w.grownBy w' v.ownBlock) (hv : v'.ownBlock = v.ownBlock ∨ v'.ownBlock = some w.heap.size) (hob : ∀ k ∈ ob v, base ≤ k) (hb : b < base) : Rdr w' (ob v' ++ S) b st := by
  have hF := fr_grown hg
  have hnb : b ∉ ob v := fun m => by have := hob b m; omega
  rcases hv with e | e
  · have := h.fr hF hnb (fun x hx => by simp only [List.mem_append]; exact .inl hx)
    rwa [show ob v' = ob v by unfold ob; rw [e]]
  · have h2 : Rdr w (w.heap.size :: (ob v ++ S)) b st := h.more (fun x hx => by rcases List.mem_cons.1 hx with rfl | hx; exact .inr (Nat.le_refl _); exact .inl hx) (by simp [hbS])
    have h3 := h2.fr hF hnb (fun x hx => by simp only [List.mem_cons, List.mem_append]; exact .inr (.inl hx))
    refine h3.more (fun x hx => ?_) (by simp [hbS])
    have e2 : ob v' = [w.heap.size] := by unfold ob; rw [e]; rfl
    rw [e2] at hx
    left
    simp only [List.mem_append, List.mem_cons, List.not_mem_nil, or_false] at hx ⊢
    rcases hx with rfl | hx
    · exact .inl rfl
    · exact .inr (.inr hx)
theorem qdr_app {w w' : World} {S : List Nat} {b base : Nat} {st : List UInt8 × Int} {v v' : Value} (h : Qdr w (ob v ++ S) b st) (hbS : b ∈ S) (hg : w.grownBy w' v.ownBlock) (hv : v'.ownBlock = v.ownBlock ∨ v'.ownBlock = some w.heap.size) (hob : ∀ k ∈ ob v, base ≤ k) (hb : b < base) : Qdr w' (ob v' ++ S) b st := by
  have hF := fr_grown hg
  have hnb : b ∉ ob v := fun m => by have := hob b m; omega
  rcases hv with e | e
  · have := h.fr hF hnb (fun x hx => by simp only [List.mem_append]; exact .inl hx)
    rwa [show ob v' = ob v by unfold ob; rw [e]]
  · have h2 : Qdr w (w.heap.size :: (ob v ++ S)) b st := h.more (fun x hx => by rcases List.mem_cons.1 hx with rfl | hx; exact .inr (Nat.le_refl _); exact .inl hx) (by simp [hbS])
    have h3 := h2.fr hF hnb (fun x hx => by simp only [List.mem_cons, List.mem_append]; exact .inr (.inl hx))
    refine h3.more (fun x hx => ?_) (by simp [hbS])
    have e2 : ob v' = [w.heap.size] := by unfold ob; rw [e]; rfl
    rw [e2] at hx
    left
    simp only [List.mem_append, List.mem_cons, List.not_mem_nil, or_false] at hx ⊢
    rcases hx with rfl | hx
    · exact .inl rfl
    · exact .inr (.inr hx)
end Go.Proofs.Ytbapkkijfmdcoaa
