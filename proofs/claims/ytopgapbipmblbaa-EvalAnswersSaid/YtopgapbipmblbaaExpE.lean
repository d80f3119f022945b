/-
  A helper of ours: no claim of its own. Layer 17 (expr): two parts in the other order.
-/
import Derived.Test.YtopgapbipmblbaaExpD
import Derived.Test.YtopgapbipmblbaaReg2
set_option linter.unusedVariables false
set_option linter.unusedSimpArgs false
namespace Go.Proofs.Ytopgapbipmblbaa
open Go.RowKit
attribute [local go_sem] GW.cell GW.frozen In.eq_true In.le_true In.ne In.ne' In.ne_add In.ne_add' In.lt_add Upto.le_true Upto.le_add Upto.lt_add
set_option maxHeartbeats 1000000 in
set_option maxRecDepth 100000 in
theorem reverse0_c (w : World) : Calls Try.prog 47 #[.slice none 0 0] w fun e w' => e = .returned (.tuple #[]) ∧ Ext w w' := by
  go_enter Try.func47, Try.ntmps47
  go_wp2_with fail
  go_loopg [2, 3] 0 (fun gh i j wr => i = .int .i64 0 ∧ j = .int .i64 (-1) ∧ Ext w wr)
  case atStart => exact ⟨rfl, rfl, Ext.refl w⟩
  case round =>
    obtain ⟨rfl, rfl, hX⟩ := hrel
    go_wp2_with fail
    go_returns
    exact ⟨rfl, hX⟩
set_option maxHeartbeats 1000000 in
set_option maxRecDepth 100000 in
theorem reverse1_c (A : Option Addr) (cap : Nat) (w : World) : Calls Try.prog 47 #[.slice A 1 cap] w fun e w' => e = .returned (.tuple #[]) ∧ Ext w w' := by
  go_enter Try.func47, Try.ntmps47
  go_wp2_with fail
  go_loopg [2, 3] 0 (fun gh i j wr => i = .int .i64 0 ∧ j = .int .i64 0 ∧ Ext w wr)
  case atStart => exact ⟨rfl, rfl, Ext.refl w⟩
  case round =>
    obtain ⟨rfl, rfl, hX⟩ := hrel
    go_wp2_with fail
    go_returns
    exact ⟨rfl, hX⟩
set_option maxHeartbeats 4000000 in
set_option maxRecDepth 100000 in
theorem reverse2_c (g cap : Nat) (A0 A1 : Option Addr) (n0 n1 k0 k1 : Nat) (w : World) (c0 : w.cell? ⟨g, 0, none⟩ = some (.slice A0 n0 k0)) (c1 : w.cell? ⟨g, 1, none⟩ = some (.slice A1 n1 k1)) (hf : ∀ i, w.frozen? ⟨g, i, none⟩ = false) :
    Calls Try.prog 47 #[.slice (some ⟨g, 0, none⟩) 2 cap] w fun e w' => e = .returned (.tuple #[]) ∧ ∃ n, w' = ((w.setCell ⟨g, 0, none⟩ (.slice A1 n1 k1)).setCell ⟨g, 1, none⟩ (.slice A0 n0 k0)).drewN n := by
  have hlt := block_lt_of_cell c0
  have hf0 := hf 0
  have hf1 := hf 1
  go_enter Try.func47, Try.ntmps47
  go_wp2_with fail
  go_loopg [2, 3] 1 (fun gh i j wr => (gh = 1 ∧ i = .int .i64 0 ∧ j = .int .i64 1 ∧ wr = w) ∨ (gh = 0 ∧ i = .int .i64 1 ∧ j = .int .i64 0 ∧ ∃ n, wr = ((w.setCell ⟨g, 0, none⟩ (.slice A1 n1 k1)).setCell ⟨g, 1, none⟩ (.slice A0 n0 k0)).drewN n))
  case atStart => exact .inl ⟨rfl, rfl, rfl, rfl⟩
  case round =>
    rcases hrel with ⟨rfl, rfl, rfl, rfl⟩ | ⟨rfl, rfl, rfl, n, rfl⟩
    · go_wp2_with fail
      go_region
      go_wp2_with fail
      go_roundg 0
      case measure => omega
      case rel => exact .inr ⟨rfl, by go_num, by go_num, 1, rfl⟩
    · go_wp2_with fail
      go_returns
      exact ⟨rfl, n, rfl⟩
/-- A list of lists of words, where it lies. -/
def PartsIn (w : World) (base : Nat) (v : Value) (L : List (List Vl)) : Prop :=
  ∃ us : List Value, w.ownsRow base 23 1 v L.length us ∧ ∀ (i : Nat) (l : List Vl), L[i]? = some l → ∃ u, us[i]? = some u ∧ Rw w [] u l
theorem PartsIn.ext {w w' : World} {base : Nat} {v : Value} {L : List (List Vl)} (h : PartsIn w base v L) (k : Ext w w') : PartsIn w' base v L := by
  obtain ⟨us, ho, hr⟩ := h
  exact ⟨us, own_ext ho k, fun i l hl => let ⟨u, e, hw⟩ := hr i l hl; ⟨u, e, Sl.ext hw k⟩⟩
/-- What an expression's last word takes. -/
def partsE (l : List Vl) (L : List (List Vl)) : Prop := (formE l ≠ 0 ∧ L = []) ∨ ∃ t : Tr, t.good ∧ l = t.flat ∧ l.length ≤ 64 ∧ L = t.kids.map Tr.flat
theorem tPart : ElemT Try.prog 52 23 (.slice none 0 0) 1 24 := ElemT.mk' Try.underlying52 (by kernel_rfl) rfl (by omega)
theorem src_cell1 {P : Program} {tx e' : TypeId} (hk : P.underlying tx = some (.slice e')) (w : World) (u : Value) (hu : u.oneCell' = true) (E : TypeId) : Src P 1 tx (.slice (some ⟨w.heap.size, 0, none⟩) 1 1) 1 [u] (w.alloc (.cells #[u] E)) :=
  Src.ofSlice _ hk _ 1 1 [u] (by simp) (fun j x hj => by
    have hj' : j = 0 := by
      have := (List.getElem?_eq_some_iff.1 hj).1
      simpa using this
    subst hj'
    have hh := (Ob.new w E [u]).cell 0 rfl
    have : x = u := by simpa using hj.symm
    subst this
    rw [show (⟨w.heap.size, 0, none⟩ : Addr).add 0 = ⟨w.heap.size, 0, none⟩ by rw [add_plain]]
    exact hh) (by intro x hx; simp at hx; subst hx; exact hu)
theorem src_word {P : Program} {tx e' : TypeId} (hk : P.underlying tx = some (.slice e')) (w : World) (x : Vl) (E : TypeId) : Src P 3 tx (.slice (some ⟨w.heap.size, 0, none⟩) 1 1) 1 (vc x) (w.alloc (.cells #[.int .i64 x.1, .int .i64 x.2.1, .string x.2.2] E)) :=
  Src.ofSlice _ hk _ 1 1 (vc x) (by simp [vc]) (fun j u hj => by
    have hj' : j < 3 := by
      have := (List.getElem?_eq_some_iff.1 hj).1
      simpa [vc] using this
    have hh := (Ob.new w E [.int .i64 x.1, .int .i64 x.2.1, .string x.2.2]).cell j hj
    rw [show (⟨w.heap.size, 0, none⟩ : Addr).add j = ⟨w.heap.size, j, none⟩ by rw [add_plain]; simp]
    exact hh) (by
    intro u hu
    exact rc_one [x] u (by simpa [rc] using hu))
/-- The same, while the list may grow: no part lies in the list's own block. -/
structure PartsS (w : World) (base : Nat) (v : Value) (us : List Value) (L : List (List Vl)) : Prop where
  own : w.ownsRow base 23 1 v us.length us
  len : us.length = L.length
  at_ : ∀ (i : Nat) (u : Value) (l : List Vl), us[i]? = some u → L[i]? = some l → Rw w v.ownBlock.toList u l
section
variable {w w' W : World} {base : Nat} {v v' : Value} {us : List Value} {L : List (List Vl)}
theorem PartsS.ext (h : PartsS w base v us L) (k : Ext w w') : PartsS w' base v us L := ⟨own_ext h.own k, h.len, fun i u l hu hl => Sl.ext (h.at_ i u l hu hl) k⟩
theorem PartsS.in_ (h : PartsS w base v us L) : PartsIn w base v L := ⟨us, h.len ▸ h.own, fun i l hl => by
  have hi := (List.getElem?_eq_some_iff.1 hl).1
  obtain ⟨u, hu⟩ : ∃ u, us[i]? = some u := ⟨_, List.getElem?_eq_getElem (by rw [h.len]; exact hi)⟩
  exact ⟨u, hu, Sl.less (h.at_ i u l hu hl) (by simp)⟩⟩
theorem PartsS.none (w : World) (base : Nat) : PartsS w base (.slice .none 0 0) [] [] := ⟨World.ownsRow_nil _ _ _ _, rfl, by simp⟩
theorem PartsS.snoc {u : Value} {l : List Vl} (h : PartsS w base v us L) (hu : Rw w v.ownBlock.toList u l) (ho : w'.ownsRow base 23 1 v' (us.length + 1) (us ++ [u])) (hg : w.grownBy w' v.ownBlock)
    (hb : v'.ownBlock = v.ownBlock ∨ v'.ownBlock = some w.heap.size) : PartsS w' base v' (us ++ [u]) (L ++ [l]) := by
  have keep : ∀ (x : Value) (m : List Vl), Rw w v.ownBlock.toList x m → Rw w' v'.ownBlock.toList x m := by
    intro x m hx
    have h1 : Rw w (w.heap.size :: v.ownBlock.toList) x m := Sl.new hx (by
      intro b hb'
      rcases List.mem_cons.1 hb' with rfl | hb'
      · exact .inr (Nat.le_refl _)
      · exact .inl hb')
    have h2 : Rw w' (w.heap.size :: v.ownBlock.toList) x m := Sl.fr h1 (Fr.grown (Fr.refl v.ownBlock.toList w) hg (fun k hk => .inl (by rw [hk]; simp))) (by intro b hb'; simp [hb'])
    refine Sl.less h2 ?_
    intro b hb'
    rcases hb with e | e <;> rw [e] at hb'
    · simp [hb']
    · simp at hb'; simp [hb']
  refine ⟨by rw [List.length_append, List.length_singleton]; exact ho, by rw [List.length_append, List.length_append, h.len]; rfl, fun i x m hx hm => ?_⟩
  rcases Nat.lt_or_ge i us.length with hi | hi
  · rw [List.getElem?_append_left hi] at hx
    rw [List.getElem?_append_left (by rw [← h.len]; exact hi)] at hm
    exact keep x m (h.at_ i x m hx hm)
  · have hi' := (List.getElem?_eq_some_iff.1 hx).1
    rw [List.length_append, List.length_singleton] at hi'
    obtain rfl : i = us.length := by omega
    obtain rfl : x = u := by simpa using hx.symm
    rw [h.len] at hm
    obtain rfl : m = l := by simpa using hm.symm
    exact keep _ _ hu
theorem PartsS.lt (h : PartsS w base v us L) : ∀ g, v.ownBlock = some g → base ≤ g ∧ g < w.heap.size := fun g hg => h.own.lt g hg
end
set_option maxHeartbeats 4000000 in
set_option maxRecDepth 100000 in
theorem reverse_c {w W : World} {base : Nat} {v : Value} {us : List Value} {L : List (List Vl)} (h : PartsS w base v us L) (h2 : us.length ≤ 2) (hX : Ext W w) (hb : W.heap.size ≤ base) :
    Calls Try.prog 47 #[v] w fun e w' => e = .returned (.tuple #[]) ∧ PartsS w' base v us.reverse L.reverse ∧ Ext W w' := by
  match us, L, h, h2 with
  | [], [], h, _ =>
    rcases h.own.2 with ⟨rfl, _⟩ | ⟨g, cap, cur, rfl, _⟩
    · refine (reverse0_c w).mono ?_
      rintro e w' ⟨rfl, hx⟩
      exact ⟨rfl, h.ext hx, hX.trans hx⟩
    · simp only [List.length_nil] at h ⊢
      have : Calls Try.prog 47 #[.slice (some ⟨g, 0, none⟩) 0 cap] w fun e w' => e = .returned (.tuple #[]) ∧ Ext w w' := by
        go_enter Try.func47, Try.ntmps47
        go_wp2_with fail
        go_loopg [2, 3] 0 (fun gh i j wr => i = .int .i64 0 ∧ j = .int .i64 (-1) ∧ Ext w wr)
        case atStart => exact ⟨rfl, rfl, Ext.refl w⟩
        case round =>
          obtain ⟨rfl, rfl, hX⟩ := hrel
          go_wp2_with fail
          go_returns
          exact ⟨rfl, hX⟩
      refine this.mono ?_
      rintro e w' ⟨rfl, hx⟩
      exact ⟨rfl, h.ext hx, hX.trans hx⟩
  | [u], [l], h, _ =>
    obtain ⟨A, cap, rfl⟩ := own_form h.own
    refine (reverse1_c A cap w).mono ?_
    rintro e w' ⟨rfl, hx⟩
    exact ⟨rfl, h.ext hx, hX.trans hx⟩
  | [u0, u1], [l0, l1], h, _ =>
    have ho := h.own
    rcases ho.2 with ⟨_, h0⟩ | ⟨g, cap, cur, rfl, hbg, hg, -⟩
    · cases h0
    have r0 := h.at_ 0 u0 l0 rfl rfl
    have r1 := h.at_ 1 u1 l1 rfl rfl
    obtain ⟨A0, k0, rfl, -⟩ := rw_form r0
    obtain ⟨A1, k1, rfl, -⟩ := rw_form r1
    have c0 := ho.cells (g := g) rfl 0 _ rfl
    have c1 := ho.cells (g := g) rfl 1 _ rfl
    rw [add_plain] at c0 c1
    refine (reverse2_c g cap A0 A1 l0.length l1.length k0 k1 w c0 c1 (fun i => frozen_of_row w g i _ _ hg)).mono ?_
    rintro e w' ⟨rfl, n, rfl⟩
    have s1 := (World.ownsRow.stored ho 0 (.slice A1 l1.length k1)).1
    have s2 := (World.ownsRow.stored s1 1 (.slice A0 l0.length k0)).1
    have hgm : g ∈ (Value.slice (some ⟨g, 0, none⟩) [Value.slice A0 l0.length k0, Value.slice A1 l1.length k1].length cap).ownBlock.toList := by simp [Value.ownBlock]
    refine ⟨rfl, ⟨by simpa using own_ext s2 ((Ext.refl _).drewN n), rfl, fun i x m hx hm => ?_⟩, ((hX.setCell (p := ⟨g, 0, none⟩) (Nat.le_trans hb hbg) _).setCell (p := ⟨g, 1, none⟩) (Nat.le_trans hb hbg) _).drewN n⟩
    have t0 := Sl.drewN (Sl.set (Sl.set r0 ⟨g, 0, none⟩ (.slice A1 l1.length k1) hgm) ⟨g, 1, none⟩ (.slice A0 l0.length k0) hgm) n
    have t1 := Sl.drewN (Sl.set (Sl.set r1 ⟨g, 0, none⟩ (.slice A1 l1.length k1) hgm) ⟨g, 1, none⟩ (.slice A0 l0.length k0) hgm) n
    match i, hx, hm with
    | 0, hx, hm =>
      obtain rfl : x = .slice A1 l1.length k1 := by simpa using hx.symm
      obtain rfl : m = l1 := by simpa using hm.symm
      exact t1
    | 1, hx, hm =>
      obtain rfl : x = .slice A0 l0.length k0 := by simpa using hx.symm
      obtain rfl : m = l0 := by simpa using hm.symm
      exact t0
    | i + 2, hx, _ => simp at hx
  | [], _ :: _, h, _ => exact absurd h.len (by simp)
  | [_], [], h, _ => exact absurd h.len (by simp)
  | [_], _ :: _ :: _, h, _ => exact absurd h.len (by simp)
  | [_, _], [], h, _ => exact absurd h.len (by simp)
  | [_, _], [_], h, _ => exact absurd h.len (by simp)
  | [_, _], _ :: _ :: _ :: _, h, _ => exact absurd h.len (by simp)
  | _ :: _ :: _ :: _, _, _, h2 => simp at h2
end Go.Proofs.Ytopgapbipmblbaa
