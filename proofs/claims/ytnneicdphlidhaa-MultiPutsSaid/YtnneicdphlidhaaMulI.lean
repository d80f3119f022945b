/-
  A helper of ours: no claim of its own. Layer 24 (multi): change by the code.
-/
import Derived.Test.YtnneicdphlidhaaMulH
set_option linter.unusedVariables false
set_option linter.unusedSimpArgs false
namespace Go.Proofs.Ytnneicdphlidhaa
open Go.RowKit
attribute [local go_sem] GW.cell GW.frozen In.eq_true In.le_true In.ne In.ne' In.ne_add In.ne_add' In.lt_add Upto.le_true Upto.le_add Upto.lt_add
def chgT (k old now : Int) (p : Nat) (l : List Tg) : List Tg :=
  if 0 < old then (if 0 < now then (match l[p]? with | some x => l.set p (x.1, now) | none => l) else l.take p ++ l.drop (p + 1)) else if 0 < now then l.take p ++ (k, now) :: l.drop p else l
theorem tgs_set : ∀ (l : List Tg) (p : Nat) (x : Tg) (n : Int), l[p]? = some x → tgs (l.set p (x.1, n)) = (tgs l).set (p * 2 + 1) (.int .i64 n)
  | y :: r, 0, x, n, h => by simp at h; subst h; rfl
  | y :: r, p + 1, x, n, h => by
    rw [List.set_cons_succ, show tgs (y :: r.set p (x.1, n)) = [.int .i64 y.1, .int .i64 y.2] ++ tgs (r.set p (x.1, n)) from rfl, tgs_set r p x n (by simpa using h), show tgs (y :: r) = [.int .i64 y.1, .int .i64 y.2] ++ tgs r from rfl, show (p + 1) * 2 + 1 = (p * 2 + 1) + 2 by omega]
    rfl
theorem mown_far {w : World} {B e size n : Nat} {v : Value} {xs : List Value} {b : Nat} (h : w.ownsRow B e size v n xs) (o : Nat) (u : Value) (hne : v.ownBlock ≠ some b) : (w.setCell ⟨b, o, none⟩ u).ownsRow B e size v n xs :=
  h.kept (World.grownBy.mk (row := some b) rfl rfl rfl (by simp) fun i hi hn => Below.heap_setCell w ⟨b, o, none⟩ u i (fun e => hn (by rw [e]))) (.inr hne)
theorem Mu.put {w : World} {base b : Nat} {v v' : Value} {l' : List Tg} {c : Int} (h : Ob w b 65 [cmpF, v, .int .i64 c]) (hle : base ≤ b) (ho : w.ownsRow base 69 2 v' l'.length (tgs l')) : Mu (w.setCell ⟨b, 1, none⟩ v') base b v' l' c :=
  ⟨h.set 1 v', mown_far ho 1 v' (h.not_own ho (by decide)), hle⟩
set_option maxHeartbeats 8000000 in
set_option maxRecDepth 100000 in
theorem mchange_c (k : Int) (base b p : Nat) (v : Value) (l : List Tg) (c old now : Int) (w : World) (hm : Mu w base b v l c) (hn : l.length ≤ 1048576) (hp : p ≤ l.length) (hpo : 0 < old → p < l.length) (S : List Nat) (hb : b ∈ S) (hS : ∀ x, v.ownBlock = some x → x ∈ S) (hSw : ∀ x, x ∈ S → x < w.heap.size) :
    Calls Try.prog 33 #[.pointer (some ⟨b, 0, none⟩), .int .i64 p, .int .i64 k, .int .i64 old, .int .i64 now] w fun e w' => e = .returned (.tuple #[]) ∧ ∃ v', Mu w' base b v' (chgT k old now p l) c ∧ Fr S w w' ∧ ∀ x, v'.ownBlock = some x → x ∈ S ∨ w.heap.size ≤ x := by
  have m1 := hm.ob.cell 1 rfl
  have f1 := hm.ob.free 1
  have ml := hm.ob.lt
  haveI : In b w := ⟨ml⟩
  have hmh := hide hm
  have hSh := hide hS
  have hSwh := hide hSw
  have hbh := hide hb
  have hle := hm.le
  have hpI : (p : Int) ≤ l.length := by omega
  clear hS hSw hb
  by_cases ho : 0 < old
  · have hpl := hpo ho
    obtain ⟨x, hx⟩ : ∃ x, l[p]? = some x := ⟨_, List.getElem?_eq_getElem hpl⟩
    have hpI2 : (p : Int) < l.length := by omega
    by_cases hw : 0 < now
    · obtain ⟨g, cap, rfl, hgl, c0, c1⟩ := hm.at hx
      have hst := (World.ownsRow.stored hm.own (p * 2 + 1) (.int .i64 now)).1
      rw [← tgs_set l p x now hx] at hst
      have hfz := World.ownsRow.frozenAt hm.own (p * 2 + 1)
      have hl' : (l.set p (x.1, now)).length = l.length := List.length_set
      have hch : chgT k old now p l = l.set p (x.1, now) := by unfold chgT; rw [if_pos ho, if_pos hw, hx]
      have hgb : b ≠ g := fun e => hm.ob.not_own hm.own (by decide) (by rw [e]; rfl)
      have hM : Hid (Mu (w.setCell ⟨g, p * 2 + 1, none⟩ (.int .i64 now)) base b (.slice (some ⟨g, 0, none⟩) l.length cap) (chgT k old now p l) c) := by
        rw [hch]
        exact ⟨hm.ob.far _ _ hgb, by rw [hl']; exact hst, hm.le⟩
      have hF : Hid (Fr S w (w.setCell ⟨g, p * 2 + 1, none⟩ (.int .i64 now))) := (Fr.refl S w).setCell _ _ (.inl (hSh.out g rfl))
      haveI : In g w := ⟨hgl⟩
      clear hx hm hst hch hl'
      go_enter Try.func33, Try.ntmps33
      go_wp2_with fail
      go_returns
      exact ⟨rfl, _, hM.out, hF.out, fun x hx => .inl (hSh.out x hx)⟩
    · obtain ⟨g, cap, rfl, hgl, c0, c1⟩ := hm.at hx
      have hdel := hide (mdelete_c base g cap p l w hm.own hpl hn)
      have hch : Hid (chgT k old now p l = l.take p ++ l.drop (p + 1)) := by show _ = _; unfold chgT; rw [if_pos ho, if_neg hw]
      have hgb : b ≠ g := fun e => hm.ob.not_own hm.own (by decide) (by rw [e]; rfl)
      clear hx hm
      go_enter Try.func33, Try.ntmps33
      go_wp2_with (go_at_call 42; (refine hdel.out.mono ?_; rintro ee w3 ⟨rfl, hO3, hF3⟩; have hb3 := hmh.out.ob.fr hF3 (by simpa using hgb); have q1 := hb3.cell 1 rfl; have q2 := hb3.free 1; haveI : In b w3 := ⟨hb3.lt⟩; replace hO3 := hide hO3; replace hF3 := hide hF3; replace hb3 := hide hb3))
      go_returns
      refine ⟨rfl, .slice (some ⟨g, 0, none⟩) ((l.length - 1 : Nat)) cap, ?_, ?_, fun x hx => .inl (hSh.out x hx)⟩
      · rw [hch.out]
        refine Mu.put hb3.out hle ?_
        have := hO3.out
        rwa [show (l.take p ++ l.drop (p + 1)).length = l.length - 1 by rw [List.length_append, List.length_take, List.length_drop]; omega]
      · exact (hF3.out.more fun x _ hx => by simp at hx; rw [hx]; exact hSh.out g rfl).setCell _ _ (.inl hbh.out)
  · by_cases hw : 0 < now
    · have hB : Ob (w.alloc (.cells #[.int .i64 k, .int .i64 now] 69)) w.heap.size 69 [.int .i64 k, .int .i64 now] := Ob.new w _ [_, _]
      have hE : Ext w (w.alloc (.cells #[.int .i64 k, .int .i64 now] 69)) := (Ext.refl w).alloc _
      have hme := hm.ext hE
      have hbv : b ∉ v.ownBlock.toList := fun e => hm.ob.not_own hm.own (by decide) (by simpa using e)
      have hvl : ∀ x, v.ownBlock = some x → x ∈ v.ownBlock.toList := fun x e => by rw [e]; simp
      have hins := hide (minsert_c base w.heap.size p k now v l _ hme.own (by have := hE.size; have := hm.le; omega) hn hp hB v.ownBlock.toList hvl (fun hx => by have := hSwh.out _ (hSh.out _ (by simpa using hx)); omega))
      have hch : Hid (chgT k old now p l = l.take p ++ (k, now) :: l.drop p) := by show _ = _; unfold chgT; rw [if_neg ho, if_pos hw]
      have hlen : Hid ((l.take p ++ (k, now) :: l.drop p).length = l.length + 1) := by show _ = _; rw [List.length_append, List.length_take, List.length_cons, List.length_drop]; omega
      have hobE := hide hme.ob
      have hbvh := hide hbv
      have hEh := hide hE
      have hvS : Hid (∀ x, x ∈ v.ownBlock.toList → x ∈ S) := fun x hx => hSh.out x (by simpa using hx)
      clear hm hme hB hE hbv hvl
      go_enter Try.func33, Try.ntmps33
      go_wp2_with (go_at_call 43; (refine hins.out.mono ?_; rintro ee w3 ⟨v3, rfl, hO3, hF3, hv3⟩; obtain ⟨A3, n3, rfl⟩ := own_form hO3; have hb3 := hobE.out.fr hF3 hbvh.out; have q1 := hb3.cell 1 rfl; have q2 := hb3.free 1; haveI : In b w3 := ⟨hb3.lt⟩; replace hO3 := hide hO3; replace hF3 := hide hF3; replace hb3 := hide hb3; replace hv3 := hide hv3))
      all_goals
        go_returns
        refine ⟨rfl, .slice A3 (l.length + 1) n3, ?_, ?_, fun x hx => ?_⟩
        · rw [hch.out]
          exact Mu.put hb3.out hle (by rw [hlen.out]; exact hO3.out)
        · exact (((Fr.refl S w).alloc _).then (hF3.out.more (S' := S) fun x _ hx => hvS.out x hx) fun x hx => .inl hx).setCell _ _ (.inl hbh.out)
        · rcases hv3.out x hx with e | e
          · exact .inl (hvS.out x e)
          · exact .inr (Nat.le_trans (by have := hEh.out.size; omega) e)
    · have hch : chgT k old now p l = l := by unfold chgT; rw [if_neg ho, if_neg hw]
      rw [hch]
      clear hm
      go_enter Try.func33, Try.ntmps33
      go_wp2_with fail
      go_returns
      exact ⟨rfl, _, hmh.out, Fr.refl S w, fun x hx => .inl (hSh.out x hx)⟩
end Go.Proofs.Ytnneicdphlidhaa
