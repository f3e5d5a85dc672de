import PyProof.Rows.All
import Wide.All
import OpenK.AllK
import Wide.FinOn
import KE.KMinKey
import PyProof.TupleKey
import KE.OsGo
import OpenK.KInv2
import Open.Spec
import KE.OsArgs
import PySem.Challenge.RW_glasssheets_s07_tight
set_option Elab.async false
set_option linter.all false
set_option maxRecDepth 100000
set_option maxHeartbeats 4000000
namespace Tt
open PySem PyProof.Rows
/-- the order of rows of numbers: by the first pair that differs -/
def lx (le : Bool) : List Int → List Int → Bool
  | [], [] => le
  | [], _ :: _ => true
  | _ :: _, [] => false
  | a :: r, b :: t => if a = b then lx le r t else decide (a < b)
def ordOp (le : Bool) : CmpOp := if le = true then .LtE else .Lt
section
variable {prog : Program} {w : World} {A : Around} {E : Value → Shared → Prop} {s : Shared}
theorem tuple_lt_tree {x y : List Int} {a b : Addr} {P : PySem.Fin → Shared → Prop} (hx : IsTupleKey (intKind prog w) s.heap x a) (hy : IsTupleKey (intKind prog w) s.heap y b) (h : P (.done (.ret (.bool (lx false x y)))) s) :
    wpAny (model prog w) A (Builtin.«tuple.__lt__» ⟨[.ref a, .ref b], []⟩) P E s := by
  have tyB := hy.typeIs
  obtain ⟨oa, us, na, atA, _, dtA, itA⟩ := hx
  obtain ⟨ob, ws, nb, atB, _, dtB, itB⟩ := hy
  show wpAny _ _ (isInstance (.ref b) (.type "tuple") >>= _) _ _ s
  refine wpAny_bind (wpAny_isInstance tyB isSubtype_tuple_tuple ?_)
  simp only [Bool.not_true, Bool.false_eq_true, if_false]
  refine wpAny_bind (wpAny_tupleItemsOf atA dtA ?_)
  refine wpAny_bind (wpAny_tupleItemsOf atB dtB ?_)
  refine wpAny_bind ?_
  refine wpAny_forIn_list _
    (fun rs r s' => r.1 = none ∧ s' = s ∧ ∃ x' y' us' ws', rs = List.zip us' ws' ∧ ItemsAre (intKind prog w) x' us' ∧ ItemsAre (intKind prog w) y' ws' ∧ lx false x' y' = lx false x y ∧ (decide (us'.length < ws'.length)) = (decide (us.size < ws.size)))
    _ ?_ ?_ _ _ ⟨rfl, rfl, x, y, us.toList, ws.toList, rfl, itA, itB, rfl, by simp⟩
  · rintro ⟨u, v⟩ rs r s' ⟨rn, rfl, x', y', us', ws', zq, ix, iy, dq, lq⟩
    cases ix with
    | nil => simp at zq
    | @cons c1 ua xr usr m1 ixr =>
      cases iy with
      | nil => simp at zq
      | @cons c2 va yr wsr m2 iyr =>
        simp only [List.zip_cons_cons, List.cons.injEq, Prod.mk.injEq] at zq
        obtain ⟨⟨rfl, rfl⟩, rfl⟩ := zq
        refine wpAny_bind ((intKind prog w).eqBool (a := c1) (b := c2) m1 m2 ?_)
        by_cases ceq : c1 = c2
        · subst ceq
          rw [decide_eq_true rfl]
          simp only [Bool.not_true, Bool.false_eq_true, if_false]
          refine wpAny_pure ⟨rfl, rfl, xr, yr, usr, wsr, rfl, ixr, iyr, ?_, by simpa using lq⟩
          rw [← dq]
          simp [lx]
        · rw [decide_eq_false ceq]
          simp only [Bool.not_false, if_true]
          have fq : lx false x y = decide (c1 < c2) := by rw [← dq]; simp [lx, ceq]
          rw [fq] at h
          obtain ⟨t1, rfl⟩ : ∃ t, u = .int c1 t := Value.isInt_shape m1
          obtain ⟨t2, rfl⟩ : ∃ t, v = .int c2 t := Value.isInt_shape m2
          refine wpAny_bind (wpAny_rule ?_)
          refine wpAny_bind (richCompare_gives (op := .Lt) (typeIs_int s' _ t1) (typeIs_int s' _ t2) F.slot_int_lt F.entry_int_lt (F.args_int_lt_2 _ _) (gives_int_lt _ _ t1 t2) (fun x => nomatch x) ?_)
          exact wpAny_bind (wpAny_pure (wpAny_pure (wpAny_pure h)))
  · rintro ⟨ra, rb⟩ s' ⟨rn, rfl, x', y', us', ws', zq, ix, iy, dq, lq⟩
    simp only at rn
    subst rn
    refine wpAny_pure ?_
    have lastq : (decide (us.size < ws.size)) = lx false x y := by
      rw [← dq, ← lq]
      cases ix with
      | nil =>
        cases iy with
        | nil => simp [lx]
        | cons _ _ => simp [lx]
      | cons _ _ =>
        cases iy with
        | nil => simp [lx]
        | cons _ _ => simp at zq
    show P (.done (.ret (.bool (decide (us.size < ws.size))))) s'
    rw [lastq]; exact h
theorem tuple_le_tree {x y : List Int} {a b : Addr} {P : PySem.Fin → Shared → Prop} (hx : IsTupleKey (intKind prog w) s.heap x a) (hy : IsTupleKey (intKind prog w) s.heap y b) (h : P (.done (.ret (.bool (lx true x y)))) s) :
    wpAny (model prog w) A (Builtin.«tuple.__le__» ⟨[.ref a, .ref b], []⟩) P E s := by
  have tyB := hy.typeIs
  obtain ⟨oa, us, na, atA, _, dtA, itA⟩ := hx
  obtain ⟨ob, ws, nb, atB, _, dtB, itB⟩ := hy
  show wpAny _ _ (isInstance (.ref b) (.type "tuple") >>= _) _ _ s
  refine wpAny_bind (wpAny_isInstance tyB isSubtype_tuple_tuple ?_)
  simp only [Bool.not_true, Bool.false_eq_true, if_false]
  refine wpAny_bind (wpAny_tupleItemsOf atA dtA ?_)
  refine wpAny_bind (wpAny_tupleItemsOf atB dtB ?_)
  refine wpAny_bind ?_
  refine wpAny_forIn_list _
    (fun rs r s' => r.1 = none ∧ s' = s ∧ ∃ x' y' us' ws', rs = List.zip us' ws' ∧ ItemsAre (intKind prog w) x' us' ∧ ItemsAre (intKind prog w) y' ws' ∧ lx true x' y' = lx true x y ∧ (decide (us'.length ≤ ws'.length)) = (decide (us.size ≤ ws.size)))
    _ ?_ ?_ _ _ ⟨rfl, rfl, x, y, us.toList, ws.toList, rfl, itA, itB, rfl, by simp⟩
  · rintro ⟨u, v⟩ rs r s' ⟨rn, rfl, x', y', us', ws', zq, ix, iy, dq, lq⟩
    cases ix with
    | nil => simp at zq
    | @cons c1 ua xr usr m1 ixr =>
      cases iy with
      | nil => simp at zq
      | @cons c2 va yr wsr m2 iyr =>
        simp only [List.zip_cons_cons, List.cons.injEq, Prod.mk.injEq] at zq
        obtain ⟨⟨rfl, rfl⟩, rfl⟩ := zq
        refine wpAny_bind ((intKind prog w).eqBool (a := c1) (b := c2) m1 m2 ?_)
        by_cases ceq : c1 = c2
        · subst ceq
          rw [decide_eq_true rfl]
          simp only [Bool.not_true, Bool.false_eq_true, if_false]
          refine wpAny_pure ⟨rfl, rfl, xr, yr, usr, wsr, rfl, ixr, iyr, ?_, by simpa using lq⟩
          rw [← dq]
          simp [lx]
        · rw [decide_eq_false ceq]
          simp only [Bool.not_false, if_true]
          have fq : lx true x y = decide (c1 ≤ c2) := by
            rw [← dq]
            simp only [lx, if_neg ceq]
            exact decide_eq_decide.mpr ⟨fun q => by omega, fun q => by omega⟩
          rw [fq] at h
          obtain ⟨t1, rfl⟩ : ∃ t, u = .int c1 t := Value.isInt_shape m1
          obtain ⟨t2, rfl⟩ : ∃ t, v = .int c2 t := Value.isInt_shape m2
          refine wpAny_bind (wpAny_rule ?_)
          refine wpAny_bind (richCompare_gives (op := .LtE) (typeIs_int s' _ t1) (typeIs_int s' _ t2) F.slot_int_le F.entry_int_le (F.args_int_le_2 _ _) (gives_int_le _ _ t1 t2) (fun x => nomatch x) ?_)
          exact wpAny_bind (wpAny_pure (wpAny_pure (wpAny_pure h)))
  · rintro ⟨ra, rb⟩ s' ⟨rn, rfl, x', y', us', ws', zq, ix, iy, dq, lq⟩
    simp only at rn
    subst rn
    refine wpAny_pure ?_
    have lastq : (decide (us.size ≤ ws.size)) = lx true x y := by
      rw [← dq, ← lq]
      cases ix with
      | nil =>
        cases iy with
        | nil => simp [lx]
        | cons _ _ => simp [lx]
      | cons _ _ =>
        cases iy with
        | nil => simp [lx]
        | cons _ _ => simp at zq
    show P (.done (.ret (.bool (decide (us.size ≤ ws.size))))) s'
    rw [lastq]; exact h
theorem lt_tup {x y : List Int} {a b : Addr} {Q : Value → Shared → Prop} (hu : A.units < cLine) (hx : IsTupleKey (intKind prog w) s.heap x a) (hy : IsTupleKey (intKind prog w) s.heap y b) (h : Q (.bool (lx false x y)) s) :
    wpAny (model prog w) A (richCompare .Lt (.ref a) (.ref b)) Q E s :=
  wpAny_richCompare_same_room (op := .Lt) hx.typeIs hy.typeIs F.slot_tuple_lt
    (wpAny_call_entry F.slot_tuple_lt hx.typeIs F.entry_tuple_lt (tuple_lt_tree hx hy ⟨_, rfl, (fun e => nomatch e), h⟩) (F.args_tuple_lt_2 _ _)) hu
theorem le_tup {x y : List Int} {a b : Addr} {Q : Value → Shared → Prop} (hu : A.units < cLine) (hx : IsTupleKey (intKind prog w) s.heap x a) (hy : IsTupleKey (intKind prog w) s.heap y b) (h : Q (.bool (lx true x y)) s) :
    wpAny (model prog w) A (richCompare .LtE (.ref a) (.ref b)) Q E s :=
  wpAny_richCompare_same_room (op := .LtE) hx.typeIs hy.typeIs F.slot_tuple_le
    (wpAny_call_entry F.slot_tuple_le hx.typeIs F.entry_tuple_le (tuple_le_tree hx hy ⟨_, rfl, (fun e => nomatch e), h⟩) (F.args_tuple_le_2 _ _)) hu
end

theorem fold_eq {p q : Int → Prop} [DecidablePred p] [DecidablePred q] : ∀ (l acc : List Int), l.foldl (fun a k => if p k then a ++ [k] else if q k then a else a) acc = acc ++ l.filter (fun k => decide (p k))
  | [], acc => by simp
  | x :: l, acc => by
    rw [List.foldl_cons, fold_eq l]
    by_cases h : p x
    · simp [h]
    · simp [h]
/-! ### min(xs, key=.., default=..) with rows of numbers as keys -/
def bst (kf : Int → List Int) (o : Option Int) (n : Int) : Option Int :=
  match o with
  | none => some n
  | some b => if lx false (kf n) (kf b) = true then some n else some b
def bestOf (kf : Int → List Int) (ns : List Int) : Option Int := ns.foldl (bst kf) none
theorem bestOf_snoc (kf : Int → List Int) (ns : List Int) (n : Int) : bestOf kf (ns ++ [n]) = bst kf (bestOf kf ns) n := by
  unfold bestOf; rw [List.foldl_append]; rfl
/-- a list's iterator at its first item -/
abbrev itO (l : Addr) : Obj := { cls := Value.type "list_iterator", data := Data.fields #[Value.ref l, Value.int 0 0] }
/-- what a key's call leaves: a new tuple with the key's numbers -/
def KtEnd (prog : Program) (w : World) (h₀ : Heap) (L : Addr) (m : Str → Option Value) (need : List (Addr × Obj)) (ks : List Int) (s₁ : Shared) (v : Value) (s₂ : Shared) : Prop :=
  ∃ hb1 tk a o xs n, s₂ = { s₁ with heap := hb1, toks := tk } ∧ v = .ref a ∧ o.cls = .type "tuple" ∧ o.data = .seq xs n ∧ ItemsAre (intKind prog w) ks xs.toList ∧ Fr h₀ L hb1 m ∧ News h₀ L hb1 ((a, o) :: need)
section
variable {prog : Program} {w : World} {A : Around} {E : Value → Shared → Prop} {s : Shared} {h₀ : Heap} {L l q I S : Addr} {m : Str → Option Value} {news : List (Addr × Obj)} {vs : List Value} {ns : List Int} {R : Result → Shared → Prop} {Q : Value → Shared → Prop} {dv : Value}
theorem take_snoc {α : Type} {xs : List α} {j : Nat} {x : α} (h : xs[j]? = some x) : xs.take (j + 1) = xs.take j ++ [x] := by
  rw [List.take_add_one, h]; rfl
theorem kmt_loop (kf : Int → List Int) (hnd : A.handled = none) (hu : A.in1.units < cLine) (hi : IntsAre vs ns) (lst : ∀ h, Fr h₀ L h m → News h₀ L h news → h.IsList l vs.toArray) (neI : l ≠ I) (neSI : S ≠ I) (nnS : ∀ p ∈ news, p.1 ≠ S) (nnI : ∀ p ∈ news, p.1 ≠ I)
    (key1 : ∀ (n : Int) (t : Tok) (h : Heap) (tk : Nat) (ow : List (Addr × Obj)), n ∈ ns → Fr h₀ L h m → News h₀ L h (news ++ ow) →
      wpAny (model prog w) A.in1 (call (.ref q) [.int n t]) (KtEnd prog w h₀ L m (news ++ ow) (kf n) { s with heap := h, toks := tk }) (fun _ _ => False) { s with heap := h, toks := tk })
    (fin1 : ∀ M t hb1 tk1, bestOf kf ns = some M → Fr h₀ L hb1 m → News h₀ L hb1 news → R (.ok (.ret (.int M t))) { s with heap := hb1, toks := tk1 }) :
    ∀ (r j : Nat) (nb : Int) (h : Heap) (tk : Nat) (tb : Tok) (kb : Addr) (ob : Obj) (xb : Array Value) (nn : Nat) (c : Nat) (oH : Obj), vs.length - (j + 1) = r → j + 1 ≤ vs.length → Fr h₀ L h m →
      ob.cls = .type "tuple" → ob.data = .seq xb nn → ItemsAre (intKind prog w) (kf nb) xb.toList →
      News h₀ L h (news ++ [(S, seqObj "list" #[.int nb tb, .ref kb] c), (I, oH), (kb, ob)]) → h.IsListIter I l (j + 1) → bestOf kf (ns.take (j + 1)) = some nb →
      codeAny (model prog w) A (.builtin "min.loop" ⟨[.ref I, .ref q, .ref S], [(Str.ofString "default", dv)]⟩) R { s with heap := h, toks := tk } := by
  have nmL : (toString "min" ++ toString ".loop" : String) = "min.loop" := by decide
  have WK := Walks.list (prog := prog) (w := w) (A := A.in1) hnd I l neI vs.toArray
  have szV : vs.toArray.size = vs.length := List.size_toArray ..
  have hlen := hi.length
  intro r
  induction r with
  | zero =>
    intro j nb h tk tb kb ob xb nn c oH hr hj F oc1 od1 it1 N itr hbest
    have atEnd : j + 1 = vs.length := by omega
    have mS := N (S, seqObj "list" #[.int nb tb, .ref kb] c) (List.mem_append_right _ (.head _))
    have mI := N (I, oH) (List.mem_append_right _ (.tail _ (.head _)))
    have NB : News h₀ L h news := fun p hpm => N p (List.mem_append_left _ hpm)
    refine codeAny_builtin PySem.F.entry_min_loop ?_
    rw [Around.under_plainId PySem.F.plain_min_loop _]
    show wpAny _ A.in1 (seqItems? (.ref S) >>= _) _ _ _
    refine wpAny_bind (wpAny_seqItems mS.1 rfl ?_)
    show wpAny _ A.in1 (tryCatch (pyNext (.ref I)) _ >>= _) _ _ _
    refine wpAny_bind (wpAny_tryCatch (WK.done _ _ _ ⟨by rw [szV, ← atEnd]; exact itr, lst h F NB⟩ fun hb1 tk1 kp => ?_))
    have G1 := kmk_fr F kp mI.2.1 mI.2.2
    have NB1 := kmk_news NB kp nnI
    have gS' := kp S _ (by simpa using neSI) mS.1
    have sb := Heap.SameBut.update hb1 S (Obj.mapSeq fun _ => (#[] : Array Value))
    show wpAny _ A.in1 (updateSeq S (fun _ => #[]) >>= _) _ _ _
    refine wpAny_bind ?_
    refine wpAny_updateSeq gS' rfl (wpAny_bind (wpAny_letGo (wpAny_pure ?_)))
    refine fin1 nb tb _ _ ?_ (ksk_fr G1 sb mS.2.1 mS.2.2) (ksk_news NB1 sb nnS)
    rw [List.take_of_length_le (by omega)] at hbest
    exact hbest
  | succ r ih =>
    intro j nb h tk tb kb ob xb nn c oH hr hj F oc1 od1 it1 N itr hbest
    have lt1 : j + 1 < vs.length := by omega
    have mS := N (S, seqObj "list" #[.int nb tb, .ref kb] c) (List.mem_append_right _ (.head _))
    have mI := N (I, oH) (List.mem_append_right _ (.tail _ (.head _)))
    have mB := N (kb, ob) (List.mem_append_right _ (.tail _ (.tail _ (.head _))))
    have NB : News h₀ L h news := fun p hpm => N p (List.mem_append_left _ hpm)
    have hkI : kb ≠ I := fun e => by
      subst e
      obtain ⟨oi, e1, e2, _⟩ := id itr
      have e3 := mB.1
      rw [e1] at e3
      cases e3
      rw [oc1] at e2
      exact absurd e2 (by decide)
    refine codeAny_builtin PySem.F.entry_min_loop ?_
    rw [Around.under_plainId PySem.F.plain_min_loop _]
    show wpAny _ A.in1 (seqItems? (.ref S) >>= _) _ _ _
    refine wpAny_bind (wpAny_seqItems mS.1 rfl ?_)
    show wpAny _ A.in1 (tryCatch (pyNext (.ref I)) _ >>= _) _ _ _
    refine wpAny_bind (wpAny_tryCatch (WK.item (j + 1) _ _ _ (by rw [szV]; exact lt1) ⟨itr, lst h F NB⟩ fun v hb1 tk1 pP stn kp => ?_))
    have gv : vs[j + 1]? = some v := by simpa using pP
    obtain ⟨n, hn⟩ : ∃ n, ns[j + 1]? = some n := ⟨_, List.getElem?_eq_getElem (by omega)⟩
    obtain ⟨tn, ht⟩ := hi.get (j + 1) n hn
    rw [ht] at gv
    cases gv
    have hmem : n ∈ ns := List.mem_of_getElem? hn
    obtain ⟨oJ, gI', cI, dI⟩ := id stn.1
    have G1 := kmk_fr F kp mI.2.1 mI.2.2
    have NB1 : News h₀ L hb1 (news ++ [(S, seqObj "list" #[.int nb tb, .ref kb] c), (I, oJ), (kb, ob)]) := fun p hpm => by
      rcases List.mem_append.mp hpm with hpm | hpm
      · exact kmk_news NB kp nnI p hpm
      · rcases List.mem_cons.mp hpm with rfl | hpm
        · exact ⟨kp S _ (by simpa using neSI) mS.1, mS.2⟩
        · rcases List.mem_cons.mp hpm with rfl | hpm
          · exact ⟨gI', mI.2⟩
          · rw [List.mem_singleton.mp hpm]
            exact ⟨kp kb _ (by simpa using hkI) mB.1, mB.2⟩
    show wpAny _ A.in1 (tryCatch (holding [Value.int n tn] (call (.ref q) [Value.int n tn])) _ >>= _) _ _ _
    refine wpAny_bind (wpAny_tryCatch (wpAny_holding (wpAny_mono (key1 n tn hb1 tk1 _ hmem G1 NB1) (fun x s'' hend => ?_) fun _ _ hF => hF.elim)))
    obtain ⟨hb2, tkb, ka, oa, xa, na, rfl, rfl, oc2, od2, it2, F2, NC⟩ := hend
    have ND : News h₀ L hb2 (news ++ [(S, seqObj "list" #[.int nb tb, .ref kb] c), (I, oJ), (kb, ob)]) := fun p hpm => NC p (.tail _ hpm)
    have mA2 := NC (ka, oa) (.head _)
    have mS2 := ND (S, seqObj "list" #[.int nb tb, .ref kb] c) (List.mem_append_right _ (.head _))
    have mI2 := ND (I, oJ) (List.mem_append_right _ (.tail _ (.head _)))
    have mB2 := ND (kb, ob) (List.mem_append_right _ (.tail _ (.tail _ (.head _))))
    have itn : hb2.IsListIter I l (j + 1 + 1) := ⟨oJ, mI2.1, cI, dI⟩
    have hkA : IsTupleKey (intKind prog w) hb2 (kf n) ka := ⟨oa, xa, na, mA2.1, oc2, od2, it2⟩
    have hkB : IsTupleKey (intKind prog w) hb2 (kf nb) kb := ⟨ob, xb, nn, mB2.1, oc1, od1, it1⟩
    have hAS : ka ≠ S := fun e => by
      subst e
      have e1 := mA2.1
      rw [mS2.1] at e1
      cases e1
      exact absurd (show Value.type "list" = Value.type "tuple" from oc2) (by decide)
    have hbn : bestOf kf (ns.take (j + 1 + 1)) = bst kf (some nb) n := by rw [take_snoc hn, bestOf_snoc, hbest]
    show wpAny _ A.in1 (tryCatch (holding [Value.int n tn, .ref ka] (richCompare .Lt (.ref ka) (.ref kb) >>= _)) _ >>= _) _ _ _
    refine wpAny_bind (wpAny_tryCatch (wpAny_holding (wpAny_bind (lt_tup hu hkA hkB ?_))))
    refine wpAny_bind (wpAny_holding (wpAny_truthy_bool ?_))
    refine wpAny_bind (wpAny_letGo (wpAny_pure ?_))
    by_cases hb' : lx false (kf n) (kf nb) = true
    · have sb := Heap.SameBut.update hb2 S (Obj.mapSeq fun _ => #[Value.int n tn, .ref ka])
      obtain ⟨c2, hc2⟩ : ∃ c2, (hb2.update S (Obj.mapSeq fun _ => #[Value.int n tn, .ref ka])).get? S = some (seqObj "list" #[Value.int n tn, .ref ka] c2) := ⟨_, get?_update_seq mS2.1 fun _ => #[Value.int n tn, .ref ka]⟩
      simp only [hb', if_true]
      refine wpAny_bind ?_
      refine wpAny_updateSeq mS2.1 rfl (wpAny_bind (wpAny_letGo ?_))
      rw [nmL]
      refine wpAny_pure ⟨plainId_quiet PySem.F.plain_min_loop _, ih (j + 1) n _ _ tn ka oa xa na c2 oJ (by omega) lt1 (ksk_fr F2 sb mS2.2.1 mS2.2.2) oc2 od2 it2 (fun p hpm => ?_) ⟨oJ, (sb.2 I neSI.symm).trans mI2.1, cI, dI⟩ (by rw [hbn]; simp [bst, hb'])⟩
      rcases List.mem_append.mp hpm with hpm | hpm
      · exact ksk_news (fun p hpm => ND p (List.mem_append_left _ hpm)) sb nnS p hpm
      · rcases List.mem_cons.mp hpm with rfl | hpm
        · exact ⟨hc2, mS2.2⟩
        · rcases List.mem_cons.mp hpm with rfl | hpm
          · exact ⟨(sb.2 I neSI.symm).trans mI2.1, mI2.2⟩
          · rw [List.mem_singleton.mp hpm]
            exact ⟨(sb.2 ka hAS).trans mA2.1, mA2.2⟩
    · simp only [hb', Bool.false_eq_true, if_false]
      refine wpAny_bind (wpAny_letGo ?_)
      rw [nmL]
      exact wpAny_pure ⟨plainId_quiet PySem.F.plain_min_loop _, ih (j + 1) nb _ _ tb kb ob xb nn c oJ (by omega) lt1 F2 oc1 od1 it1 ND itn (by rw [hbn]; simp [bst, hb'])⟩
theorem kmt_key (a v u : Value) : argsOk "min" ⟨[a], [(Str.ofString "key", v), (Str.ofString "default", u)]⟩ := by unfold argsOk; kernel_rfl
theorem kmt_min (kf : Int → List Int) (hnd : A.handled = none) (hu : A.in1.units < cLine) (F : Fr h₀ L s.heap m) (N : News h₀ L s.heap news) (hi : IntsAre vs ns) (lst : ∀ h, Fr h₀ L h m → News h₀ L h news → h.IsList l vs.toArray)
    (key1 : ∀ (n : Int) (t : Tok) (h : Heap) (tk : Nat) (ow : List (Addr × Obj)), n ∈ ns → Fr h₀ L h m → News h₀ L h (news ++ ow) →
      wpAny (model prog w) A.in1 (call (.ref q) [.int n t]) (KtEnd prog w h₀ L m (news ++ ow) (kf n) { s with heap := h, toks := tk }) (fun _ _ => False) { s with heap := h, toks := tk })
    (hQ : ∀ M t hb1 tk1, bestOf kf ns = some M → Fr h₀ L hb1 m → News h₀ L hb1 news → Q (.int M t) { s with heap := hb1, toks := tk1 })
    (hD : ∀ hb1 tk1, ns = [] → Fr h₀ L hb1 m → News h₀ L hb1 news → Q dv { s with heap := hb1, toks := tk1 }) :
    wpAny (model prog w) A (call (.builtin "min") [.ref l] [(Str.ofString "key", .ref q), (Str.ofString "default", dv)]) Q E s := by
  have nmL : (toString "min" ++ toString ".loop" : String) = "min.loop" := by decide
  have ls0 := lst _ F N
  obtain ⟨ol, gol, _⟩ := id ls0
  have lt0 : l < s.heap.objs.size := Heap.lt_size gol
  have ltL : L < s.heap.objs.size := F.ns.lt
  have hlen := hi.length
  refine kmk_tree PySem.F.kind_min PySem.F.plain_min PySem.F.entry_min (kmt_key _ _ _) ?_
  show wpAny _ A.in1 (Builtin.Builtins.bindParams "min" ["key", "default"] 0 ⟨[], [(Str.ofString "key", .ref q), (Str.ofString "default", dv)]⟩ >>= _) _ _ s
  refine wpAny_bind (wpAny_of_eq (show Builtin.Builtins.bindParams "min" ["key", "default"] 0 ⟨[], [(Str.ofString "key", .ref q), (Str.ofString "default", dv)]⟩ = pure [some (.ref q), some dv] from rfl) ?_)
  refine wpAny_bind (wpAny_pure ?_)
  refine wpAny_bind (wpAny_pyIter_list ls0 ?_)
  refine wpAny_bind (wpAny_newList ?_ (Nat.zero_le _))
  rw [nmL]
  have szS : (s.heap.push (itO l)).objs.size = s.heap.objs.size + 1 := size_push' ..
  have neI : l ≠ s.heap.objs.size := Nat.ne_of_lt lt0
  have neSI : (s.heap.push (itO l)).objs.size ≠ s.heap.objs.size := by rw [szS]; exact Nat.ne_of_gt (Nat.lt_succ_self _)
  have nnI : ∀ p ∈ news, p.1 ≠ s.heap.objs.size := fun p hpm => Nat.ne_of_lt (Heap.lt_size (N p hpm).1)
  have nnS : ∀ p ∈ news, p.1 ≠ (s.heap.push (itO l)).objs.size := fun p hpm => by rw [szS]; exact Nat.ne_of_lt (Nat.lt_succ_of_lt (Heap.lt_size (N p hpm).1))
  refine wpAny_pure ⟨plainId_quiet PySem.F.plain_min_loop _, ?_⟩
  have fre : ∀ b, L < b → h₀.get? b = none := fun b hb => Heap.get?_none_of_le (Nat.le_trans F.above (Nat.le_of_lt hb))
  have FB : Fr h₀ L ((s.heap.push (itO l)).push (seqObj "list" #[] 0)) m := (F.push _).push _
  have NQ : News h₀ L ((s.heap.push (itO l)).push (seqObj "list" #[] 0)) news := N.grown fun b x e => Heap.get?_push_of_some _ (Heap.get?_push_of_some _ e)
  have giI : ((s.heap.push (itO l)).push (seqObj "list" #[] 0)).get? s.heap.objs.size = some (itO l) :=
    Heap.get?_push_of_some _ (Heap.get?_push_size _ rfl)
  have giS : ((s.heap.push (itO l)).push (seqObj "list" #[] 0)).get? (s.heap.push (itO l)).objs.size = some (seqObj "list" #[] 0) := Heap.get?_push_size _ rfl
  have nI0 : s.heap.objs.size ≠ L := Nat.ne_of_gt ltL
  have nS0 : (s.heap.push (itO l)).objs.size ≠ L := by rw [szS]; exact Nat.ne_of_gt (Nat.lt_succ_of_lt ltL)
  have zN : h₀.get? (s.heap.push (itO l)).objs.size = none := fre _ (by rw [szS]; exact Nat.lt_succ_of_lt ltL)
  have WK := Walks.list (prog := prog) (w := w) (A := A.in1) hnd s.heap.objs.size l neI vs.toArray
  have szV : vs.toArray.size = vs.length := List.size_toArray ..
  refine codeAny_builtin PySem.F.entry_min_loop ?_
  rw [Around.under_plainId PySem.F.plain_min_loop _]
  show wpAny _ A.in1 (seqItems? (.ref _) >>= _) _ _ _
  refine wpAny_bind (wpAny_seqItems giS rfl ?_)
  show wpAny _ A.in1 (tryCatch (pyNext (.ref s.heap.objs.size)) _ >>= _) _ _ _
  by_cases hne : vs.length = 0
  · refine wpAny_bind (wpAny_tryCatch (WK.done _ _ _ ⟨by rw [szV, hne]; exact ⟨_, giI, rfl, rfl⟩, lst _ FB NQ⟩ fun hb1 tk1 kp => ?_))
    have G1 := kmk_fr FB kp nI0 (fre _ ltL)
    have NB1 := kmk_news NQ kp nnI
    refine wpAny_bind (wpAny_rule (wpAny_pure ?_))
    exact hD _ _ (List.length_eq_zero_iff.mp (by omega)) G1 NB1
  refine wpAny_bind (wpAny_tryCatch (WK.item 0 _ _ _ (by rw [szV]; omega) ⟨⟨_, giI, rfl, rfl⟩, lst _ FB NQ⟩ fun v hb1 tk1 pP stn kp => ?_))
  have gv : vs[0]? = some v := by simpa using pP
  obtain ⟨n, hn⟩ : ∃ n, ns[0]? = some n := ⟨_, List.getElem?_eq_getElem (by omega)⟩
  obtain ⟨tn, ht⟩ := hi.get 0 n hn
  rw [ht] at gv
  cases gv
  have hmem : n ∈ ns := List.mem_of_getElem? hn
  obtain ⟨oJ, gI', cI, dI⟩ := id stn.1
  have G1 := kmk_fr FB kp nI0 (fre _ ltL)
  have NB1 : News h₀ L hb1 (news ++ [((s.heap.push (itO l)).objs.size, seqObj "list" #[] 0), (s.heap.objs.size, oJ)]) := fun p hpm => by
    rcases List.mem_append.mp hpm with hpm | hpm
    · exact kmk_news NQ kp nnI p hpm
    · rcases List.mem_cons.mp hpm with rfl | hpm
      · exact ⟨kp _ _ (by simpa using neSI) giS, nS0, zN⟩
      · rw [List.mem_singleton.mp hpm]
        exact ⟨gI', nI0, fre _ ltL⟩
  show wpAny _ A.in1 (tryCatch (holding [Value.int n tn] (call (.ref q) [Value.int n tn])) _ >>= _) _ _ _
  refine wpAny_bind (wpAny_tryCatch (wpAny_holding (wpAny_mono (key1 n tn hb1 tk1 _ hmem G1 NB1) (fun x s'' hend => ?_) fun _ _ hF => hF.elim)))
  obtain ⟨hb2, tkb, ka, oa, xa, na, rfl, rfl, oc2, od2, it2, F2, NC⟩ := hend
  have ND : News h₀ L hb2 (news ++ [((s.heap.push (itO l)).objs.size, seqObj "list" #[] 0), (s.heap.objs.size, oJ)]) := fun p hpm => NC p (.tail _ hpm)
  have mA2 := NC (ka, oa) (.head _)
  have mS2 := ND ((s.heap.push (itO l)).objs.size, seqObj "list" #[] 0) (List.mem_append_right _ (.head _))
  have mI2 := ND (s.heap.objs.size, oJ) (List.mem_append_right _ (.tail _ (.head _)))
  have hAS : ka ≠ (s.heap.push (itO l)).objs.size := fun e => by
    have e1 := mA2.1
    rw [e, mS2.1] at e1
    cases e1
    exact absurd (show Value.type "list" = Value.type "tuple" from oc2) (by decide)
  have sb := Heap.SameBut.update hb2 (s.heap.push (itO l)).objs.size (Obj.mapSeq fun _ => #[Value.int n tn, .ref ka])
  obtain ⟨c2, hc2⟩ : ∃ c2, (hb2.update (s.heap.push (itO l)).objs.size (Obj.mapSeq fun _ => #[Value.int n tn, .ref ka])).get? (s.heap.push (itO l)).objs.size = some (seqObj "list" #[Value.int n tn, .ref ka] c2) := ⟨_, get?_update_seq mS2.1 fun _ => #[Value.int n tn, .ref ka]⟩
  show wpAny _ A.in1 (updateSeq (s.heap.push (itO l)).objs.size (fun _ => #[Value.int n tn, .ref ka]) >>= _) _ _ _
  refine wpAny_bind ?_
  refine wpAny_updateSeq mS2.1 rfl ?_
  rw [nmL]
  refine wpAny_pure ⟨plainId_quiet PySem.F.plain_min_loop _, kmt_loop kf hnd hu hi lst neI neSI nnS nnI key1 hQ _ 0 n _ _ tn ka oa xa na c2 oJ rfl (by omega) (ksk_fr F2 sb mS2.2.1 mS2.2.2) oc2 od2 it2 (fun p hpm => ?_) ⟨oJ, (sb.2 _ neSI.symm).trans mI2.1, cI, dI⟩ ?_⟩
  · rcases List.mem_append.mp hpm with hpm | hpm
    · exact ksk_news (fun p hpm => ND p (List.mem_append_left _ hpm)) sb nnS p hpm
    · rcases List.mem_cons.mp hpm with rfl | hpm
      · exact ⟨hc2, mS2.2⟩
      · rcases List.mem_cons.mp hpm with rfl | hpm
        · exact ⟨(sb.2 _ neSI.symm).trans mI2.1, mI2.2⟩
        · rw [List.mem_singleton.mp hpm]
          exact ⟨(sb.2 ka hAS).trans mA2.1, mA2.2⟩
  · rw [take_snoc hn, bestOf_snoc]; rfl
theorem items3 {a b c : Int} {t u v : Tok} : ItemsAre (intKind prog w) [a, b, c] (#[Value.int a t, Value.int b u, Value.int c v] : Array Value).toList :=
  .cons (by show Value.isInt a (.int a t) = true; simp [Value.isInt]) (.cons (by show Value.isInt b (.int b u) = true; simp [Value.isInt]) (.cons (by show Value.isInt c (.int c v) = true; simp [Value.isInt]) .nil))
end
end Tt

set_option linter.all false
namespace Tt
open PySem PySem.W
theorem dec_cons {c : Codec} {cs : List Codec} {d : WData} {ds : List WData} (h : (Codec.decAll (c :: cs) (d :: ds)).isSome = true) :
    (Codec.decAll [c] [d]).isSome = true ∧ (Codec.decAll cs ds).isSome = true := by
  have e : Codec.decAll (c :: cs) (d :: ds) = Codec.both Prod.mk (c.dec d) (Codec.decAll cs ds) := rfl
  have e1 : Codec.decAll [c] [d] = Codec.both Prod.mk (c.dec d) (some ()) := rfl
  rw [e] at h
  rw [e1]
  cases h1 : c.dec d with
  | none =>
    rw [h1] at h
    cases h
  | some a =>
    cases h2 : Codec.decAll cs ds with
    | none =>
      rw [h1, h2] at h
      cases h
    | some r => exact ⟨rfl, rfl⟩
theorem dec_join {c : Codec} {cs : List Codec} {d : WData} {ds : List WData} {a : c.denote} {r : Codec.denoteAll cs} (h1 : Codec.decAll [c] [d] = some (a, ())) (h2 : Codec.decAll cs ds = some r) :
    Codec.decAll (c :: cs) (d :: ds) = some (a, r) := by
  have e : Codec.decAll (c :: cs) (d :: ds) = Codec.both Prod.mk (c.dec d) (Codec.decAll cs ds) := rfl
  have e1 : Codec.decAll [c] [d] = Codec.both Prod.mk (c.dec d) (some ()) := rfl
  rw [e1] at h1
  rw [e, h2]
  cases h3 : c.dec d with
  | none =>
    rw [h3] at h1
    cases h1
  | some b =>
    rw [h3] at h1
    cases h1
    rfl
theorem dec_int {lo hi k : Int} (h : (Codec.decAll [.int lo hi] [WData.int k]).isSome = true) : Codec.decAll [.int lo hi] [WData.int k] = some (k, ()) ∧ lo ≤ k ∧ k ≤ hi := by
  have e : Codec.decAll [.int lo hi] [WData.int k] = Codec.both Prod.mk (if Codec.inInt lo hi k = true then some k else none) (some ()) := rfl
  rw [e] at h ⊢
  cases h1 : Codec.inInt lo hi k with
  | false =>
    rw [h1] at h
    cases h
  | true =>
    unfold Codec.inInt at h1
    simp only [Bool.and_eq_true, decide_eq_true_eq] at h1
    exact ⟨rfl, h1.1, h1.2⟩
theorem same_list {l k : List Int} (h : l = k) : same (WData.list (ofPys (l.map PyData.int))) (WData.list (k.map WData.int)) = true := by
  subst h
  rw [ofPys_ints]
  exact same_self _
/-! ### the specification's tightest -/
theorem nats_map : ∀ {l : List Int}, (∀ x ∈ l, (0 : Int) ≤ x) → l.mapM SheetNeutral.nat = some (l.map Int.toNat)
  | [], _ => rfl
  | x :: l, h => by
    have hx : SheetNeutral.nat x = some x.toNat := by
      unfold SheetNeutral.nat; rw [if_neg (by have := h x (.head _); omega)]
    rw [List.mapM_cons, hx, nats_map (l := l) fun y hy => h y (.tail _ hy)]
    rfl
theorem tight_is {iw ih : Int} {ws hs : List Int} (h1 : 0 ≤ iw) (h2 : 0 ≤ ih) (h3 : ∀ x ∈ ws, (0 : Int) ≤ x) (h4 : ∀ x ∈ hs, (0 : Int) ≤ x) :
    PyYqglea.tight iw ih ws hs = if ws.length = hs.length ∧ ws.length ≤ 64 then [0, (GlaSheets.tightest (ws.map Int.toNat) (hs.map Int.toNat) iw.toNat ih.toNat : Int)] else [-1] := by
  have e1 : SheetNeutral.nat iw = some iw.toNat := by unfold SheetNeutral.nat; rw [if_neg (by omega)]
  have e2 : SheetNeutral.nat ih = some ih.toNat := by unfold SheetNeutral.nat; rw [if_neg (by omega)]
  have e : SheetNeutral.callOf [[7, iw, ih], ws, hs] = some (.tight (ws.map Int.toNat) (hs.map Int.toNat) iw.toNat ih.toNat) := by
    show (do some (GlaSheets.Call.tight (← ws.mapM SheetNeutral.nat) (← hs.mapM SheetNeutral.nat) (← SheetNeutral.nat iw) (← SheetNeutral.nat ih))) = _
    rw [nats_map h3, nats_map h4, e1, e2]
    rfl
  unfold PyYqglea.tight SheetNeutral.f
  rw [e]
  show SheetNeutral.told (GlaSheets.answer _) = _
  unfold GlaSheets.answer GlaSheets.asked
  simp only [List.length_map]
  by_cases h : ws.length = hs.length ∧ ws.length ≤ 64
  · rw [if_pos h, if_neg (by simp [h.1, h.1 ▸ h.2])]
    rfl
  · rw [if_neg h, if_pos]
    · rfl
    · by_cases q : ws.length = hs.length
      · have : ¬ hs.length ≤ 64 := fun z => h ⟨q, by omega⟩
        simp [q, this]
      · simp [q]
theorem getD_nat (l : List Int) (j : Nat) : (l.map Int.toNat).getD j 0 = (l.getD j 0).toNat := by
  rw [List.getD_eq_getElem?_getD, List.getD_eq_getElem?_getD, List.getElem?_map]
  cases l[j]? <;> rfl
theorem getD_nn {l : List Int} (h : ∀ x ∈ l, (0 : Int) ≤ x) (j : Nat) : 0 ≤ l.getD j 0 := by
  rw [List.getD_eq_getElem?_getD]
  cases e : l[j]? with
  | none => simp
  | some x => exact h x (List.mem_of_getElem? e)
/-- the specification's step -/
def stp (ws hs : List Nat) (N : Nat) (best j : Nat) : Nat := if best = N then j else if hs.getD j 0 < hs.getD best 0 ∨ (hs.getD j 0 = hs.getD best 0 ∧ ws.getD j 0 < ws.getD best 0) then j else best
def kfo (ws hs : List Int) (k : Int) : List Int := [hs.getD k.toNat 0, ws.getD k.toNat 0, k]
theorem lx3 {a b c d e f : Int} : lx false [a, b, c] [d, e, f] = true ↔ a < d ∨ (a = d ∧ (b < e ∨ (b = e ∧ c < f))) := by
  unfold lx
  split
  · rename_i h
    unfold lx
    split
    · rename_i h2
      unfold lx
      split
      · unfold lx
        simp only [Bool.false_eq_true, false_iff]
        omega
      · simp only [decide_eq_true_eq]; omega
    · simp only [decide_eq_true_eq]; omega
  · simp only [decide_eq_true_eq]; omega
theorem best_go {ws hs : List Int} {N : Nat} (h3 : ∀ x ∈ ws, (0 : Int) ≤ x) (h4 : ∀ x ∈ hs, (0 : Int) ≤ x) : ∀ (l : List Nat) (b : Nat), b < N → (∀ j ∈ l, b < j ∧ j < N) → l.Pairwise (· < ·) →
    (l.map fun (i : Nat) => (0 : Int) + i).foldl (bst (kfo ws hs)) (some (b : Int)) = some ((l.foldl (stp (ws.map Int.toNat) (hs.map Int.toNat) N) b : Nat) : Int)
  | [], b, _, _, _ => rfl
  | j :: l, b, hb, hl, hp => by
    have hj := hl j (.head _)
    rw [List.pairwise_cons] at hp
    have key : bst (kfo ws hs) (some (b : Int)) ((0 : Int) + (j : Nat)) = some ((stp (ws.map Int.toNat) (hs.map Int.toNat) N b j : Nat) : Int) := by
      unfold bst stp kfo
      rw [if_neg (show b ≠ N by omega), getD_nat, getD_nat, getD_nat, getD_nat, Int.zero_add, Int.toNat_natCast]
      show (if lx false [hs.getD j 0, ws.getD j 0, (j : Int)] [hs.getD (b : Int).toNat 0, ws.getD (b : Int).toNat 0, (b : Int)] = true then some (j : Int) else some (b : Int)) = _
      rw [Int.toNat_natCast]
      have a1 := getD_nn h4 j
      have a2 := getD_nn h4 b
      have a3 := getD_nn h3 j
      have a4 := getD_nn h3 b
      by_cases c : lx false [hs.getD j 0, ws.getD j 0, (j : Int)] [hs.getD b 0, ws.getD b 0, (b : Int)] = true
      · rw [if_pos c, if_pos]
        rw [lx3] at c
        rcases c with c | ⟨c1, c | ⟨_, c⟩⟩
        · exact .inl (by omega)
        · exact .inr ⟨by omega, by omega⟩
        · omega
      · rw [if_neg c, if_neg]
        rw [lx3] at c
        rintro (z | ⟨z, y⟩)
        · exact c (.inl (by omega))
        · exact c (.inr ⟨by omega, .inl (by omega)⟩)
    rw [List.map_cons, List.foldl_cons, key, List.foldl_cons]
    refine best_go h3 h4 l _ ?_ ?_ hp.2
    · unfold stp; split; · exact hj.2
      split; · exact hj.2
      · exact hb
    · intro i hi
      have := hp.1 i hi
      refine ⟨?_, (hl i (.tail _ hi)).2⟩
      unfold stp; split; · exact this
      split; · exact this
      · omega
theorem best_all {ws hs : List Int} {N : Nat} (h3 : ∀ x ∈ ws, (0 : Int) ≤ x) (h4 : ∀ x ∈ hs, (0 : Int) ≤ x) (l : List Nat) (hl : ∀ j ∈ l, j < N) (hp : l.Pairwise (· < ·)) :
    bestOf (kfo ws hs) (l.map fun (i : Nat) => (0 : Int) + i) = if l = [] then none else some ((l.foldl (stp (ws.map Int.toNat) (hs.map Int.toNat) N) N : Nat) : Int) := by
  cases l with
  | nil => rfl
  | cons j l =>
    rw [List.pairwise_cons] at hp
    rw [if_neg (by simp), List.foldl_cons]
    have e : stp (ws.map Int.toNat) (hs.map Int.toNat) N N j = j := by unfold stp; rw [if_pos rfl]
    rw [e, ← best_go h3 h4 l j (hl j (.head _)) (fun i hi => ⟨hp.1 i hi, hl i (.tail _ hi)⟩) hp.2]
    unfold bestOf
    rw [List.map_cons, List.foldl_cons]
    show List.foldl _ (some ((0 : Int) + j)) _ = _
    rw [Int.zero_add]
theorem keep_is {iw ih : Int} {ws hs : List Int} (h1 : 0 ≤ iw) (h2 : 0 ≤ ih) (h3 : ∀ x ∈ ws, (0 : Int) ≤ x) (h4 : ∀ x ∈ hs, (0 : Int) ≤ x) (n : Nat) :
    (PySem.W.rangeKs 0 n).filter (fun k => decide (iw ≤ ws.getD k.toNat 0 ∧ ih ≤ hs.getD k.toNat 0)) = ((List.range n).filter (GlaSheets.fits (ws.map Int.toNat) (hs.map Int.toNat) iw.toNat ih.toNat)).map fun (i : Nat) => (0 : Int) + i := by
  unfold PySem.W.rangeKs
  rw [List.filter_map]
  congr 1
  refine List.filter_congr fun j _ => ?_
  unfold GlaSheets.fits
  have a1 := getD_nn h4 j
  have a3 := getD_nn h3 j
  simp only [Function.comp, Int.zero_add, Int.toNat_natCast, getD_nat]
  rw [← Bool.decide_and]
  exact decide_eq_decide.mpr ⟨fun z => ⟨by omega, by omega⟩, fun z => ⟨by omega, by omega⟩⟩
theorem tight_some {iw ih M : Int} {ws hs : List Int} (h1 : 0 ≤ iw) (h2 : 0 ≤ ih) (h3 : ∀ x ∈ ws, (0 : Int) ≤ x) (h4 : ∀ x ∈ hs, (0 : Int) ≤ x) (hl : ws.length = hs.length) (h64 : ws.length ≤ 64)
    (hb : bestOf (kfo ws hs) ((PySem.W.rangeKs 0 ws.length).filter (fun k => decide (iw ≤ ws.getD k.toNat 0 ∧ ih ≤ hs.getD k.toNat 0))) = some M) : [0, M] = PyYqglea.tight iw ih ws hs := by
  rw [tight_is h1 h2 h3 h4, if_pos ⟨hl, h64⟩]
  rw [keep_is h1 h2 h3 h4, best_all (N := ws.length) h3 h4 _ (fun j hj => List.mem_range.mp (List.mem_filter.mp hj).1) (List.Pairwise.filter _ (List.pairwise_lt_range))] at hb
  split at hb
  · cases hb
  · injection hb with hb
    rw [← hb]
    unfold GlaSheets.tightest
    rw [List.length_map]
    rfl
theorem tight_none {iw ih : Int} {ws hs : List Int} (h1 : 0 ≤ iw) (h2 : 0 ≤ ih) (h3 : ∀ x ∈ ws, (0 : Int) ≤ x) (h4 : ∀ x ∈ hs, (0 : Int) ≤ x) (hl : ws.length = hs.length) (h64 : ws.length ≤ 64)
    (hb : (PySem.W.rangeKs 0 ws.length).filter (fun k => decide (iw ≤ ws.getD k.toNat 0 ∧ ih ≤ hs.getD k.toNat 0)) = []) : [0, (ws.length : Int)] = PyYqglea.tight iw ih ws hs := by
  rw [tight_is h1 h2 h3 h4, if_pos ⟨hl, h64⟩]
  rw [keep_is h1 h2 h3 h4, List.map_eq_nil_iff] at hb
  unfold GlaSheets.tightest
  rw [List.length_map, hb]
  rfl
theorem tight_bad {iw ih : Int} {ws hs : List Int} (h1 : 0 ≤ iw) (h2 : 0 ≤ ih) (h3 : ∀ x ∈ ws, (0 : Int) ≤ x) (h4 : ∀ x ∈ hs, (0 : Int) ≤ x) (hl : ¬ (ws.length = hs.length ∧ ws.length ≤ 64)) : [-1] = PyYqglea.tight iw ih ws hs := by
  rw [tight_is h1 h2 h3 h4, if_neg hl]
end Tt

open PySem PySem.W
set_option maxRecDepth 100000 in
set_option maxHeartbeats 8000000 in
theorem PySem.Challenge.cw_glasssheets_s07_tight_holds : PySem.Challenge.rw_glasssheets_s07_tight.Holds := by
  w_on
  k_headS
  case hw => exact ⟨[.int 0, .int 0, .list [], .list []], by decide +kernel, by decide +kernel⟩
  k_fillS
  intro w s₀ s₁ mg mb G Y fa o pm cd doc dV kV ho hd hcd hD hmg hg args vals as hpre hlay hrd hwl hlo
  have KX := kIn_of Y
  have X := (Ground.X G).1
  have V := (Ground.X G).2
  refine Ground.open G ?_
  intro T B D TE TW
  try (refine guard_noD D (by decide +kernel) ?_; clear D)
  kn_lay T hmg ho hd cd
  clear hmg
  wrow_argsS hpre hlay hrd hwl hlo
  rename_i iw q1 q2 ih q3 q4 ws q5 q6 q7 hs q8 q9 qa qb qc hcond qd tw qe th qf aw vw qg hLw raw qh r0w hIw qi qj ah vh qk hLh rah ql r0h hIh qm
  have lw : vw.length = ws.length := hIw.length
  have lh : vh.length = hs.length := hIh.length
  all_goals (
    first | refine callC_kw (enter_call ?_) | refine enter_call ?_
    w_top on
    kn_posts
    w_call any ho hd hcd hD T F
    clear hd
    kn_ghosts F T
    k_drop
    skip)

  (all_goals try k_fold)
  k_steps
  rotate_left 2
  with_unfolding_all refine' Tt.kmt_min (fun k => [hs.getD k.toNat 0, ws.getD k.toNat 0, k]) ?k0 ?ku ?k1 ?k2 ?k4 ?k3 (fun n' t' h' tk' own' hm' F' N' => ?kt) (fun M' t' h' tk' hb' F' N' => ?kq) (fun h' tk' hb' F' N' => ?kd)
  case k0 => with_unfolding_all rfl
  case k1 => k_asm
  case k2 => k_asm
  case k3 => (intro h' F' N'; kso_list)
  case k4 => l_ints
  case ku => k_units
  case kt =>
    rw [Tt.fold_eq, List.nil_append] at hm'
    have hm1 := mem_rangeKs (List.mem_filter.mp hm').1
    have hn0 : 0 ≤ n' := by omega
    have hn1 : n' < (ws.length : Int) := by omega
    clear hm' hm1
    k_steps
    rename_i kF kN Tc kX
    exact ⟨_, _, _, _, _, _, rfl, rfl, rfl, rfl, Tt.items3, kF, kN⟩
  case kq =>
    rw [Tt.fold_eq, List.nil_append] at hb'
    k_steps
    (all_goals (try (w_end; sp_is; wrow_close)))
    obtain ⟨d1, d2⟩ := Tt.dec_cons (os_pre_isSome hcond)
    obtain ⟨d2, d3⟩ := Tt.dec_cons d2
    obtain ⟨d3, d4⟩ := Tt.dec_cons d3
    obtain ⟨e1, lo1, hi1⟩ := Tt.dec_int d1
    obtain ⟨e2, lo2, hi2⟩ := Tt.dec_int d2
    obtain ⟨e3, least3, most3, items3⟩ := os_dec_ints d3
    obtain ⟨e4, least4, most4, items4⟩ := os_dec_ints d4
    refine os_post (Tt.dec_join e1 (Tt.dec_join e2 (Tt.dec_join e3 e4))) ?_
    refine Tt.same_list (l := [0, M']) ?_
    have lw2 : (vw.toArray.size : Int) = ws.length := by rw [List.size_toArray, lw]
    have lw3 : ((vw.length : Int) - 0).toNat = ws.length := by omega
    rw [lw3] at hb'
    show _ = PyYqglea.tight iw ih ws hs
    exact Tt.tight_some lo1 lo2 (fun x hx => (items3 x hx).1) (fun x hx => (items4 x hx).1) (by omega) (by omega) hb'
  case kd =>
    rw [Tt.fold_eq, List.nil_append] at hb'
    k_steps
    (all_goals (try (w_end; sp_is; wrow_close)))
    obtain ⟨d1, d2⟩ := Tt.dec_cons (os_pre_isSome hcond)
    obtain ⟨d2, d3⟩ := Tt.dec_cons d2
    obtain ⟨d3, d4⟩ := Tt.dec_cons d3
    obtain ⟨e1, lo1, hi1⟩ := Tt.dec_int d1
    obtain ⟨e2, lo2, hi2⟩ := Tt.dec_int d2
    obtain ⟨e3, least3, most3, items3⟩ := os_dec_ints d3
    obtain ⟨e4, least4, most4, items4⟩ := os_dec_ints d4
    refine os_post (Tt.dec_join e1 (Tt.dec_join e2 (Tt.dec_join e3 e4))) ?_
    refine Tt.same_list (l := [0, (vw.toArray.size : Int)]) ?_
    have lw2 : (vw.toArray.size : Int) = ws.length := by rw [List.size_toArray, lw]
    have lw3 : ((vw.length : Int) - 0).toNat = ws.length := by omega
    rw [lw3] at hb'
    rw [lw2]
    show _ = PyYqglea.tight iw ih ws hs
    exact Tt.tight_none lo1 lo2 (fun x hx => (items3 x hx).1) (fun x hx => (items4 x hx).1) (by omega) (by omega) hb'
  all_goals (
    (all_goals (try (w_end; sp_is; wrow_close)))
    obtain ⟨d1, d2⟩ := Tt.dec_cons (os_pre_isSome hcond)
    obtain ⟨d2, d3⟩ := Tt.dec_cons d2
    obtain ⟨d3, d4⟩ := Tt.dec_cons d3
    obtain ⟨e1, lo1, hi1⟩ := Tt.dec_int d1
    obtain ⟨e2, lo2, hi2⟩ := Tt.dec_int d2
    obtain ⟨e3, least3, most3, items3⟩ := os_dec_ints d3
    obtain ⟨e4, least4, most4, items4⟩ := os_dec_ints d4
    refine os_post (Tt.dec_join e1 (Tt.dec_join e2 (Tt.dec_join e3 e4))) ?_
    refine Tt.same_list (l := [-1]) ?_
    have lw2 : (vw.toArray.size : Int) = ws.length := by rw [List.size_toArray, lw]
    show _ = PyYqglea.tight iw ih ws hs
    exact Tt.tight_bad lo1 lo2 (fun x hx => (items3 x hx).1) (fun x hx => (items4 x hx).1) (by omega))
#print axioms PySem.Challenge.cw_glasssheets_s07_tight_holds

