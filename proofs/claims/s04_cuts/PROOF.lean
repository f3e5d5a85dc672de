import PyProof.Rows.All
import Wide.All
import OpenK.AllK
import Wide.FinOn
import PyProof.EqAt
import PyProof.EqKinds
import PyProof.TupleCall
import KE.BitLaws
import Open.SpecLaws
import KE.OsHead
import PySem.Challenge.RW_glasssheets_s04_cuts
import KE.OsGo
set_option Elab.async false
set_option linter.all false
set_option maxRecDepth 100000
set_option maxHeartbeats 4000000
abbrev Aa:=@List.getElem?_eq_getElem
abbrev Ab:=@List.length_map
abbrev Ac:=@Option.some.inj
abbrev Ad:=@if_neg
abbrev Ae:=@Nat.le_refl
abbrev Af:=@List.mem_cons_of_mem
abbrev Ag:=@if_pos
abbrev Ah:=@List.mem_cons_self
abbrev Ai:=@List.length_append
abbrev Aj:=@List.getD_eq_getElem?_getD
abbrev Ak:=@decide_eq_true
abbrev Al:=@of_decide_eq_true
abbrev Am:=@List.getElem?_map
abbrev An:=@Array.getD_eq_getD_getElem?
abbrev Ao:=@List.getElem?_append_right
abbrev Ap:=@decide_eq_true_eq
abbrev Aq:=@List.length_cons
abbrev Ar:=@Bool.and_eq_true
abbrev As:=@List.map_append
abbrev Au:=@List.length_range
abbrev Av:=@Nat.zero_le
abbrev Aw:=@List.getElem?_append_left
abbrev Ax:=@decide_eq_false
abbrev Ay:=@List.size_toArray
abbrev Az:=@Bool.false_ne_true
abbrev A1:=@Nat.le_of_ble_eq_true
abbrev A2:=@List.length_take
abbrev A3:=@List.map_cons
abbrev A4:=@List.mem_of_getElem?
abbrev A5:=@Bool.false_and
abbrev A6:=@Int.mul_nonneg
abbrev A7:=@Nat.lt_of_lt_of_le
abbrev A8:=@Int.mul_pos
abbrev A9:=@Int.mul_comm
abbrev AA:=@List.getElem?_eq_none
abbrev AB:=@Bool.not_eq_true
abbrev AD:=@Array.getElem?_setIfInBounds_ne
abbrev AE:=@Nat.not_lt_zero
abbrev AF:=@List.getElem?_take_of_lt
abbrev AG:=@Nat.ne_of_lt
abbrev AH:=@List.filter_cons_of_pos
abbrev AI:=@List.drop_eq_getElem_cons
abbrev AJ:=@List.Nodup.length_le_of_subset
abbrev AK:=@List.take_of_length_le
abbrev AL:=@List.mem_append_right
abbrev AM:=@Bool.eq_iff_iff
abbrev AN:=@List.getElem?_range
abbrev AO:=@Nat.sub_self
abbrev AQ:=@List.filter_cons_of_neg
abbrev AR:=@List.append_nil
abbrev AS:=@Nat.le_trans
abbrev AU:=@Bool.true_and
abbrev AV:=@List.any_eq_true
abbrev AW:=@Bool.or_eq_false_iff
abbrev AX:=@List.map_map
abbrev AY:=@List.mem_filter
abbrev AZ:=@List.mem_range
abbrev Ba:=@Array.size_setIfInBounds
abbrev Bb:=@List.getElem_mem
abbrev Bc:=@List.flatMap_append
abbrev Bd:=@Nat.lt_trichotomy
abbrev Be:=@Array.getElem?_setIfInBounds_self_of_lt
abbrev Bg:=@List.find?_eq_none
abbrev Bh:=@Nat.lt_irrefl
abbrev Bj:=@List.range_succ
abbrev Bk:=@List.foldl_cons
abbrev Bl:=@List.length_drop
abbrev Bm:=@List.take_length
abbrev Bo:=@Int.mul_le_mul_of_nonneg_left
abbrev Bp:=@List.getElem?_set_ne
abbrev Bq:=@Int.mul_add
abbrev Br:=@Nat.le_of_lt
abbrev Bs:=@List.getElem?_set_self
abbrev Bt:=@List.append_assoc
abbrev Bu:=@List.find?_cons
abbrev Bv:=@Int.mul_neg_of_neg_of_pos
abbrev Bw:=@Int.zero_mul
abbrev Bx:=@List.mem_append_left
abbrev By:=@Array.size_replicate
abbrev Bz:=@decide_eq_false_iff_not
abbrev B1:=@List.length_nil
abbrev B2:=@Nat.min_eq_left
abbrev B3:=@Array.length_toList
abbrev B4:=@Int.le_of_lt
abbrev B5:=@List.pairwise_lt_range
abbrev B6:=@Int.mul_zero
abbrev B7:=@Int.neg_mul
abbrev B8:=@List.lookup_cons
abbrev B9:=@Nat.zero_lt_succ
abbrev BA:=@Bool.false_eq_true
abbrev BB:=@Int.mul_nonpos_of_nonpos_of_nonneg
abbrev BC:=@Int.mul_nonpos_of_nonneg_of_nonpos
abbrev BD:=@decide_not
abbrev BE:=@Array.getElem?_eq_getElem
abbrev BF:=@List.length_set
abbrev BG:=@Nat.ne_of_gt
abbrev BH:=@List.pairwise_map
abbrev BI:=@List.range_eq_range'
abbrev BJ:=@Bool.or_true
abbrev BK:=@List.getElem?_replicate
abbrev BL:=@Nat.min_eq_right
abbrev BM:=@List.all_eq_true
abbrev BN:=@List.drop_zero
abbrev BO:=@Int.mul_sub
abbrev BP:=@Nat.sub_zero
abbrev BQ:=@List.mem_singleton
abbrev BR:=@List.range_succ_eq_map
abbrev BS:=@List.map_singleton
abbrev BU:=@Bool.or_eq_true
abbrev BV:=@List.any_eq_false
abbrev BW:=@Int.toNat_natCast
abbrev BX:=@Int.lt_trichotomy
abbrev BY:=@List.foldl_append
abbrev BZ:=@Bool.eq_false_iff
abbrev Ca:=@List.forIn_nil
abbrev Cb:=@List.perm_ext_iff_of_nodup
abbrev Cc:=@List.nodup_range
abbrev Cd:=@List.filterMap_cons
abbrev Ce:=@List.map_congr_left
abbrev Cf:=@List.Pairwise.imp_of_mem
abbrev Cg:=@Array.getElem?_replicate
abbrev Ci:=@List.map_take
abbrev Cj:=@List.of_mem_zip
abbrev Ck:=@List.forIn_cons
abbrev Cm:=@beq_iff_eq
abbrev Cn:=@Int.mul_nonneg_of_nonpos_of_nonpos
abbrev Co:=@List.zip_cons_cons
abbrev Cp:=@List.getElem_range
abbrev Cq:=@if_false
abbrev Cr:=@Bool.and_false
abbrev Cs:=@List.map_nil
abbrev Ct:=@Nat.le_of_succ_le
abbrev Cu:=@Nat.lt_succ_of_lt
abbrev Cv:=@List.mem_range'_1
abbrev Cw:=@List.flatMap_cons
abbrev Cy:=@Array.contains_iff_mem
abbrev Cz:=@List.drop_eq_nil_of_le
abbrev C0:=@List.length_replicate
abbrev C1:=@Bool.and_eq_false_iff
abbrev C2:=@List.contains_iff_mem
abbrev C3:=@List.cons_append
abbrev C4:=@List.getElem_map
abbrev C5:=@List.find?_eq_some_iff_getElem
abbrev C6:=@Bool.false_or
abbrev C7:=@List.map_drop
abbrev C8:=@Int.le_refl
abbrev C9:=@List.mem_of_mem_take
abbrev CA:=@List.getElem?_zipIdx
abbrev CB:=@Option.map_some
abbrev CC:=@Int.neg_mul_neg
abbrev CD:=@List.length_zip
abbrev CF:=@List.drop_succ_cons
abbrev CG:=@Bool.true_or
abbrev CH:=@Int.sub_zero
abbrev CI:=@Int.sub_self
abbrev CJ:=@Bool.not_and
abbrev CK:=@List.nodup_nil
abbrev CL:=@List.pairwise_cons
abbrev CM:=@Bool.not_eq_false'
abbrev CN:=@Nat.lt_or_eq_of_le
abbrev CO:=@List.filter_append
abbrev CP:=@of_decide_eq_false
abbrev CQ:=@Int.mul_neg_of_pos_of_neg
abbrev CS:=@Int.mul_pos_of_neg_of_neg
abbrev CT:=@List.mem_of_find?_eq_some
abbrev CU:=@if_true
abbrev CV:=@Option.isSome_map
abbrev CW:=@List.getElem_take
abbrev CY:=@List.ext_getElem?
abbrev CZ:=@List.reverse_cons
abbrev Dc:=@Bool.and_true
abbrev Dd:=@List.all_cons
abbrev Dg:=@Nat.lt_succ_self
abbrev Dh:=@Nat.le_add_right
abbrev Di:=@beq_self_eq_true
abbrev Dj:=@List.mem_flatMap
abbrev Dk:=@Nat.max_eq_right
abbrev Dq:=@List.pairwise_filterMap
abbrev Dr:=@List.zipIdx_cons
abbrev Ds:=@Option.getD_some
abbrev Dt:=@Nat.le_of_eq
abbrev Du:=@List.mem_map
abbrev Dv:=@Int.lt_trans
abbrev Dx:=@Option.map_eq_none_iff
abbrev Dy:=@List.nodup_cons
abbrev Dz:=@List.getElem?_toArray
abbrev D0:=@List.length_filter_le
abbrev D1:=@List.pairwise_flatMap
abbrev D2:=@List.take_append_drop
abbrev D3:=@List.mem_iff_getElem
abbrev D4:=@List.dropLast_concat
abbrev D5:=@List.contains_eq_mem
abbrev D6:=@List.length_reverse
abbrev D7:=@beq_eq_false_iff_ne
abbrev D8:=@List.mem_cons
abbrev D9:=@List.any_cons
abbrev DA:=@Bool.or_false
abbrev DB:=@Bool.not_true
abbrev DC:=@Nat.zero_add
abbrev DD:=@Nat.add_comm
abbrev DE:=@Int.zero_add
abbrev DF:=@Nat.min_self
abbrev DG:=PySem.W.Frag
abbrev DH:=PySem.Str→Option PySem.Value
section
namespace L2
open PySem PySem.Spec PyProof.Rows
abbrev Key:=Sum Int Str
def vO:Key→Value→Bool
 | .inl k,v=>Value.isInt k v
 | .inr x,v=>Value.isStrOf x v
def aiX(w:World):Key→Int
 | .inl k=>hashInt k
 | .inr x=>hashStr w x
theorem bN:∀{k:Key} {v:Value},vO k v=true→(∃i t,k=Sum.inl i∧v=Value.int i t)∨(∃x t,k=Sum.inr x∧v=Value.str x t)
 | .inl i,v,h=>by
  obtain⟨t,e⟩:=Value.isInt_shape (k:=i) (v:=v) h;exact .inl ⟨i,t,rfl,e⟩
 | .inr x,v,h=>by
  obtain⟨t,e⟩:=Value.isStrOf_shape (x:=x) (v:=v) h;exact .inr ⟨x,t,rfl,e⟩
theorem yV(i:Int)(t:Tok):vO (.inl i) (.int i t)=true:=by simp[vO,Value.isInt]
theorem xm(x:Str)(t:Tok):vO (.inr x) (.str x t)=true:=by simp[vO,Value.isStrOf]
theorem af6(a b:Int):decide ((Sum.inl a:Key)=Sum.inl b)=(a==b):=by
 by_cases e:a=b
 ·subst e;simp
 ·have h:¬(Sum.inl a:Key)=Sum.inl b:=fun q=>e (Sum.inl.inj q)
  rw[Ax h];exact(beq_eq_false_iff_ne.mpr e).symm
theorem afs(a b:Str):decide ((Sum.inr a:Key)=Sum.inr b)=decide (a=b):=by
 by_cases e:a=b
 ·subst e;simp
 ·have h:¬(Sum.inr a:Key)=Sum.inr b:=fun q=>e (Sum.inr.inj q)
  rw[Ax h,Ax e]
theorem aeT(a:Int)(b:Str):decide ((Sum.inl a:Key)=Sum.inr b)=false:=Ax (fun q=>nomatch q)
theorem agl(a:Str)(b:Int):decide ((Sum.inr a:Key)=Sum.inl b)=false:=Ax (fun q=>nomatch q)
def bR(prog:Program)(w:World):PySem.KeyKind prog w Key where
 is:=vO
 hash:=aiX w
 inj:=fun v a b ha hb=>by
  rcases bN ha with⟨i,t,rfl,rfl⟩|⟨x,t,rfl,rfl⟩
  ·rcases bN hb with⟨j,u,rfl,e⟩|⟨y,u,rfl,e⟩
   ·injection e with e1 _;rw[e1]
   ·exact nomatch e
  ·rcases bN hb with⟨j,u,rfl,e⟩|⟨y,u,rfl,e⟩
   ·exact nomatch e
   ·injection e with e1 _;rw[e1]
 byValue:=fun k v h=>by
  rcases bN h with⟨i,t,rfl,rfl⟩|⟨x,t,rfl,rfl⟩ <;> rfl
 pyHash:=fun hv h=>by
  rcases bN hv with⟨i,t,rfl,rfl⟩|⟨x,t,rfl,rfl⟩
  ·exact wpAny_pyHash_int h
  ·exact wpAny_pyHash_str h
 eqBool:=fun hu hv h=>by
  rcases bN hu with⟨i,t,rfl,rfl⟩|⟨x,t,rfl,rfl⟩
  ·rcases bN hv with⟨j,u,rfl,rfl⟩|⟨y,u,rfl,rfl⟩
   ·rw[af6] at h;exact wpAny_eqBool_int h
   ·rw[aeT] at h;exact SeqAt.EqAt.int_str i t y u _ _ _ _ h
  ·rcases bN hv with⟨j,u,rfl,rfl⟩|⟨y,u,rfl,rfl⟩
   ·rw[agl] at h;exact SeqAt.EqAt.str_int x t j u _ _ _ _ h
   ·rw[afs] at h;exact wpAny_eqBool_str h
 «strs» := fun k x t v h=>by
  rcases bN h with⟨i,u,rfl,e⟩|⟨y,u,rfl,e⟩
  ·exact nomatch e
  ·injection e with e1 _
   subst e1;cases v <;> rfl
theorem sr(prog:Program)(w:World)(i:Int)(t:Tok):(bR prog w).is (.inl i) (.int i t)=true:=yV i t
theorem tX(prog:Program)(w:World)(x:Str)(t:Tok):(bR prog w).is (.inr x) (.str x t)=true:=xm x t
inductive V where
 | non|bl (b:Bool)|int (i:Int)|str (x:Str)|byt (b:Array UInt8)|flt (b:UInt64)|ref (a:Addr)|ty (n:String)
 deriving DecidableEq
def RelV:V→Value→Prop
 | .non,u=>u=Value.none
 | .bl b,u=>u=Value.bool b
 | .int i,u=>∃t,u=Value.int i t
 | .str x,u=>∃t,u=Value.str x t
 | .byt b,u=>∃t,u=Value.bytes b t
 | .flt b,u=>∃t,u=Value.float b t
 | .ref a,u=>u=Value.ref a
 | .ty n,u=>u=Value.type n
abbrev Vals:List V→List Value→Prop:=Paired RelV
theorem Vals.length{xs:List V}{us:List Value}(r:Vals xs us):xs.length=us.length:=Paired.length r
theorem Vals.get:∀{xs:List V} {us:List Value} {i:Nat} {x:V},Vals xs us→xs[i]? = some x→∃u,us[i]? = some u∧RelV x u
 | _,_,_,_,.nil,e=>by simp at e
 | _,_,0,_,.cons r _,e=>by simp at e;subst e;exact⟨_,rfl,r⟩
 | _,_,i+1,x,.cons _ t,e=>by
  obtain⟨u,h1,h2⟩:=Vals.get (i:=i) (x:=x) t (by simpa using e);exact⟨u,by simpa using h1,h2⟩
theorem Vals.append:∀{xs ys:List V} {us ws:List Value},Vals xs us→Vals ys ws→Vals (xs++ys) (us++ws)
 | _,_,_,_,.nil,s=>s
 | _,_,_,_,.cons r t,s=>.cons r (Vals.append t s)
theorem Vals.take:∀{xs:List V} {us:List Value} (n:Nat),Vals xs us→Vals (xs.take n) (us.take n)
 | _,_,0,_=>.nil
 | _,_,_+1,.nil=>.nil
 | _,_,n+1,.cons r t=>.cons r (Vals.take n t)
theorem Vals.drop:∀{xs:List V} {us:List Value} (n:Nat),Vals xs us→Vals (xs.drop n) (us.drop n)
 | _,_,0,r=>r
 | _,_,_+1,.nil=>.nil
 | _,_,n+1,.cons _ t=>Vals.drop n t
def uA:Option V→Option Value→Prop
 | some v,some u=>RelV v u
 | none,none=>True
 | _,_=>False
def KV{κ:Type}:List (κ×V)→List (κ×Value)→Prop:=Paired fun(p:κ×V) (q:κ×Value)=>p.1=q.1∧RelV p.2 q.2
def kV:Key→V
 | .inl i=>.int i
 | .inr x=>.str x
inductive HO where
 | lst (xs:List V)
 | tup (xs:List V)
 | dK (kvs:List (Key×V))|dT (kvs:List (List Key×V))
 | set (S:Int→Bool) (n:Nat)
 | ins (C dx:Addr) (fs:List (Str×V))
 | own (x:Addr)
 | xd (fs:List (Str×V))
 | met (f x:Addr)
 | rng (lo hi:Int)
 | frz (o:Obj) (u:HO)
 | tbl (ps:Array Value)
 | ext (φ:Heap→Prop)
abbrev Hp:=Addr→Option HO
def upd(H:Hp)(a:Addr)(o:HO):Hp:=fun b=>if b=a then some o else H b
theorem ag{H:Hp}{a:Addr}{o:HO}:upd H a o a=some o:=by unfold upd;rw[Ag rfl]
theorem az{H:Hp}{a b:Addr}{o:HO}(h:b≠a):upd H a o b=H b:=by unfold upd;rw[Ad h]
theorem bQ{H:Hp}{a:Addr}{o u:HO}:upd (upd H a o) a u=upd H a u:=by
 funext b;unfold upd;split <;> rfl
theorem sV{H:Hp}{a b:Addr}{o u:HO}(h:H a=some o)(h':H b=some u)(d:o≠u):a≠b:=by
 intro e;subst e;rw[h] at h';exact d (Ac h')
theorem aN{H:Hp}{a b:Addr}{o:HO}(h:H a=some o)(h':H b=none):a≠b:=by
 intro e;subst e;rw[h] at h';cases h'
section
variable (P:Program)(w:World)
def cJ(H:Hp)(h:Heap)(a:Addr):HO→Prop
 | .lst xs=>xs.length≤sizeLine∧∃(its:List Value) (n:Nat),Vals xs its∧h.get? a=some { cls:=.type "list",data:=.seq its.toArray n }
 | .tup xs=>xs.length≤sizeLine∧∃its:List Value,Vals xs its∧IsTup h a its.toArray
 | .dK kvs=>kvs.length≤sizeLine∧(a==sysModules)=false∧∃vs,KV kvs vs∧h.DictOf (bR P w) a vs
 | .dT kvs=>kvs.length≤sizeLine∧(a==sysModules)=false∧∃xs:List (List Key×Addr×Value),
   Paired (fun(p:List Key×V) (q:List Key×Addr×Value)=>p.1=q.1∧H q.2.1=some (.tup (p.1.map kV))∧RelV p.2 q.2.2) kvs xs ∧
   ∃o es ep,h.get? a=some o∧o.ExactDict∧o.data=.dict es ep∧es.toList=xs.map (entryOfKey (tupleKind (bR P w)))∧(xs.map (·.1)).Nodup
 | .set S n=>h.SetOf (intKind P w) a S n
 | .ins C dx fs=>H dx=some (.own a)∧fs.length≤1000∧dx≠a∧h.get? a=some (PySem.W.instObj C dx) ∧
   ∃mA,h.Ns1 dx mA∧(∀f,uA (fs.lookup f) (mA f))∧PySem.Within mA (fs.map (·.1))
 | .own _=>∃o,h.get? a=some o
 | .xd fs=>∃mA,h.Ns1 a mA∧∀f,uA (fs.lookup f) (mA f)
 | .rng lo hi=>∃t u v,h.get? a=some { cls:=.type "range",data:=.fields #[.int lo t,.int hi u,.int 1 v] }
 | .frz o u=>h.get? a=some o∧cJ H h a u
 | .tbl ps=>h.get? a=some { cls:=.none,data:=.fields ps }
 | .met f x=>h.get? a=some (PySem.W.methodObj (.ref f) (.ref x))
 | .ext φ=>φ h∧(∃o,h.get? a=some o)∧∀h1 h2:Heap,φ h1→(∀o,h1.get? a=some o→h2.get? a=some o)→φ h2
def HOk(H:Hp)(h:Heap):Prop:=∀a o,H a=some o→cJ P w H h a o
end
section
variable {P:Program}{w:World}{H H':Hp}{h h':Heap}{a:Addr}{o:HO}
theorem cJ.lt(x:cJ P w H h a o):a<h.objs.size:=by
 cases o with
 | lst xs=>obtain⟨_,_,_,_,e⟩:=x;exact Heap.lt_size e
 | tup xs=>obtain⟨_,_,_,p⟩:=x;exact p.lt
 | dK kvs=>obtain⟨_,_,_,_,o,_,_,e,_⟩:=x;exact Heap.lt_size e
 | dT kvs=>obtain⟨_,_,_,_,o,_,_,e,_⟩:=x;exact Heap.lt_size e
 | set S n=>obtain⟨o,_,_,_,e,_⟩:=x;exact Heap.lt_size e
 | ins C dx fs=>obtain⟨_,_,_,e,_⟩:=x;exact Heap.lt_size e
 | own y=>obtain⟨_,e⟩:=x;exact Heap.lt_size e
 | xd fs=>obtain⟨_,⟨_,_,_,e,_⟩,_⟩:=x;exact Heap.lt_size e
 | rng lo hi=>obtain⟨_,_,_,e⟩:=x;exact Heap.lt_size e
 | frz ob u=>obtain⟨e,_⟩:=x;exact Heap.lt_size e
 | tbl ps=>exact Heap.lt_size (show h.get? a=some _ from x)
 | met f y=>exact Heap.lt_size (show h.get? a=some _ from x)
 | ext φ=>obtain⟨_,⟨_,e⟩,_⟩:=x;exact Heap.lt_size e
theorem Paired.ahc{α β:Type}{F G:α→β→Prop}:∀{l₁:List α} {l₂:List β},Paired F l₁ l₂→(∀a b,F a b→G a b)→Paired G l₁ l₂
 | _,_,.nil,_=>.nil
 | _,_,.cons r t,f=>.cons (f _ _ r) (Paired.ahc t f)
theorem cJ.ad7(x:cJ P w H h a o)(k:∀b u,(b=a∨H b=some (.own a))→h.get? b=some u→h'.get? b=some u)
  (ho:∀b,H b=some (.own a)→H' b=some (.own a)) (ht:∀b xs,H b=some (.tup xs)→H' b=some (.tup xs)):cJ P w H' h' a o:=by
 induction o with
 | lst xs=>obtain⟨z,its,n,r,e⟩:=x;exact⟨z,its,n,r,k _ _ (.inl rfl) e⟩
 | tup xs=>obtain⟨z,its,r,ob,e,c⟩:=x;exact⟨z,its,r,ob,k _ _ (.inl rfl) e,c⟩
 | dK kvs=>obtain⟨z,y,vs,r,ob,es,ep,e,c⟩:=x;exact⟨z,y,vs,r,ob,es,ep,k _ _ (.inl rfl) e,c⟩
 | dT kvs =>
  obtain⟨z,y,xs,r,ob,es,ep,e,c⟩:=x;exact⟨z,y,xs,Paired.ahc r fun p q z=>⟨z.1,ht _ _ z.2.1,z.2.2⟩,ob,es,ep,k _ _ (.inl rfl) e,c⟩
 | set S n=>obtain⟨ob,es,ep,t,e,c⟩:=x;exact⟨ob,es,ep,t,k _ _ (.inl rfl) e,c⟩
 | ins C dx fs =>
  obtain⟨d,z,ne,e,mA,⟨od,es,ep,e2,c⟩,r⟩:=x;exact⟨ho _ d,z,ne,k _ _ (.inl rfl) e,mA,⟨od,es,ep,k _ _ (.inr d) e2,c⟩,r⟩
 | own y=>obtain⟨ob,e⟩:=x;exact⟨ob,k _ _ (.inl rfl) e⟩
 | xd fs=>obtain⟨mA,⟨od,es,ep,e,c⟩,r⟩:=x;exact⟨mA,⟨od,es,ep,k _ _ (.inl rfl) e,c⟩,r⟩
 | rng lo hi=>obtain⟨t,u,v,e⟩:=x;exact⟨t,u,v,k _ _ (.inl rfl) e⟩
 | frz ob u ih=>obtain⟨e,q⟩:=x;exact⟨k _ _ (.inl rfl) e,ih q⟩
 | tbl ps =>
  have e:h.get? a=some { cls:=.none,data:=.fields ps }:=x;show h'.get? a=some { cls:=.none,data:=.fields ps };exact k a _ (.inl rfl) e
 | met f y =>
  have e:h.get? a=some (PySem.W.methodObj (.ref f) (.ref y)):=x;show h'.get? a=some (PySem.W.methodObj (.ref f) (.ref y));exact k a _ (.inl rfl) e
 | ext φ=>obtain⟨p,⟨o,e⟩,st⟩:=x;exact⟨st _ _ p fun o q=>k _ _ (.inl rfl) q,⟨o,k _ _ (.inl rfl) e⟩,st⟩
theorem HOk.lt(x:HOk P w H h)(e:H a=some o):a<h.objs.size:=(x a o e).lt
theorem HOk.fresh(x:HOk P w H h)(e:h.objs.size≤a):H a=none:=by
 cases q:H a with
 | none=>rfl
 | some u=>exact absurd (A7 (x.lt q) e) (Bh _)
theorem HOk.kept(x:HOk P w H h)(k:∀b u,h.get? b=some u→h'.get? b=some u):HOk P w H h':=fun a o e =>
 (x a o e).ad7 (fun b u _ q=>k b u q) (fun _ q=>q) fun _ _ q=>q
theorem HOk.laid(x:HOk P w H h)(k:∀b u,h.get? b=some u→h'.get? b=some u)(hp:h.objs.size≤a)(new:cJ P w (upd H a o) h' a o):HOk P w (upd H a o) h':=fun b u e=>by
 have hn:=x.fresh hp
 by_cases hb:b=a
 ·subst hb;rw[ag] at e;cases e;exact new
 ·rw[az hb] at e
  exact(x b u e).ad7 (fun c v _ q=>k c v q) (fun c q=>by rw[az (aN q hn)];exact q) fun c xs q=>by rw[az (aN q hn)];exact q
end
def Rd(H:Hp)(a:Addr)(u:HO):Prop:=H a=some u∨∃o,H a=some (.frz o u)
theorem Rd.ok{P:Program}{w:World}{H:Hp}{h:Heap}{a:Addr}{u:HO}(r:Rd H a u)(x:HOk P w H h):cJ P w H h a u:=by
 rcases r with r|⟨o,r⟩
 ·exact x a u r
 ·obtain⟨_,q⟩:=x a _ r
  exact q
def Mut:Option HO→Prop
 | some (.lst _)=>True
 | some (.dK _)=>True
 | some (.dT _)=>True
 | some (.set _ _)=>True
 | some (.ins _ _ _)=>True
 | some (.ext _)=>True
 | _=>False
section
variable {P:Program}{w:World}{H:Hp}{h h':Heap}{x e:Addr}{o':HO}
theorem HOk.write(ok:HOk P w H h)(mu:Mut (H x))(he:e=x∨H e=some (.own x))(k:∀b u,b≠e→h.get? b=some u→h'.get? b=some u)(heo:∃u,h'.get? e=some u)
  (new:cJ P w (upd H x o') h' x o'):HOk P w (upd H x o') h':=fun b u q=>by
 have nown:∀c y,H c=some (.own y)→c≠x:=fun c y r z=>by subst z;rw[r] at mu;exact mu
 have ntup:∀c xs,H c=some (.tup xs)→c≠x:=fun c xs r z=>by subst z;rw[r] at mu;exact mu
 by_cases hb:b=x
 ·subst hb;rw[ag] at q;cases q;exact new
 ·rw[az hb] at q
  by_cases hbe:b=e
  ·have q':H b=some (.own x):=by
    rcases he with z|z
    ·exact absurd (hbe.trans z) hb
    ·rw[hbe];exact z
   rw[q] at q';cases q';obtain⟨v,hv⟩:=heo;exact⟨v,by rw[hbe];exact hv⟩
  ·refine(ok b u q).ad7 (fun c v hc r=>k c v ?_ r) (fun c r=>by rw[az (nown c b r)];exact r) fun c xs r=>by rw[az (ntup c xs r)];exact r
   rcases hc with rfl|hc
   ·exact hbe
   ·rintro rfl
    rcases he with z|z
    ·exact nown c b hc z
    ·rw[hc] at z;cases z;exact hb rfl
end
structure Un(fs ex:List Addr)(H H':Hp)(h h':Heap):Prop where
 keep:∀b o,h.get? b=some o→H b=none→b ∉ fs→b ∉ ex→h'.get? b=some o
 slot:∀b o,h.get? b=some o→H b=none→b∈fs→b ∉ ex→∃sl,h'.get? b=some { o with slots:=sl }
 free:∀b o,h.get? b=some o→H b=none→b ∉ ex→H' b=none
 there:∀b o,h.get? b=some o→b ∉ ex→∃o',h'.get? b=some o'
 tups:∀b xs,H b=some (.tup xs)→H' b=some (.tup xs)
 frzs:∀b o u,H b=some (.frz o u)→H' b=some (.frz o u)
 tbls:∀b ps,H b=some (.tbl ps)→∃more,H' b=some (.tbl (ps++more))
section
variable {fs fs' ex ex':List Addr}{H H1 H2:Hp}{h h1 h2 h':Heap}{a x e:Addr}{o:HO}
theorem Un.any(u:Un fs ex H H1 h h1){b:Addr}{ob:Obj}(q:h.get? b=some ob)(n:H b=none)(hx:b ∉ ex):∃sl,h1.get? b=some { ob with slots:=sl }:=by
 by_cases hb:b∈fs
 ·exact u.slot b ob q n hb hx
 ·exact⟨ob.slots,u.keep b ob q n hb hx⟩
theorem Un.kept(k:∀b u,h.get? b=some u→h'.get? b=some u):Un fs ex H H h h' :=
 ⟨fun b ob q _ _ _=>k b ob q,fun b ob q _ _ _=>⟨ob.slots,k b ob q⟩,fun _ _ _ n _=>n,fun b ob q _=>⟨ob,k b ob q⟩,fun _ _ q=>q,fun _ _ _ q=>q,fun _ ps q=>⟨#[],by rw[q];simp⟩⟩
theorem Un.refl:Un fs ex H H h h:=Un.kept fun _ _ q=>q
theorem Un.laid(k:∀b u,h.get? b=some u→h'.get? b=some u)(hp:h.objs.size≤a)(hn:H a=none):Un fs ex H (upd H a o) h h' where
 keep:=fun b u q _ _ _=>k b u q
 slot:=fun b u q _ _ _=>⟨u.slots,k b u q⟩
 free:=fun b u q n _=>by rw[az (AG (A7 (Heap.lt_size q) hp))];exact n
 there:=fun b u q _=>⟨u,k b u q⟩
 tups:=fun b xs q=>by rw[az (aN q hn)];exact q
 frzs:=fun b u xs q=>by rw[az (aN q hn)];exact q
 tbls:=fun b ps q=>⟨#[],by rw[az (aN q hn),q];simp⟩
theorem Un.write(mu:Mut (H x))(he:e=x∨H e=some (.own x))(k:∀b u,b≠e→h.get? b=some u→h'.get? b=some u)(heo:∃u,h'.get? e=some u):Un fs ex H (upd H x o) h h':=by
 have hx:∀b,H b=none→b≠x:=fun b n z=>by subst z;rw[n] at mu;exact mu
 have hb:∀b,H b=none→b≠e:=fun b n z=>by
  subst z;rcases he with r|r
  ·exact hx b n r
  ·rw[n] at r;cases r
 have hm:∀b u,H b=some u→¬Mut (some u)→b≠x:=fun b u q nm z=>by subst z;rw[q] at mu;exact nm mu
 refine⟨fun b u q n _ _=>k b u (hb b n) q,fun b u q n _ _=>⟨u.slots,k b u (hb b n) q⟩,fun b u q n _=>by rw[az (hx b n)];exact n,fun b u q _ => ?_,
  fun b xs q=>by rw[az (hm b _ q fun z=>z)];exact q,fun b u xs q=>by rw[az (hm b _ q fun z=>z)];exact q,fun b ps q=>⟨#[],by rw[az (hm b _ q fun z=>z),q];simp⟩⟩
 by_cases hbe:b=e
 ·subst hbe;exact heo
 ·exact⟨u,k b u hbe q⟩
end
def trk(h:Heap)(H:Hp):List Addr:=(List.range h.objs.size).filter fun a=>(H a).isSome
def abG(h:Heap)(H:Hp):Heap:=PySem.W.hideAll h (trk h H)
theorem zU(h:Heap)(H:Hp):(abG h H).objs.size=h.objs.size:=PySem.W.hideAll_size _ _
theorem abq{h:Heap}{H:Hp}{b:Addr}{o:Obj}(e:h.get? b=some o)(n:H b=none):(abG h H).get? b=some o :=
 PySem.W.hideAll_get _ e fun hm=>by
  have q:(H b).isSome=true:=(List.mem_filter.mp hm).2;rw[n] at q;simp at q
theorem ad1{h:Heap}{H:Hp}{b:Addr}{o:Obj}(e:(abG h H).get? b=some o):h.get? b=some o∧H b=none:=by
 have e':h.get? b=some o:=PySem.W.of_hideAll (trk h H) e;refine⟨e',?_⟩;cases q:H b with
 | none=>rfl
 | some x =>
  have hm:b∈trk h H:=List.mem_filter.mpr ⟨List.mem_range.mpr (Heap.lt_size e'),by simp[q]⟩;have z:(abG h H).get? b=none:=PySem.W.hideAll_none (trk h H) hm;rw[z] at e;cases e
structure Mod(K:DG)(mg:DH)(base:Heap):Prop where
 kin:K.In base
 glob:base.Ns mainGlobals mg
 blt:∃mb,base.Ns builtinsNs mb∧∀x:Str,x ≠ "__name__" → mb x=bootBuiltins x
 nolimit:base.NoLimit
structure Cx where
 prog:Program
 w:World
 K:PySem.W.Frag
 mg:Str→Option Value
 base:Heap
 A:Around
 N:List Str
 s_0:Shared
 H_0:Hp
 env:Env
 outer:List Env
 stack:List Env
 ex:List Addr
 fn:Str→Bool
 calm:Bool
 pn:List (Addr×Obj)
 xe:Value→Shared→Prop
def frs(l:List Env):List Addr:=l.filterMap (·.frame)
abbrev Cx.fs(X:Cx):List Addr:=frs X.outer
def Vis(sc:Scope)(x:Str):Prop:=sc.names.lookup x=some .local∨sc.names.lookup x=some .cell∨sc.names.lookup x=some .free
def Loc(sc:Scope)(x:Str):Prop:=sc.names.lookup x=some .local∨sc.names.lookup x=some .cell
def Look(env:Env)(h:Heap)(m:Str→Option Value)(x:Str)(u:Value):Prop :=
 (env.kindOf x=some .local∧m x=some u)∨((env.kindOf x=some .cell∨env.kindOf x=some .free)∧∃c,env.cells.lookup x=some c∧h.IsCell c (some u))
structure Cx.Ok(X:Cx):Prop where
 mod:Mod X.K X.mg X.base
 kind:X.env.scope.kind=.function
 glob:X.env.globals=mainGlobals
 blt:X.env.builtins=builtinsNs
 above:X.s_0.heap.objs.size≤X.env.locals
 inj:∀x y c,X.env.cells.lookup x=some c→X.env.cells.lookup y=some c→x=y
 has:∀x,(X.env.kindOf x=some .cell∨X.env.kindOf x=some .free)→∃c,X.env.cells.lookup x=some c
 cab:∀x c,X.fn x=true→X.env.cells.lookup x=some c→X.s_0.heap.objs.size≤c
 hd:X.calm=true→X.A.handled=none
 frames:X.A.frames=some X.stack
 stk:X.stack=X.outer∨(X.stack=X.env::X.outer∧X.env.frame=some X.env.locals)
 exf:∀b∈X.ex,b≠X.env.locals∧∀x c,X.env.cells.lookup x=some c→c≠b
 bs:∀b o,X.base.get? b=some o→X.s_0.heap.get? b=some o∧X.H_0 b=none
 bsz:X.base.objs.size≤X.s_0.heap.objs.size
 noex:∀b o,X.base.get? b=some o→b ∉ X.ex
 exfs:∀b∈X.ex,b ∉ X.fs
 wG:X.s_0.heap.FunFrames X.base X.outer
 frf:∀b∈X.fs,X.H_0 b=none
structure Inv(X:Cx)(pins:List (Addr×Obj))(σ:List (Option V))(H:Hp)(s:Shared):Prop where
 ok:X.Ok
 os:s.os=X.s_0.os
 bare:AllBare s.gens
 base:Un X.fs X.ex X.H_0 H X.s_0.heap s.heap
 loc:∃m,s.heap.Ns X.env.locals m∧∀(i:Nat) (x:Str) (v:V),X.N[i]? = some x→σ[i]? = some (some v)→Vis X.env.scope x→∃u,RelV v u∧Look X.env s.heap m x u
 cell:∀x c,X.env.cells.lookup x=some c→∃v,s.heap.IsCell c v
 free:H X.env.locals=none
 freeC:∀x c,X.env.cells.lookup x=some c→H c=none
 pin:∀p∈X.pn++pins,s.heap.get? p.1=some p.2∧H p.1=none∧p.1≠X.env.locals∧p.1 ∉ X.fs∧∀v,p.2.data≠.cell v
 hok:HOk X.prog X.w H s.heap
 len:σ.length=X.N.length
section
variable {X:Cx}{pins:List (Addr×Obj)}{σ:List (Option V)}{H H':Hp}{s:Shared}{h':Heap}
theorem Cx.Ok.ajk(ok:X.Ok){b:Addr}{o:Obj}(e:X.base.get? b=some o):b ∉ X.fs:=fun hb=>by
 have:=(ok.wG.mem hb).1;rw[e] at this;cases this
theorem Inv.bs(I:Inv X pins σ H s):∀b o,X.base.get? b=some o→s.heap.get? b=some o∧H b=none:=fun b o e =>
 ⟨I.base.keep b o (I.ok.bs b o e).1 (I.ok.bs b o e).2 (I.ok.ajk e) (I.ok.noex b o e),I.base.free b o (I.ok.bs b o e).1 (I.ok.bs b o e).2 (I.ok.noex b o e)⟩
theorem Inv.bk(I:Inv X pins σ H s):∀b o,X.base.get? b=some o→s.heap.get? b=some o:=fun b o e=>(I.bs b o e).1
theorem Inv.mod(I:Inv X pins σ H s):Mod X.K X.mg X.base:=I.ok.mod
theorem Inv.kIn(I:Inv X pins σ H s):X.K.In s.heap:=I.ok.mod.kin.keeps I.bk
theorem Inv.lt(I:Inv X pins σ H s):X.env.locals<s.heap.objs.size:=let ⟨_,hn,_⟩:=I.loc;hn.lt
theorem Inv.sz(I:Inv X pins σ H s):X.s_0.heap.objs.size≤s.heap.objs.size:=AS I.ok.above (Br I.lt)
theorem Inv.ai8(I:Inv X pins σ H s){a:Addr}(h:s.heap.objs.size≤a):a ∉ X.fs:=fun hb=>by
 obtain⟨_,o,ho,_⟩:=I.ok.wG.mem hb;exact absurd (A7 (Heap.lt_size ho) (AS I.sz h)) (Bh _)
theorem Inv.cne(I:Inv X pins σ H s):∀x c,X.env.cells.lookup x=some c→c≠X.env.locals:=fun x c e z=>by
 obtain⟨v,o,ho,hd⟩:=I.cell x c e;obtain⟨m,⟨o',es,ep,ho',hd',_⟩,_⟩:=I.loc;rw[z,ho'] at ho;cases ho;rw[hd'] at hd;cases hd
theorem Inv.wG(I:Inv X pins σ H s):s.heap.FunFrames X.base X.outer:=by
 have all:∀(l:List Env),(∀b∈frs l,b∈X.fs)→X.s_0.heap.FunFrames X.base l→s.heap.FunFrames X.base l:=by
  intro l
  induction l with
  | nil=>intro _ _;trivial
  | cons env r ih =>
   intro hs hl;obtain⟨hk,⟨L,o,hf,hn,ho,hd⟩,hr⟩:=hl;have hL:L∈X.fs:=hs L (by unfold frs;rw[Cd,hf];exact Ah);obtain⟨sl,e⟩:=I.base.slot L o ho (I.ok.frf L hL) hL fun z=>I.ok.exfs L z hL;exact⟨hk,⟨L,_,hf,hn,e,hd⟩,ih (fun b hb=>hs b (by unfold frs;rw[Cd,hf];exact Af _ hb)) hr⟩
 exact all X.outer (fun _ hb=>hb) I.ok.wG
theorem Inv.stack(I:Inv X pins σ H s):s.heap.FunFrames X.base X.stack:=by
 rcases I.ok.stk with e|⟨e,hf⟩
 ·rw[e];exact I.wG
 ·rw[e]
  obtain⟨m,hn,_⟩:=I.loc;refine .cons (by rw[I.ok.kind];decide) hf hn ?_ I.wG;exact Heap.get?_none_of_le (AS I.ok.bsz I.ok.above)
theorem Inv.yl(I:Inv X pins σ H s):∀b∈frs X.stack,b∈X.env.locals::X.fs:=fun b hb=>by
 rcases I.ok.stk with e|⟨e,hf⟩
 ·rw[e] at hb;exact Af _ hb
 ·rw[e] at hb
  unfold frs at hb;rw[Cd,hf] at hb;exact hb
theorem Inv.zt(I:Inv X pins σ H s):∀b∈frs X.stack,H b=none:=fun b hb=>by
 rcases List.mem_cons.mp (I.yl b hb) with e|hb
 ·rw[e];exact I.free
 ·obtain⟨_,o,ho,_⟩:=I.ok.wG.mem hb
  exact I.base.free b o ho (I.ok.frf b hb) fun z=>I.ok.exfs b z hb
theorem Inv.step{g':Array GenState}{t':Nat}{d':Drawn}{ch:List Addr}(I:Inv X pins σ H s)
  (hch:∀b∈ch,(b∈X.ex∨X.s_0.heap.objs.size≤b)∧b≠X.env.locals∧(∀x c,X.env.cells.lookup x=some c→c≠b)∧∀p∈X.pn++pins,p.1≠b)
  (keep:∀b o,b≠X.env.locals→b ∉ X.fs→b ∉ ch→s.heap.get? b=some o→H b=none→h'.get? b=some o)
  (slot:∀b o,b≠X.env.locals→b∈X.fs→b ∉ ch→s.heap.get? b=some o→H b=none→∃sl,h'.get? b=some { o with slots:=sl }) (free:∀b o,b ∉ ch→s.heap.get? b=some o→H b=none→H' b=none)
  (there:∀b o,b ∉ ch→s.heap.get? b=some o→∃o',h'.get? b=some o')
  (tups:∀b xs,H b=some (.tup xs)→H' b=some (.tup xs)) (frzs:∀b o u,H b=some (.frz o u)→H' b=some (.frz o u)) (tbls:∀b ps,H b=some (.tbl ps)→∃more,H' b=some (.tbl (ps++more)))
  (ns:∀m,s.heap.Ns X.env.locals m→h'.Ns X.env.locals m) (hok:HOk X.prog X.w H' h') (hg:AllBare g') :
  Inv X pins σ H' { s with heap:=h',gens:=g',drawn:=d',toks:=t' }:=by
 have neL:∀b o,X.s_0.heap.get? b=some o→b≠X.env.locals:=fun b o e=>AG (A7 (Heap.lt_size e) I.ok.above);have neC:∀b o,X.s_0.heap.get? b=some o→b ∉ X.ex→b ∉ ch:=fun b o e hx hb=>by
  rcases(hch b hb).1 with z|z
  ·exact hx z
  ·exact absurd (A7 (Heap.lt_size e) z) (Bh _)
 have cellK:∀x c,X.env.cells.lookup x=some c→∀v,s.heap.IsCell c v→h'.IsCell c v:=fun x c e v ⟨o,ho,hd⟩=>by
  have nch:c ∉ ch:=fun z=>(hch c z).2.2.1 x c e rfl
  by_cases hc:c∈X.fs
  ·obtain⟨sl,q⟩:=slot c o (I.cne x c e) hc nch ho (I.freeC x c e)
   exact⟨_,q,hd⟩
  ·exact⟨o,keep c o (I.cne x c e) hc nch ho (I.freeC x c e),hd⟩
 refine⟨I.ok,I.os,hg,⟨fun b o e n hb hx => ?_,fun b o e n hb hx => ?_,fun b o e n hx => ?_,fun b o e hx => ?_,fun b xs e=>tups b xs (I.base.tups b xs e),fun b o xs e=>frzs b o xs (I.base.frzs b o xs e),fun b ps e => ?_⟩,?_,fun x c e => ?_,?_,fun x c e => ?_,fun p hp => ?_,hok,I.len⟩
 ·exact keep b o (neL b o e) hb (neC b o e hx) (I.base.keep b o e n hb hx) (I.base.free b o e n hx)
 ·obtain⟨sl,e1⟩:=I.base.slot b o e n hb hx
  obtain⟨sl',e2⟩:=slot b _ (neL b o e) hb (neC b o e hx) e1 (I.base.free b o e n hx);exact⟨sl',e2⟩
 ·obtain⟨o',e1⟩:=I.base.there b o e hx
  exact free b o' (neC b o e hx) e1 (I.base.free b o e n hx)
 ·obtain⟨o',e1⟩:=I.base.there b o e hx
  exact there b o' (neC b o e hx) e1
 ·obtain⟨m1,e1⟩:=I.base.tbls b ps e
  obtain⟨m2,e2⟩:=tbls b _ e1;exact⟨m1++m2,by rw[e2,Array.append_assoc]⟩
 ·obtain⟨m,hn,hl⟩:=I.loc
  refine⟨m,ns m hn,fun i x v e1 e2 e3 => ?_⟩;obtain⟨u,r,l⟩:=hl i x v e1 e2 e3;refine⟨u,r,?_⟩;rcases l with l|⟨k,c,e,z⟩
  ·exact .inl l
  ·exact .inr ⟨k,c,e,cellK x c e _ z⟩
 ·obtain⟨v,z⟩:=I.cell x c e
  exact⟨v,cellK x c e v z⟩
 ·obtain⟨m,⟨o,_,_,ho,_⟩,_⟩:=I.loc
  exact free _ o (fun z=>(hch _ z).2.1 rfl) ho I.free
 ·obtain⟨v,o,ho,hd⟩:=I.cell x c e
  exact free c o (fun z=>(hch c z).2.2.1 x c e rfl) ho (I.freeC x c e)
 ·obtain⟨e,n,ne,nf,d⟩:=I.pin p hp
  have nch:p.1 ∉ ch:=fun z=>(hch p.1 z).2.2.2 p hp rfl;exact⟨keep p.1 p.2 ne nf nch e n,free p.1 p.2 nch e n,ne,nf,d⟩
theorem Inv.un{t':Nat}(I:Inv X pins σ H s)(u:Un X.fs [] H H' s.heap h')(hok:HOk X.prog X.w H' h'):Inv X pins σ H' { s with heap:=h',toks:=t' }:=by
 obtain⟨m,⟨o,es,ep,ho,r⟩,_⟩:=id I.loc;obtain⟨sl,hL⟩:=u.any ho I.free (by simp);exact I.step (g':=s.gens) (d':=s.drawn) (ch := []) (fun _ z=>nomatch z) (fun b o _ hb _ e n=>u.keep b o e n hb (by simp)) (fun b o _ hb _ e n=>u.slot b o e n hb (by simp)) (fun b o _ e n=>u.free b o e n (by simp)) (fun b o _ e=>u.there b o e (by simp)) u.tups u.frzs u.tbls (fun m' hm=>by
  obtain⟨o',es',ep',ho',r'⟩:=hm;rw[ho] at ho';cases ho';exact⟨_,es',ep',hL,r'⟩) hok I.bare
theorem Inv.call{g':Array GenState}{t':Nat}{d':Drawn}{ch:List Addr}(I:Inv X pins σ H s)(u:Un (frs X.stack) ch H H' s.heap h')(hok:HOk X.prog X.w H' h')(hg:AllBare g')
  (hch:∀b∈ch,(b∈X.ex∨X.s_0.heap.objs.size≤b)∧b≠X.env.locals∧(∀x c,X.env.cells.lookup x=some c→c≠b)∧∀p∈X.pn++pins,p.1≠b) :
  Inv X pins σ H' { s with heap:=h',gens:=g',drawn:=d',toks:=t' }:=by
 obtain⟨m,⟨o,es,ep,ho,r⟩,_⟩:=id I.loc;obtain⟨sl,hL⟩:=u.any ho I.free fun z=>(hch _ z).2.1 rfl;exact I.step (ch:=ch) hch (fun b o hL hb hc e n=>u.keep b o e n (fun z=>(List.mem_cons.mp (I.yl b z)).elim hL hb) hc) (fun b o _ _ hc e n=>u.any e n hc) (fun b o hc e n=>u.free b o e n hc) (fun b o hc e=>u.there b o e hc) u.tups u.frzs u.tbls (fun m' hm=>by
  obtain⟨o',es',ep',ho',r'⟩:=hm;rw[ho] at ho';cases ho';exact⟨_,es',ep',hL,r'⟩) hok hg
theorem Inv.turned{t':Nat}{it:Addr}(I:Inv X pins σ H s)(k:∀b o,b≠it→s.heap.get? b=some o→h'.get? b=some o)(hn:H it=none)(hL:it≠X.env.locals)
  (h1:it∈X.ex∨X.s_0.heap.objs.size≤it) (h2:∀x c,X.env.cells.lookup x=some c→c≠it) (h3:∀p∈X.pn++pins,p.1≠it):Inv X pins σ H { s with heap:=h',toks:=t' }:=by
 have nit:∀b u,H b=some u→b≠it:=fun b u e z=>by rw[z,hn] at e;cases e
 refine I.step (g':=s.gens) (d':=s.drawn) (ch := [it]) (fun b hb => ?_) (fun b o _ _ hc e _=>k b o (fun z=>hc (by simp[z])) e) (fun b o _ _ hc e _=>⟨o.slots,k b o (fun z=>hc (by simp[z])) e⟩) (fun _ _ _ _ n=>n)
  (fun b o hc e=>⟨o,k b o (fun z=>hc (by simp[z])) e⟩) (fun _ _ e=>e) (fun _ _ _ e=>e) (fun b ps e=>⟨#[],by rw[e];simp⟩) (fun m hm => ?_) (fun b u e => ?_) I.bare
 ·have e:b=it:=by simpa using hb
  subst e;exact⟨h1,hL,h2,h3⟩
 ·obtain⟨o,es,ep,ho,r⟩:=hm
  exact⟨o,es,ep,k _ o (Ne.symm hL) ho,r⟩
 ·refine(I.hok b u e).ad7 (fun c v hc q=>k c v ?_ q) (fun _ q=>q) fun _ _ q=>q
  rcases hc with z|z
  ·rw[z];exact nit b u e
  ·exact nit c _ z
theorem Inv.tok(I:Inv X pins σ H s)(t:Nat):Inv X pins σ H { s with toks:=t }:=I.un (h':=s.heap) (t':=t) Un.refl I.hok
theorem Inv.kept{t':Nat}(I:Inv X pins σ H s)(k:∀b u,s.heap.get? b=some u→h'.get? b=some u):Inv X pins σ H { s with heap:=h',toks:=t' }:=I.un (Un.kept k) (I.hok.kept k)
theorem Inv.laid{a:Addr}{o:HO}{t':Nat}(I:Inv X pins σ H s)(k:∀b u,s.heap.get? b=some u→h'.get? b=some u)(hp:s.heap.objs.size≤a)(new:cJ X.prog X.w (upd H a o) h' a o) :
  Inv X pins σ (upd H a o) { s with heap:=h',toks:=t' }:=I.un (Un.laid k hp (I.hok.fresh hp)) (I.hok.laid k hp new)
theorem Inv.write{x e:Addr}{o:HO}{t':Nat}(I:Inv X pins σ H s)(mu:Mut (H x))(he:e=x∨H e=some (.own x))(k:∀b u,b≠e→s.heap.get? b=some u→h'.get? b=some u)(heo:∃u,h'.get? e=some u)
  (new:cJ X.prog X.w (upd H x o) h' x o):Inv X pins σ (upd H x o) { s with heap:=h',toks:=t' }:=I.un (Un.write mu he k heo) (I.hok.write mu he k heo new)
theorem Inv.weak{σ':List (Option V)}(I:Inv X pins σ H s)(hl:σ'.length=σ.length)(w:∀(i:Nat) v,σ'[i]? = some (some v)→σ[i]? = some (some v)):Inv X pins σ' H s :=
 ⟨I.ok,I.os,I.bare,I.base,let ⟨m,hn,hl'⟩:=I.loc;⟨m,hn,fun i x v e1 e2 e3=>hl' i x v e1 (w i v e2) e3⟩,I.cell,I.free,I.freeC,I.pin,I.hok,hl.trans I.len⟩
theorem Inv.zH{pins':List (Addr×Obj)}(I:Inv X pins σ H s)(h:∀p∈pins',s.heap.get? p.1=some p.2∧H p.1=none∧p.1≠X.env.locals∧p.1 ∉ X.fs∧∀v,p.2.data≠.cell v):Inv X pins' σ H s :=
 ⟨I.ok,I.os,I.bare,I.base,I.loc,I.cell,I.free,I.freeC,fun p hp=>(List.mem_append.mp hp).elim (fun z=>I.pin p (Bx _ z)) (h p),I.hok,I.len⟩
theorem oZ{N:List Str}(hN:N.Nodup){i j:Nat}{x:Str}(a:N[i]? = some x)(b:N[j]? = some x):i=j:=by
 obtain⟨h1,e1⟩:=List.getElem?_eq_some_iff.mp a;obtain⟨h2,e2⟩:=List.getElem?_eq_some_iff.mp b;exact(List.getElem_inj hN).mp (e1.trans e2.symm)
theorem rh{M:Model}{A:Around}{E:Value→Shared→Prop}{i:Nat}{x:Str}{v:V}{u:Value}{Q:Unit→Shared→Prop}(I:Inv X pins σ H s)(hN:X.N.Nodup)(hi:X.N[i]? = some x)(hx:Loc X.env.scope x)(r:RelV v u)
  (h:∀s',Inv X pins (σ.set i (some v)) H s'→(∃a,Heap.SameBut a s.heap s'.heap∧(a=X.env.locals∨X.env.cells.lookup x=some a))→Q () s') (hf:X.fn x=true∨X.env.scope.names.lookup x=some .local:=by first|exact .inl rfl|exact .inr rfl|assumption):wpAny M A (storeName X.env x u) Q E s:=by
 obtain⟨m,hn,hl⟩:=id I.loc;have hcls:(X.env.scope.kind==.class||(X.env.scope.kind==.module&&X.env.locals != X.env.globals))=false:=by rw[I.ok.kind];rfl
 have hiσ:i<σ.length:=by rw[I.len];exact(List.getElem?_eq_some_iff.mp hi).1
 have cne:=I.cne;have tracked:∀{a:Addr} {h':Heap},(∃o,s.heap.get? a=some o∧H a=none)→Heap.SameBut a s.heap h'→HOk X.prog X.w H h':=fun{a h'} ha hs b ob e=>by
  obtain⟨_,_,hfree⟩:=ha;refine(I.hok b ob e).ad7 (fun c w' hc q=>(hs.2 c ?_).trans q) (fun _ q=>q) fun _ _ q=>q;rintro rfl;rcases hc with rfl|hc
  ·rw[hfree] at e;cases e
  ·rw[hfree] at hc;cases hc
 rcases hx with hk|hk
 ·refine wpAny_storeName_local hk hn (fun h' hn' hs => ?_) hcls
  obtain⟨oL,_,_,hoL,_⟩:=id hn;refine h _ ⟨I.ok,I.os,I.bare,⟨fun b o e n hb hx => ?_,fun b o e n hb hx => ?_,I.base.free,fun b o e hx => ?_,I.base.tups,I.base.frzs,I.base.tbls⟩,⟨_,hn',fun j y v' e1 e2 e3 => ?_⟩,fun y c e => ?_,I.free,I.freeC,fun p hp => ?_,tracked ⟨oL,hoL,I.free⟩ hs,by simpa using I.len⟩ ⟨_,hs,.inl rfl⟩
  ·exact(hs.2 b (AG (A7 (Heap.lt_size e) I.ok.above))).trans (I.base.keep b o e n hb hx)
  ·obtain⟨sl,e1⟩:=I.base.slot b o e n hb hx
   exact⟨sl,(hs.2 b (AG (A7 (Heap.lt_size e) I.ok.above))).trans e1⟩
  ·obtain⟨o',e1⟩:=I.base.there b o e hx
   exact⟨o',(hs.2 b (AG (A7 (Heap.lt_size e) I.ok.above))).trans e1⟩
  ·by_cases hj:j=i
   ·subst hj
    rw[hi] at e1;cases e1;rw[Bs hiσ] at e2;cases e2
    exact⟨u,r,.inl ⟨hk,by simp⟩⟩
   ·rw[Bp (Ne.symm hj)] at e2
    obtain⟨u',r',q⟩:=hl j y v' e1 e2 e3;refine⟨u',r',?_⟩;rcases q with⟨k,e⟩|⟨k,c,e,z⟩
    ·refine .inl ⟨k,?_⟩
     have:y≠x:=fun e=>hj (oZ hN e1 (e▸hi));simp[this,e]
    ·exact .inr ⟨k,c,e,z.sameBut hs (cne y c e)⟩
  ·obtain⟨w',z⟩:=I.cell y c e
   exact⟨w',z.sameBut hs (cne y c e)⟩
  ·obtain⟨e,n,ne,nf,d⟩:=I.pin p hp
   exact⟨(hs.2 p.1 ne).trans e,n,ne,nf,d⟩
 ·have hfn:X.fn x=true:=by
   rcases hf with z|z
   ·exact z
   ·rw[z] at hk;cases hk
  obtain⟨c,hc⟩:=I.ok.has x (.inl hk);obtain⟨w',z⟩:=I.cell x c hc;refine wpAny_storeName_cell I.ok.kind hk hc z (fun h' hc' hs => ?_);obtain⟨oc,hoc,hocd⟩:=id z;refine h { s with heap:=h' } ⟨I.ok,I.os,I.bare,⟨fun b o e n hb hx => ?_,fun b o e n hb hx => ?_,I.base.free,fun b o e hx => ?_,I.base.tups,I.base.frzs,I.base.tbls⟩,⟨m,hn.sameBut hs (Ne.symm (cne x c hc)),fun j y v' e1 e2 e3 => ?_⟩,fun y c' e => ?_,I.free,I.freeC,fun p hp => ?_,tracked ⟨oc,hoc,I.freeC x c hc⟩ hs,by simpa using I.len⟩ ⟨c,hs,.inr hc⟩
  ·exact(hs.2 b (AG (A7 (Heap.lt_size e) (I.ok.cab x c hfn hc)))).trans (I.base.keep b o e n hb hx)
  ·obtain⟨sl,e1⟩:=I.base.slot b o e n hb hx
   exact⟨sl,(hs.2 b (AG (A7 (Heap.lt_size e) (I.ok.cab x c hfn hc)))).trans e1⟩
  ·obtain⟨o',e1⟩:=I.base.there b o e hx
   exact⟨o',(hs.2 b (AG (A7 (Heap.lt_size e) (I.ok.cab x c hfn hc)))).trans e1⟩
  ·by_cases hj:j=i
   ·subst hj
    rw[hi] at e1;cases e1;rw[Bs hiσ] at e2;cases e2
    exact⟨u,r,.inr ⟨.inl hk,c,hc,hc'⟩⟩
   ·rw[Bp (Ne.symm hj)] at e2
    obtain⟨u',r',q⟩:=hl j y v' e1 e2 e3;refine⟨u',r',?_⟩;rcases q with q|⟨k,c',e,z'⟩
    ·exact .inl q
    ·refine .inr ⟨k,c',e,z'.sameBut hs ?_⟩
     rintro rfl;exact hj (oZ hN e1 (I.ok.inj _ _ _ e hc▸hi))
  ·by_cases hcc:c'=c
   ·subst hcc;exact⟨_,hc'⟩
   ·obtain⟨w2,z2⟩:=I.cell y c' e
    exact⟨w2,z2.sameBut hs hcc⟩
  ·obtain⟨e,n,ne,nf,d⟩:=I.pin p hp
   refine⟨(hs.2 p.1 ?_).trans e,n,ne,nf,d⟩;intro q;rw[q,hoc] at e;have q':oc=p.2:=Ac e;exact d w' (by rw[← q'];exact hocd)
theorem uv{M:Model}{A:Around}{E:Value→Shared→Prop}{i:Nat}{x:Str}{v:V}{u:Value}{Q:Unit→Shared→Prop}(I:Inv X pins σ H s)(hN:X.N.Nodup)(hi:X.N[i]? = some x)(hx:Loc X.env.scope x)(r:RelV v u)
  (h:∀s',Inv X pins (σ.set i (some v)) H s'→Q () s') (hf:X.fn x=true∨X.env.scope.names.lookup x=some .local:=by first|exact .inl rfl|exact .inr rfl|assumption):wpAny M A (storeName X.env x u) Q E s :=
 rh I hN hi hx r (fun s' I' _=>h s' I') hf
theorem Inv.ahk{s':Shared}{ch:List Addr}(I:Inv X pins σ H s)(ho:s'.os=s.os)(u:Un (frs X.stack) ch H H' s.heap s'.heap)(hok:HOk X.prog X.w H' s'.heap)(hg:AllBare s'.gens)
  (hch:∀b∈ch,(b∈X.ex∨X.s_0.heap.objs.size≤b)∧b≠X.env.locals∧(∀x c,X.env.cells.lookup x=some c→c≠b)∧∀p∈X.pn++pins,p.1≠b):Inv X pins σ H' s':=by
 obtain⟨h',g',d',t',o'⟩:=s';have e:o'=s.os:=ho;subst e;exact I.call (g':=g') (t':=t') (d':=d') u hok hg hch
end
abbrev XK:=Value→Option Addr→Hp→Prop
abbrev St:=List (Option V)
abbrev VK:=V→Hp→Prop
abbrev TE:=St→Hp→VK→Prop
abbrev TT:=St→Hp→(Bool→Hp→Prop)→Prop
abbrev TA:=St→Hp→(List V→Hp→Prop)→Prop
structure Ends where
 nx:St→Hp→Prop
 rt:VK
 bk:St→Hp→Prop:=fun _ _=>False
 ct:St→Hp→Prop:=fun _ _=>False
abbrev TS:=Ends→St→Hp→Prop
def EP(X:Cx)(pins:List (Addr×Obj))(σ:St)(Q:VK)(u:Value)(s':Shared):Prop:=∃v H',Inv X pins σ H' s'∧RelV v u∧Q v H'
def TP(X:Cx)(pins:List (Addr×Obj))(σ:St)(Q:Bool→Hp→Prop)(b:Bool)(s':Shared):Prop:=∃H',Inv X pins σ H' s'∧Q b H'
def AP(X:Cx)(pins:List (Addr×Obj))(σ:St)(Q:List V→Hp→Prop)(us:List Value)(s':Shared):Prop:=∃vs H',Inv X pins σ H' s'∧Vals vs us∧Q vs H'
def SP(X:Cx)(pins:List (Addr×Obj))(D:Ends)(f:Flow)(s':Shared):Prop :=
 match f with
 | .next=>∃σ' H',Inv X pins σ' H' s'∧D.nx σ' H'
 | .brk=>∃σ' H',Inv X pins σ' H' s'∧D.bk σ' H'
 | .cont=>∃σ' H',Inv X pins σ' H' s'∧D.ct σ' H'
 | .ret u=>∃v σ' H',Inv X pins σ' H' s'∧RelV v u∧D.rt v H'
def PE(X:Cx)(e:Expr)(t:TE):Prop :=
 ∀(pins:List (Addr×Obj)) (s:Shared) (σ:St) (H:Hp) (Q:VK),Inv X pins σ H s→t σ H Q→wpAny (model X.prog X.w) X.A (eval e X.env) (EP X pins σ Q) X.xe s
def PT(X:Cx)(e:Expr)(t:TT):Prop :=
 ∀(pins:List (Addr×Obj)) (s:Shared) (σ:St) (H:Hp) (Q:Bool→Hp→Prop),Inv X pins σ H s→t σ H Q→wpAny (model X.prog X.w) X.A (isTrue e X.env (eval e X.env)) (TP X pins σ Q) X.xe s
def PW(X:Cx)(e:Expr)(t:TT):Prop :=
 ∀(whole:Sem Value) (pins:List (Addr×Obj)) (s:Shared) (σ:St) (H:Hp) (Q:Bool→Hp→Prop),Inv X pins σ H s→t σ H Q→wpAny (model X.prog X.w) X.A (isTrue e X.env whole) (TP X pins σ Q) X.xe s
theorem PW.pt{X:Cx}{e:Expr}{t:TT}(h:PW X e t):PT X e t:=h _
def PA(X:Cx)(es:List Expr)(t:TA):Prop :=
 ∀(pos:Pos) (pins:List (Addr×Obj)) (s:Shared) (σ:St) (H:Hp) (Q:List V→Hp→Prop),Inv X pins σ H s→t σ H Q→wpAny (model X.prog X.w) X.A (spliced (backTo pos (starEach es X.env))) (AP X pins σ Q) X.xe s
def PS(X:Cx)(st:Stmt)(t:TS):Prop :=
 ∀(pins:List (Addr×Obj)) (s:Shared) (σ:St) (H:Hp) (D:Ends),Inv X pins σ H s→t D σ H→wpAny (model X.prog X.w) X.A (exec st X.env) (SP X pins D) X.xe s
def PSs(X:Cx)(st:List Stmt)(t:TS):Prop :=
 ∀(pins:List (Addr×Obj)) (s:Shared) (σ:St) (H:Hp) (D:Ends),Inv X pins σ H s→t D σ H→wpAny (model X.prog X.w) X.A (execs st X.env) (SP X pins D) X.xe s
theorem thn{α:Type}{t:Sem α}{Q Q':α→Shared→Prop}{M:Model}{A:Around}{E:Value→Shared→Prop}{s:Shared}(h:wpAny M A t Q E s)(hQ:∀a s,Q a s→Q' a s):wpAny M A t Q' E s:=wpAny_mono h hQ fun _ _ x=>x
section
variable {X:Cx}
inductive aia(i:Nat)(σ:St)(H:Hp)(Q:VK):Prop
 | mk (v:V) (h:σ[i]? = some (some v)) (q:Q v H):aia i σ H Q
def acB(i:Nat):TE:=fun σ H Q=>aia i σ H Q
def tC(v:V):TE:=fun _ H Q=>Q v H
theorem agN{i:Nat}{x:Str}{pos:Pos}(hN:X.N[i]? = some x)(hv:Vis X.env.scope x)(hd:(x==("__debug__" : Str))=false:=by decide)(hcd:(x==("__classdict__" : Str))=false:=by decide):PE X (.Name x pos) (acB i):=by
 intro pins s σ H Q I h;obtain⟨v,e,h⟩:=h;obtain⟨m,hn,hl⟩:=I.loc;obtain⟨u,r,l⟩:=hl i x v hN e hv;have fin:EP X pins σ Q u s:=⟨v,H,I,r,h⟩;rcases l with⟨hk,hm⟩|⟨hk,c,hc,hcell⟩
 ·exact wpAny_Name (wpAny_loadName_local I.ok.kind hk hn hm fin) hd
 ·rcases hk with hk|hk
  ·exact wpAny_Name (wpAny_loadName_cell I.ok.kind hk hc hcell fin) hd
  ·exact wpAny_Name (wpAny_loadName_free I.ok.kind hk hc hcell fin hcd) hd
theorem ao{i j pos}:PE X (.Constant (.int i) j pos) (tC (.int i)):=fun _ _ _ H _ I h=>wpAny_Constant_int ⟨.int i,H,I.tok _,⟨_,rfl⟩,h⟩
theorem kn{b j pos}:PE X (.Constant (.bool b) j pos) (tC (.bl b)):=fun _ _ _ H _ I h=>Constant_bool ⟨.bl b,H,I,rfl,h⟩
theorem fT{j pos}:PE X (.Constant .none j pos) (tC .non):=fun _ _ _ H _ I h=>Constant_none ⟨.non,H,I,rfl,h⟩
def Gl(X:Cx)(x:Str):Prop:=X.env.kindOf x=some .globalImplicit
theorem tY{E:Value→Shared→Prop}{pins:List (Addr×Obj)}{s:Shared}{σ:St}{H:Hp}{x:Str}{u:Value}{pos:Pos}{Q:Value→Shared→Prop}(I:Inv X pins σ H s)(hg:Gl X x)(hm:X.mg x=some u)(h:Q u s)
  (hd:(x==("__debug__" : Str))=false:=by decide):wpAny (model X.prog X.w) X.A (eval (.Name x pos) X.env) Q E s :=
 Calls.Name_function_global I.ok.kind hg (Calls.loadGlobal_global (by rw[I.ok.glob];exact I.mod.glob.keeps I.bk) hm h) hd
theorem iz{E:Value→Shared→Prop}{pins:List (Addr×Obj)}{s:Shared}{σ:St}{H:Hp}{x:Str}{u:Value}{pos:Pos}{Q:Value→Shared→Prop}(I:Inv X pins σ H s)(hg:Gl X x)(hm:X.mg x=none)(hv:bootBuiltins x=some u)(h:Q u s)
  (hn:x ≠ "__name__" := by decide) (hd:(x==("__debug__" : Str))=false:=by decide):wpAny (model X.prog X.w) X.A (eval (.Name x pos) X.env) Q E s:=by
 obtain⟨mb,h1,h2⟩:=I.mod.blt;exact Calls.Name_function_global I.ok.kind hg (Calls.loadGlobal_builtin (by rw[I.ok.glob];exact I.mod.glob.keeps I.bk) hm (by rw[I.ok.blt];exact h1.keeps I.bk) ((h2 x hn).trans hv) h) hd
theorem yH{x:Str}{v:V}{u:Value}{pos:Pos}(hg:Gl X x)(hm:X.mg x=some u)(r:RelV v u)(hd:(x==("__debug__" : Str))=false:=by decide):PE X (.Name x pos) (tC v) :=
 fun _ _ _ H _ I h=>tY I hg hm ⟨v,H,I,r,h⟩ hd
variable {a b:Expr}{ta tb:TE}{pos:Pos}
def PC(X:Cx)(op:CmpOp)(a b:Expr)(t:TE):Prop :=
 ∀(pins:List (Addr×Obj)) (s:Shared) (σ:St) (H:Hp) (Q:VK),Inv X pins σ H s→t σ H Q →
  wpAny (model X.prog X.w) X.A (eval a X.env) (fun v s₁=>wpAny (model X.prog X.w) X.A (eval b X.env) (fun u s₂=>wpAny (model X.prog X.w) X.A (compareOp op v u) (EP X pins σ Q) X.xe s₂) X.xe s₁) X.xe s
theorem abe(b:Expr){op:CmpOp}(h:op≠.In)(h2:op≠.NotIn):behindInMarks op b=false:=by
 have e1:(op==CmpOp.In)=false:=by cases op <;> first|rfl|exact absurd rfl h
 have e2:(op==CmpOp.NotIn)=false:=by cases op <;> first|rfl|exact absurd rfl h2
 cases b <;> simp[behindInMarks,e1,e2]
def aiO(ta:TE):TE:=fun σ H Q=>ta σ H fun x H1=>Q (.bl (decide (x=.non))) H1
def ahI(ta:TE):TE:=fun σ H Q=>ta σ H fun x H1=>Q (.bl (!decide (x=.non))) H1
theorem RelV.uB{x:V}{v:Value}(r:RelV x v):(v==Value.none)=decide (x=.non):=by
 cases x with
 | non=>cases r;rfl
 | bl _=>cases r;rfl
 | int _=>obtain⟨t,rfl⟩:=r;rfl
 | str _=>obtain⟨t,rfl⟩:=r;rfl
 | byt _=>obtain⟨t,rfl⟩:=r;rfl
 | flt _=>obtain⟨t,rfl⟩:=r;rfl
 | ref _=>cases r;rfl
 | ty _=>cases r;rfl
theorem afh{j pos'}(ha:PE X a ta):PC X .Is a (.Constant .none j pos') (aiO ta):=by
 intro pins s σ H Q I h;refine thn (ha pins s σ H _ I h) fun v s1 ⟨x,H1,I1,r1,q1⟩ => ?_;exact Constant_none (is_none_gen ⟨.bl _,H1,I1,by rw[r1.uB];rfl,q1⟩)
theorem zf{j pos'}(ha:PE X a ta):PC X .IsNot a (.Constant .none j pos') (ahI ta):=by
 intro pins s σ H Q I h;refine thn (ha pins s σ H _ I h) fun v s1 ⟨x,H1,I1,r1,q1⟩ => ?_;exact Constant_none (isnot_none_gen ⟨.bl _,H1,I1,by rw[r1.uB];rfl,q1⟩)
inductive TBl(x:V)(H:Hp)(Q:Bool→Hp→Prop):Prop
 | mk (c:Bool) (h:x=.bl c) (q:Q c H):TBl x H Q
def tB(t:TE):TT:=fun σ H Q=>t σ H fun x H1=>TBl x H1 Q
theorem ig{op:CmpOp}{t:TE}(h:PC X op a b t)(h1:behindInMarks op b=false:=by first|exact abe _ (by decide) (by decide)|rfl):PT X (.Compare a [op] [b] pos) (tB t):=by
 intro pins s σ H Q I hw;refine wpAny_isTrue_Compare1 (thn (h pins s σ H _ I hw) fun v s1 h1=>thn h1 fun u s2 h2=>thn h2 fun c s3 ⟨x,H1,I1,r1,q1⟩ => ?_) h1;obtain⟨d,rfl,q⟩:=q1;cases r1
 exact wpAny_truthy_bool ⟨H1,I1,q⟩
variable {tA tB':TT}{rest:List Expr}
def ai7(t u:TT):TT:=fun σ H Q=>t σ H fun c H1=>if c=true then u σ H1 Q else Q false H1
def tOr(t u:TT):TT:=fun σ H Q=>t σ H fun c H1=>if c=true then Q true H1 else u σ H1 Q
def ajg(t:TT):TT:=fun σ H Q=>t σ H fun c H1=>Q (!c) H1
theorem fA(ha:PT X a tA):PW X (.BoolOp .And [a] pos) tA:=by
 intro wh pins s σ H Q I h;refine isTrue_and (thn (ha pins s σ H Q I h) fun c s1 e => ?_);cases c with
 | true=>exact isTrue_and_nil e
 | false=>exact e
theorem fW(ha:PT X a tA):PW X (.BoolOp .Or [a] pos) tA:=by
 intro wh pins s σ H Q I h;refine isTrue_or (thn (ha pins s σ H Q I h) fun c s1 e => ?_);cases c with
 | false=>exact isTrue_or_nil e
 | true=>exact e
theorem jH(ha:PT X a tA)(hb:PW X (.BoolOp .And (b::rest) pos) tB'):PW X (.BoolOp .And (a::b::rest) pos) (ai7 tA tB'):=by
 intro wh pins s σ H Q I h;refine isTrue_and (thn (ha pins s σ H _ I h) fun c s1 ⟨H1,I1,q1⟩ => ?_);cases c with
 | true=>exact hb wh pins s1 σ H1 Q I1 q1
 | false=>exact⟨H1,I1,q1⟩
theorem lC(ha:PT X a tA)(hb:PW X (.BoolOp .Or (b::rest) pos) tB'):PW X (.BoolOp .Or (a::b::rest) pos) (tOr tA tB'):=by
 intro wh pins s σ H Q I h;refine isTrue_or (thn (ha pins s σ H _ I h) fun c s1 ⟨H1,I1,q1⟩ => ?_);cases c with
 | true=>exact⟨H1,I1,q1⟩
 | false=>exact hb wh pins s1 σ H1 Q I1 q1
theorem oi(ha:PT X a tA):PT X (.UnaryOp .Not a pos) (ajg tA):=by
 intro pins s σ H Q I h;exact isTrue_not (ha pins s σ H (fun c H1=>Q (!c) H1) I h)
def ahH(ta tb:TE):TE:=fun σ H Q=>ta σ H fun x H1=>TBl x H1 fun c H1=>if c=true then tb σ H1 Q else Q (.bl false) H1
def aiP(ta tb:TE):TE:=fun σ H Q=>ta σ H fun x H1=>∃c,x=.bl c∧if c=true then Q (.bl true) H1 else tb σ H1 Q
def ahe(ta:TE):TE:=fun σ H Q=>ta σ H fun x H1=>∃c,x=.bl c∧Q (.bl (!c)) H1
theorem fU{op}{t:TE}(h:PE X a t):PE X (.BoolOp op [a] pos) t:=fun pins s σ H Q I hw=>BoolOp_one (h pins s σ H Q I hw)
theorem eY(ha:PE X a ta)(hb:PE X (.BoolOp .And (b::rest) pos) tb):PE X (.BoolOp .And (a::b::rest) pos) (ahH ta tb):=by
 intro pins s σ H Q I h;refine BoolOp_and (thn (ha pins s σ H _ I h) fun v s1 ⟨x,H1,I1,r1,q1⟩ => ?_);obtain⟨c,rfl,q1⟩:=q1;cases r1
 refine wpAny_truthy_bool ?_;cases c with
 | true=>exact hb pins s1 σ H1 Q I1 q1
 | false=>exact⟨.bl false,H1,I1,rfl,q1⟩
theorem agB(ha:PE X a ta)(hb:PE X (.BoolOp .Or (b::rest) pos) tb):PE X (.BoolOp .Or (a::b::rest) pos) (aiP ta tb):=by
 intro pins s σ H Q I h;refine BoolOp_or (thn (ha pins s σ H _ I h) fun v s1 ⟨x,H1,I1,r1,q1⟩ => ?_);obtain⟨c,rfl,q1⟩:=q1;cases r1
 refine wpAny_truthy_bool ?_;cases c with
 | false=>exact hb pins s1 σ H1 Q I1 q1
 | true=>exact⟨.bl true,H1,I1,rfl,q1⟩
theorem afx(ha:PE X a ta):PE X (.UnaryOp .Not a pos) (ahe ta):=by
 intro pins s σ H Q I h;refine UnaryOp_ (thn (ha pins s σ H _ I h) fun v s1 ⟨x,H1,I1,r1,q1⟩ => ?_);obtain⟨c,rfl,q1⟩:=q1;cases r1
 exact not_of (wpAny_truthy_bool ⟨.bl (!c),H1,I1,rfl,q1⟩)
def tIf(t:TT)(ta tb:TE):TE:=fun σ H Q=>t σ H fun c H1=>if c=true then ta σ H1 Q else tb σ H1 Q
theorem uU{c:Expr}(hc:PT X c tA)(ha:PE X a ta)(hb:PE X b tb):PE X (.IfExp c a b pos) (tIf tA ta tb):=by
 intro pins s σ H Q I h;refine wpAny_IfExp (thn (hc pins s σ H _ I h) fun d s1 ⟨H1,I1,q1⟩ => ?_);cases d with
 | true=>exact ha pins s1 σ H1 Q I1 q1
 | false=>exact hb pins s1 σ H1 Q I1 q1
end
def SqL(K:DG)(H:Hp)(a:Addr)(xs:List V):Prop :=
 Rd H a (.lst xs) ∨
  ∃(o:Obj) (its:Array Value) (n:Nat),K.lookup a=some o∧o.cls=.type "list" ∧ o.dict=none∧o.data=.seq its n∧its.size≤sizeLine∧Vals xs its.toList
def SqT(K:DG)(H:Hp)(a:Addr)(xs:List V):Prop :=
 Rd H a (.tup xs) ∨
  ∃(o:Obj) (its:Array Value) (n:Nat),K.lookup a=some o∧o.cls=.type "tuple" ∧ o.data=.seq its n∧its.size≤sizeLine∧Vals xs its.toList
def ai3:Value→Option V
 | .none=>some .non
 | .bool b=>some (.bl b)
 | .int i _=>some (.int i)
 | .str x _=>some (.str x)
 | .bytes b _=>some (.byt b)
 | .float b _=>some (.flt b)
 | .ref a=>some (.ref a)
 | .type n=>some (.ty n)
 | _=>none
theorem RelV.abs{x:V}{u:Value}(r:RelV x u):ai3 u=some x:=by
 cases x with
 | non=>cases r;rfl
 | bl _=>cases r;rfl
 | int _=>obtain⟨t,rfl⟩:=r;rfl
 | str _=>obtain⟨t,rfl⟩:=r;rfl
 | byt _=>obtain⟨t,rfl⟩:=r;rfl
 | flt _=>obtain⟨t,rfl⟩:=r;rfl
 | ref _=>cases r;rfl
 | ty _=>cases r;rfl
theorem RelV.inj{x y:V}{u:Value}(r:RelV x u)(q:RelV y u):x=y:=Ac (r.abs.symm.trans q.abs)
theorem Vals.inj:∀{xs ys:List V} {us:List Value},Vals xs us→Vals ys us→xs=ys
 | _,_,_,.nil,.nil=>rfl
 | _,_,_,.cons r t,.cons r' t'=>by rw[r.inj r',Vals.inj t t']
section
variable {X:Cx}{pins:List (Addr×Obj)}{σ:St}{H:Hp}{s:Shared}{a:Addr}{xs ys:List V}
theorem SqL.of{K:DG}(h:H a=some (.lst xs)):SqL K H a xs:=.inl (.inl h)
theorem SqT.of{K:DG}(h:H a=some (.tup xs)):SqT K H a xs:=.inl (.inl h)
theorem Inv.list(I:Inv X pins σ H s)(h:SqL X.K H a xs):∃its:List Value,Vals xs its∧PlainL s.heap a its.toArray∧xs.length≤sizeLine:=by
 rcases h with h|⟨o,its,n,hk,hc,hd,hs,hz,r⟩
 ·obtain⟨z,its,n,r,e⟩:=h.ok I.hok
  exact⟨its,r,⟨_,n,e,rfl,rfl,rfl⟩,z⟩
 ·refine⟨its.toList,r,⟨o,n,I.kIn a o hk,hc,hd,by simpa using hs⟩,?_⟩
  have e:=r.length;simp only[B3] at e;omega
theorem Inv.tuple(I:Inv X pins σ H s)(h:SqT X.K H a xs):∃its:List Value,Vals xs its∧IsTup s.heap a its.toArray∧xs.length≤sizeLine:=by
 rcases h with h|⟨o,its,n,hk,hc,hs,hz,r⟩
 ·obtain⟨z,its,r,p⟩:=h.ok I.hok
  exact⟨its,r,p,z⟩
 ·refine⟨its.toList,r,⟨o,I.kIn a o hk,hc,n,by simpa using hs⟩,?_⟩
  have e:=r.length;simp only[B3] at e;omega
theorem Inv.jy(I:Inv X pins σ H s)(h:SqL X.K H a xs)(h':SqL X.K H a ys):xs=ys:=by
 obtain⟨its,r,⟨o,n,e,_,_,d⟩,_⟩:=I.list h;obtain⟨its',r',⟨o',n',e',_,_,d'⟩,_⟩:=I.list h';rw[e] at e';cases e';rw[d] at d';injection d' with d1 _
 have:its=its':=by simpa using congrArg Array.toList d1
 subst this;exact r.inj r'
theorem Inv.qY(I:Inv X pins σ H s)(h:SqT X.K H a xs)(h':SqT X.K H a ys):xs=ys:=by
 obtain⟨its,r,⟨o,e,_,n,d⟩,_⟩:=I.tuple h;obtain⟨its',r',⟨o',e',_,n',d'⟩,_⟩:=I.tuple h';rw[e] at e';cases e';rw[d] at d';injection d' with d1 _
 have:its=its':=by simpa using congrArg Array.toList d1
 subst this;exact r.inj r'
end
abbrev Cx.aaE(X:Cx)(E:Value→Shared→Prop):Cx:={ X with xe:=E }
abbrev Cx.nox(X:Cx):Cx:=X.aaE fun _ _=>False
theorem Cx.Ok.aaE{X:Cx}(ok:X.Ok)(E:Value→Shared→Prop):(X.aaE E).Ok :=
 ⟨ok.mod,ok.kind,ok.glob,ok.blt,ok.above,ok.inj,ok.has,ok.cab,ok.hd,ok.frames,ok.stk,ok.exf,ok.bs,ok.bsz,ok.noex,ok.exfs,ok.wG,ok.frf⟩
theorem Cx.Ok.kW{X:Cx}{E:Value→Shared→Prop}(ok:(X.aaE E).Ok):X.Ok :=
 ⟨ok.mod,ok.kind,ok.glob,ok.blt,ok.above,ok.inj,ok.has,ok.cab,ok.hd,ok.frames,ok.stk,ok.exf,ok.bs,ok.bsz,ok.noex,ok.exfs,ok.wG,ok.frf⟩
section
variable {X:Cx}{pins:List (Addr×Obj)}{σ:St}{H:Hp}{s:Shared}{E:Value→Shared→Prop}
theorem Inv.aaE(I:Inv X pins σ H s)(E:Value→Shared→Prop):Inv (X.aaE E) pins σ H s:=⟨I.ok.aaE E,I.os,I.bare,I.base,I.loc,I.cell,I.free,I.freeC,I.pin,I.hok,I.len⟩
theorem Inv.kW(I:Inv (X.aaE E) pins σ H s):Inv X pins σ H s:=⟨I.ok.kW,I.os,I.bare,I.base,I.loc,I.cell,I.free,I.freeC,I.pin,I.hok,I.len⟩
theorem SP.kW{D:Ends}{f:Flow}{s':Shared}(h:SP (X.aaE E) pins D f s'):SP X pins D f s':=by
 cases f with
 | next=>obtain⟨σ',H',I,q⟩:=h;exact⟨σ',H',I.kW,q⟩
 | brk=>obtain⟨σ',H',I,q⟩:=h;exact⟨σ',H',I.kW,q⟩
 | cont=>obtain⟨σ',H',I,q⟩:=h;exact⟨σ',H',I.kW,q⟩
 | ret u=>obtain⟨v,σ',H',I,r,q⟩:=h;exact⟨v,σ',H',I.kW,r,q⟩
theorem PSs.nox{st:List Stmt}{t:TS}(h:PSs X.nox st t):PSs X st t:=fun pins s σ H D I hw =>
 wpAny_mono (h pins s σ H D (I.aaE _) hw) (fun _ _ q=>q.kW) fun _ _ z=>False.elim z
end
section
variable {X:Cx}{st:Stmt}{rest:List Stmt}{t u:TS}{e:Expr}{te:TE}{pos:Pos}
def agz:TS:=fun D σ H=>D.nx σ H
def adW(t u:TS):TS:=fun D σ H=>t { D with nx:=u D } σ H
theorem bb:PSs X [] agz:=fun _ _ σ H _ I h=>wpAny_execs_nil ⟨σ,H,I,h⟩
theorem aA(h1:PS X st t)(h2:PSs X rest u):PSs X (st::rest) (adW t u):=by
 intro pins s σ H D I h;refine wpAny_execs_cons (thn (h1 pins s σ H { D with nx:=u D } I h) fun f s1 q => ?_);cases f with
 | next =>
  obtain⟨σ',H',I',q⟩:=q;exact h2 pins s1 σ' H' D I' q
 | ret v=>exact q
 | brk=>exact q
 | cont=>exact q
theorem aF(h1:PS X st t):PSs X [st] t:=by
 intro pins s σ H D I h;refine wpAny_execs_cons (thn (h1 pins s σ H D I h) fun f s1 q => ?_);cases f with
 | next=>exact wpAny_execs_nil q
 | ret v=>exact q
 | brk=>exact q
 | cont=>exact q
theorem Inv.quiet{pins:List (Addr×Obj)}{σ:St}{H:Hp}{s:Shared}(I:Inv X pins σ H s):interactive X.env=false:=by simp[interactive,I.ok.kind]
def afC(te:TE):TS:=fun D σ H=>te σ H fun _ H1=>D.nx σ H1
theorem iM(he:PE X e te)(hs:swapsWith e none pos.line X.env=pure false:=by rfl):PS X (.Expr e pos) (afC te):=by
 intro pins s σ H D I h;exact wpAny_Expr_any (thn (he pins s σ H _ I h) fun v s1 ⟨x,H1,I1,r1,q1⟩=>⟨σ,H1,I1,q1⟩) I.quiet hs
def ahf(te:TE):TS:=fun D σ H=>te σ H D.rt
theorem aeU(he:PE X e te):PS X (.Return (some e) pos) (ahf te):=by
 intro pins s σ H D I h;exact wpAny_Return_some (thn (he pins s σ H _ I h) fun v s1 ⟨x,H1,I1,r1,q1⟩=>⟨x,σ,H1,I1,r1,q1⟩)
def aiA(c:TT)(t u:TS):TS:=fun D σ H=>c σ H fun b H1=>if b=true then t D σ H1 else u D σ H1
theorem di{c:Expr}{a b:List Stmt}{tc:TT}(hc:PT X c tc)(ha:PSs X a t)(hb:PSs X b u):PS X (.If c a b pos) (aiA tc t u):=by
 intro pins s σ H D I h;refine wpAny_If (thn (hc pins s σ H _ I h) fun d s1 ⟨H1,I1,q1⟩ => ?_);cases d with
 | true=>exact ha pins s1 σ H1 D I1 q1
 | false=>exact hb pins s1 σ H1 D I1 q1
end
abbrev TG:=V→St→Hp→(St→Hp→Prop)→Prop
abbrev TGs:=List V→St→Hp→(St→Hp→Prop)→Prop
def PG(X:Cx)(target:Expr)(t:TG):Prop :=
 ∀(pins:List (Addr×Obj)) (s:Shared) (σ:St) (H:Hp) (v:V) (u:Value) (Q:St→Hp→Prop),Inv X pins σ H s→RelV v u→t v σ H Q →
  wpAny (model X.prog X.w) X.A (assign target X.env u) (fun _ s'=>∃σ' H',Inv X pins σ' H' s'∧Q σ' H') X.xe s
def PGs(X:Cx)(ts:List Expr)(t:TGs):Prop :=
 ∀(pins:List (Addr×Obj)) (s:Shared) (σ:St) (H:Hp) (vs:List V) (us:List Value) (Q:St→Hp→Prop),Inv X pins σ H s→Vals vs us→t vs σ H Q →
  wpAny (model X.prog X.w) X.A (assignInOrder ((assignEach ts X.env).map (·.2)) us) (fun _ s'=>∃σ' H',Inv X pins σ' H' s'∧Q σ' H') X.xe s
section
variable {X:Cx}{pos:Pos}
def o8(i:Nat):TG:=fun v σ H Q=>Q (σ.set i (some v)) H
theorem aea{i:Nat}{x:Str}(hN:X.N.Nodup)(hi:X.N[i]? = some x)(hx:Loc X.env.scope x)(hf:X.fn x=true∨X.env.scope.names.lookup x=some .local:=by first|exact .inl rfl|exact .inr rfl|assumption):PG X (.Name x pos) (o8 i):=by
 intro pins s σ H v u Q I r h;exact wpAny_assign_Name (uv I hN hi hx r (fun s' I'=>⟨_,H,I',h⟩) hf)
def aja:TGs:=fun vs σ H Q=>vs=[]∧Q σ H
def ahv(t:TG)(u:TGs):TGs:=fun vs σ H Q=>∃v r,vs=v::r∧t v σ H fun σ' H'=>u r σ' H' Q
theorem b8:PGs X [] aja:=by
 intro pins s σ H vs us Q I r h;obtain⟨e,h⟩:=h;subst e;cases r
 exact assignInOrder_nil ⟨σ,H,I,h⟩
theorem aJ{e:Expr}{es:List Expr}{t:TG}{u:TGs}(h1:PG X e t)(h2:PGs X es u)
  (hs:(assignEach (e::es) X.env).map (·.2)=assign e X.env::(assignEach es X.env).map (·.2):=by rfl):PGs X (e::es) (ahv t u):=by
 intro pins s σ H vs us Q I r h;obtain⟨v,vr,e1,h⟩:=h;subst e1;cases r with
 | cons r rr =>
  rw[hs];refine assignInOrder_cons (thn (h1 pins s σ H _ _ _ I r h) fun _ s1 ⟨σ1,H1,I1,q1⟩ => ?_);exact h2 pins s1 σ1 H1 _ _ Q I1 rr q1
inductive aiv(K:DG)(n:Nat)(v:V)(H:Hp)(q:List V→Prop):Prop
 | mk (a:Addr) (xs:List V) (h1:v=.ref a) (h2:SqT K H a xs) (h3:xs.length=n) (h4:q xs):aiv K n v H q
def aii(K:DG)(n:Nat)(t:TGs):TG:=fun v σ H Q=>aiv K n v H fun xs=>t xs σ H Q
theorem dv{es:List Expr}{k:Nat}{t:TGs}{n:Nat}(hc:X.calm=true)(h:PGs X es t)
  (hn:(assignEach es X.env).length=n:=by rfl) (hst:(assignEach es X.env).findIdx? (·.1)=none:=by rfl):PG X (.Tuple es k pos) (aii X.K n t):=by
 intro pins s σ H v u Q I r hw;obtain⟨a,xs,e1,hq,hl,hw⟩:=hw;subst e1;cases r
 obtain⟨its,rv,ht,hz⟩:=I.tuple hq;refine assign_Tuple_tuple (I.ok.hd hc) ht (by simp[hn,← hl,rv.length]) hst fun h' hx => ?_;have I1:Inv X pins σ H { s with heap:=h' }:=I.kept (t':=s.toks) fun b o e=>hx b o (AG (Heap.lt_size e)) e;exact h pins _ σ H xs _ Q I1 (by simpa using rv) hw
def ahT(te:TE)(g:TG):TS:=fun D σ H=>te σ H fun x H1=>g x σ H1 D.nx
theorem lV{i:Nat}{x:Str}{e:Expr}{te:TE}{pos':Pos}(hN:X.N.Nodup)(hi:X.N[i]? = some x)(hx:Loc X.env.scope x)(he:PE X e te)(hs:swapsWith e (some (.Name x pos')) pos.line X.env=pure false:=by rfl)(hf:X.fn x=true∨X.env.scope.names.lookup x=some .local:=by first|exact .inl rfl|exact .inr rfl|assumption) :
  PS X (.Assign [.Name x pos'] e pos) (ahT te (o8 i)):=by
 intro pins s σ H D I h;refine wpAny_Assign_Name (thn (he pins s σ H _ I h) fun v s1 ⟨y,H1,I1,r1,q1⟩ => ?_) hs;exact uv I1 hN hi hx r1 (fun s2 I2=>⟨_,H1,I2,q1⟩) hf
def acj(c:TT)(tb:TS):TS:=fun D σ H=>∃W:Nat→St→Hp→Prop,(∃m,W m σ H)∧∀m σ H,W m σ H →
 c σ H fun b H1=>if b=true then ∃N:St→Hp→Prop,(∀σ' H',N σ' H'→∃m',m'<m∧W m' σ' H')∧tb { D with nx:=N,ct:=N,bk:=D.nx } σ H1 else D.nx σ H1
theorem oN{c:Expr}{body:List Stmt}{tc:TT}{tb:TS}(hp:PassesOwn (model X.prog X.w) X.A X.env X.xe)(hc:PT X c tc)(hb:PSs X body tb):PS X (.While c body [] pos) (acj tc tb):=by
 intro pins s σ H D I h;obtain⟨W,⟨m0,w0⟩,turn⟩:=h;refine wpAny_While (codeAny_whileLoop (fun n s'=>∃σ' H',Inv X pins σ' H' s'∧W n σ' H') ?_ m0 ⟨σ,H,I,w0⟩);rintro n s1 ⟨σ1,H1,I1,w1⟩;refine wpAny_passesOwn hp (thn (hc pins s1 σ1 H1 _ I1 (turn n σ1 H1 w1)) fun b s2 ⟨H2,I2,q2⟩ => ?_);cases b with
 | true =>
  obtain⟨N,hN,q2⟩:=q2;rw[Ag rfl];refine wpAny_passesOwn hp (thn (hb pins s2 σ1 H2 _ I2 q2) fun f s3 q3 => ?_);cases f with
  | next =>
   obtain⟨σ3,H3,I3,n3⟩:=q3;obtain⟨m',hm,w3⟩:=hN σ3 H3 n3;exact⟨m',hm,σ3,H3,I3,w3⟩
  | cont =>
   obtain⟨σ3,H3,I3,n3⟩:=q3;obtain⟨m',hm,w3⟩:=hN σ3 H3 n3;exact⟨m',hm,σ3,H3,I3,w3⟩
  | brk=>exact q3
  | ret v=>exact q3
 | false =>
  rw[Ad Az];exact wpAny_execs_nil ⟨σ1,H2,I2,q2⟩
end
structure It where
 go:Nat→Hp→Prop
 yld:Nat→Hp→V→Hp→Prop
 stop:Nat→Hp→Prop
def p9(X:Cx)(pins:List (Addr×Obj))(H:Hp)(b:Addr):Prop :=
 H b=none∧b≠X.env.locals∧b ∉ X.fs∧(b∈X.ex∨X.s_0.heap.objs.size≤b)∧(∀x c,X.env.cells.lookup x=some c→c≠b)∧∀p∈X.pn++pins,p.1≠b
theorem Inv.aa1{X:Cx}{pins:List (Addr×Obj)}{σ:St}{H H':Hp}{s:Shared}{b:Addr}(I:Inv X pins σ H s)(hb:s.heap.objs.size≤b)(hn:H' b=none):p9 X pins H' b:=by
 refine⟨hn,BG (A7 I.lt hb),I.ai8 hb,.inr (AS I.sz hb),fun x c e z => ?_,fun p hp z => ?_⟩
 ·obtain⟨v,q⟩:=I.cell x c e
  exact absurd (A7 q.lt (by rw[z];exact hb)) (Bh _)
 ·exact absurd (A7 (Heap.lt_size (I.pin p hp).1) (by rw[z];exact hb)) (Bh _)
structure Turn(P:Program)(w:World)(K:DG)(tg:Expr)(J:It)(fp:List Addr)(it:Addr)(tn:Nat→Heap→Prop):Prop where
 mem:it∈fp
 obj:∀i h,tn i h→∀b∈fp,∃o,h.get? b=some o∧∀v,o.data≠.cell v
 keep:∀i h h',tn i h→(∀b∈fp,∀o,h.get? b=some o→h'.get? b=some o)→tn i h'
 item:∀(X:Cx),X.prog=P→X.w=w→X.K=K→X.calm=true→∀(i:Nat) (pins:List (Addr×Obj)) (s:Shared) (σ:St) (H:Hp) (E:Value→Shared→Prop),Inv X pins σ H s→(∀b∈fp,p9 X pins H b)→tn i s.heap→J.go i H →
  wpAny (model P w) X.A (pyNext (.ref it)) (fun r s1=>∃u,r=some u ∧
   wpAny (model P w) X.A (letOwnedTupleGo tg (.ref it) u) (fun _ s2=>∃x H',Inv X pins σ H' s2∧RelV x u∧J.yld i H x H'∧tn (i+1) s2.heap∧∀b∈fp,H' b=none) E s1) E s
 done:∀(X:Cx),X.prog=P→X.w=w→X.K=K→X.calm=true→∀(i:Nat) (pins:List (Addr×Obj)) (s:Shared) (σ:St) (H:Hp) (E:Value→Shared→Prop),Inv X pins σ H s→(∀b∈fp,p9 X pins H b)→tn i s.heap→J.stop i H →
  wpAny (model P w) X.A (pyNext (.ref it)) (fun r s1=>r=none∧Inv X pins σ H s1) E s
 self:∀(A:Around) (i:Nat) (s:Shared) (Q:Value→Shared→Prop) (E:Value→Shared→Prop),tn i s.heap→Q (.ref it) s→wpAny (model P w) A (pyIter (.ref it)) Q E s
abbrev TI:=St→Hp→(It→Hp→Prop)→Prop
def PIE(X:Cx)(pins:List (Addr×Obj))(σ:St)(tg:Expr)(R:It→Hp→Prop)(itv:Value)(s2:Shared):Prop :=
 ∃(it:Addr) (fp:List Addr) (tn:Nat→Heap→Prop) (J:It) (H':Hp),itv=.ref it∧Inv X pins σ H' s2∧Turn X.prog X.w X.K tg J fp it tn∧tn 0 s2.heap∧(∀b∈fp,p9 X pins H' b)∧R J H'
def PI(X:Cx)(tg iter:Expr)(wi:TI):Prop :=
 ∀(pins:List (Addr×Obj)) (s:Shared) (σ:St) (H:Hp) (R:It→Hp→Prop),Inv X pins σ H s→wi σ H R →
  wpAny (model X.prog X.w) X.A (eval iter X.env) (fun v s1=>wpAny (model X.prog X.w) X.A (pyIter v) (PIE X pins σ tg R) X.xe s1) X.xe s
theorem y6{M:Model}{A:Around}{E:Value→Shared→Prop}{s:Shared}{tg:Expr}{it:Addr}{u:Value}{o:Obj}{n:String}{vs:Array Value}{Q:Unit→Shared→Prop}(ho:s.heap.get? it=some o)(hc:o.cls=.type n)(hd:o.data=.fields vs)
    (hn:["enumerate","zip","dict_itemiterator","dict_reverseitemiterator","odict_iterator","itertools.zip_longest","itertools.pairwise"].contains n=false) (hQ:Q () s):wpAny M A (letOwnedTupleGo tg (.ref it) u) Q E s:=by
  unfold letOwnedTupleGo;cases tg <;> first
    | exact wpAny_pure hQ
    | (cases u <;> first
        | exact wpAny_pure hQ
        | (refine wpAny_bind (wpAny_load ho ?_)
           rw[hc,hd];show wpAny M A (if (["enumerate","zip","dict_itemiterator","dict_reverseitemiterator","odict_iterator","itertools.zip_longest","itertools.pairwise"].contains n&&vs[0]? == some (rawInt _))=true then _ else _) Q E s;rw[Ad (by intro h;rw[hn,A5] at h;cases h)];exact wpAny_pure hQ))
def Itl(K:DG)(a:Addr):It :=
 ⟨fun i H=>∃xs x,SqL K H a xs∧xs[i]? = some x,fun i H x H'=>H'=H∧∀xs,SqL K H a xs→xs[i]? = some x,fun i H=>∃xs,SqL K H a xs∧xs.length≤i⟩
def Itt(K:DG)(a:Addr):It :=
 ⟨fun i H=>∃xs x,SqT K H a xs∧xs[i]? = some x,fun i H x H'=>H'=H∧∀xs,SqT K H a xs→xs[i]? = some x,fun i H=>∃xs,SqT K H a xs∧xs.length≤i⟩
def Itr(lo:Int)(n:Nat):It:=⟨fun i _=>i<n,fun i H x H'=>H'=H∧x=.int (lo+i),fun i _=>n≤i⟩
theorem yT{P:Program}{w:World}{K:DG}{tg:Expr}(a it:Addr):Turn P w K tg (Itl K a) [it] it (fun i h=>h.IsListIter it a i) where
 mem:=by simp
 obj:=fun i h st b hb=>by
  have e:b=it:=by simpa using hb
  subst e;obtain⟨o,e,c,d⟩:=st;exact⟨o,e,fun v z=>by rw[d] at z;cases z⟩
 keep:=fun i h h' st k=>st.at fun o e=>k it (by simp) o e
 item:=by
  intro X hP hw hK hc i pins s σ H E I hf st hg;subst hP hw hK;obtain⟨xs,x,hq,hx⟩:=hg;obtain⟨its,rv,p,hz⟩:=I.list hq;obtain⟨u,hu,ru⟩:=rv.get hx;obtain⟨f0,f1,f2,f3,f4,f5⟩:=hf it (by simp);refine wpAny_pyNext_list_item st p.isList (x:=u) (by simpa using hu) fun h' st' sb => ?_;have I1:Inv X pins σ H { s with heap:=h' }:=I.turned (t':=s.toks) (fun b o hb e=>(sb.2 b hb).trans e) f0 f1 f3 f4 f5;obtain⟨o,e,c,d⟩:=id st';exact⟨u,rfl,y6 (s:={ s with heap:=h' }) e c d (by decide) ⟨x,H,I1,ru,⟨rfl,fun ys hy=>by rw[I.jy hy hq];exact hx⟩,st',fun b hb=>(hf b hb).1⟩⟩
 done:=by
  intro X hP hw hK hc i pins s σ H E I hf st hg;subst hP hw hK;obtain⟨xs,hq,hx⟩:=hg;obtain⟨its,rv,p,hz⟩:=I.list hq;obtain⟨f0,f1,f2,f3,f4,f5⟩:=hf it (by simp);have hl:=rv.length;exact wpAny_pyNext_list_end (I.ok.hd hc) st p.isList (by simp;omega) fun h' eb=>⟨rfl,I.turned (t':=s.toks) (fun b o hb e=>eb b o hb e) f0 f1 f3 f4 f5⟩
 self:=fun _ _ _ _ _ st h=>wpAny_pyIter_listiter st h
theorem wg{P:Program}{w:World}{K:DG}{tg:Expr}(a it:Addr):Turn P w K tg (Itt K a) [it] it (fun i h=>h.IsTupleIter it a i) where
 mem:=by simp
 obj:=fun i h st b hb=>by
  have e:b=it:=by simpa using hb
  subst e;obtain⟨o,e,c,d⟩:=st;exact⟨o,e,fun v z=>by rw[d] at z;cases z⟩
 keep:=fun i h h' st k=>st.at fun o e=>k it (by simp) o e
 item:=by
  intro X hP hw hK hc i pins s σ H E I hf st hg;subst hP hw hK;obtain⟨xs,x,hq,hx⟩:=hg;obtain⟨its,rv,p,hz⟩:=I.tuple hq;obtain⟨u,hu,ru⟩:=rv.get hx;obtain⟨f0,f1,f2,f3,f4,f5⟩:=hf it (by simp);refine wpAny_pyNext_tuple_item st (show s.heap.IsTuple a its.toArray from p) (x:=u) (by simpa using hu) fun h' st' sb => ?_;have I1:Inv X pins σ H { s with heap:=h' }:=I.turned (t':=s.toks) (fun b o hb e=>(sb.2 b hb).trans e) f0 f1 f3 f4 f5;obtain⟨o,e,c,d⟩:=id st';exact⟨u,rfl,y6 (s:={ s with heap:=h' }) e c d (by decide) ⟨x,H,I1,ru,⟨rfl,fun ys hy=>by rw[I.qY hy hq];exact hx⟩,st',fun b hb=>(hf b hb).1⟩⟩
 done:=by
  intro X hP hw hK hc i pins s σ H E I hf st hg;subst hP hw hK;obtain⟨xs,hq,hx⟩:=hg;obtain⟨its,rv,p,hz⟩:=I.tuple hq;obtain⟨f0,f1,f2,f3,f4,f5⟩:=hf it (by simp);have hl:=rv.length;exact wpAny_pyNext_tuple_end (I.ok.hd hc) st (show s.heap.IsTuple a its.toArray from p) (by simp;omega) fun h' eb=>⟨rfl,I.turned (t':=s.toks) (fun b o hb e=>eb b o hb e) f0 f1 f3 f4 f5⟩
 self:=fun _ _ _ _ _ st h=>wpAny_pyIter_tupleiter st h
theorem wo{P:Program}{w:World}{K:DG}{tg:Expr}(it:Addr)(lo:Int)(n:Nat):Turn P w K tg (Itr lo n) [it] it (fun i h=>IsRangeIter h it (lo+(i:Nat)*1) ((n:Int)-(i:Nat)) 1) where
 mem:=by simp
 obj:=fun i h st b hb=>by
  have e:b=it:=by simpa using hb
  subst e;exact⟨_,st,fun v z=>by
   have z':Data.fields _=Data.cell v:=z;cases z'⟩
 keep:=fun i h h' st k=>k it (by simp) _ st
 item:=by
  intro X hP hw hK hc i pins s σ H E I hf st hg;subst hP hw hK;obtain⟨f0,f1,f2,f3,f4,f5⟩:=hf it (by simp);have W:=Walks.range (prog:=X.prog) (w:=X.w) (I.ok.hd hc) it lo 1 n;refine W.item i s _ _ hg st fun v h' tk hv st' kk => ?_;obtain⟨t,rfl⟩:=hv;have I1:Inv X pins σ H { s with heap:=h',toks:=tk }:=I.turned (fun b o hb e=>kk b o (by simpa using hb) e) f0 f1 f3 f4 f5;refine⟨_,rfl,y6 (s:={ s with heap:=h',toks:=tk }) (n := "range_iterator") st' rfl rfl (by decide) ⟨.int (lo+i),H,I1,⟨t,?_⟩,⟨rfl,rfl⟩,st',fun b hb=>(hf b hb).1⟩⟩;rw[Int.mul_one]
 done:=by
  intro X hP hw hK hc i pins s σ H E I hf st hg;subst hP hw hK;obtain⟨f0,f1,f2,f3,f4,f5⟩:=hf it (by simp);exact wpAny_pyNext_range_end (I.ok.hd hc) st (by have:n≤i:=hg;omega) fun h' eb=>⟨rfl,I.turned (t':=s.toks) (fun b o hb e=>eb b o hb e) f0 f1 f3 f4 f5⟩
 self:=fun _ _ _ _ _ st h=>wpAny_pyIter_rangeiter st h
section
variable {X:Cx}{tg:Expr}
inductive aiM(K:DG)(x:V)(H:Hp)(R:It→Hp→Prop):Prop
 | mk (a:Addr) (h1:x=.ref a) (h2:∃xs,SqL K H a xs) (q:R (Itl K a) H):aiM K x H R
def ahS(K:DG)(tl:TE):TI:=fun σ H R=>tl σ H fun x H1=>aiM K x H1 R
def aje(K:DG)(tl:TE):TI:=fun σ H R=>tl σ H fun x H1=>∃a,x=.ref a∧(∃xs,SqT K H1 a xs)∧R (Itt K a) H1
theorem bU{l:Expr}{tl:TE}(hl:PE X l tl):PI X tg l (ahS X.K tl):=by
 intro pins s σ H R I h;refine thn (hl pins s σ H _ I h) fun v s1 ⟨x,H1,I1,r1,q1⟩ => ?_;obtain⟨a,e,⟨xs,hq⟩,q⟩:=q1;subst e;cases r1
 obtain⟨its,rv,p,hz⟩:=I1.list hq;refine wpAny_pyIter_list p.isList ?_;refine⟨s1.heap.objs.size,[s1.heap.objs.size],_,_,H1,rfl,I1.kept (t':=s1.toks) fun b o e=>Heap.get?_push_of_some _ e,yT a _,⟨_,Heap.get?_push_size _ rfl,rfl,rfl⟩,fun b hb => ?_,q⟩;have e:b=s1.heap.objs.size:=by simpa using hb
 subst e;exact I1.aa1 (Ae _) (I1.hok.fresh (Ae _))
theorem zZ{l:Expr}{tl:TE}(hl:PE X l tl):PI X tg l (aje X.K tl):=by
 intro pins s σ H R I h;refine thn (hl pins s σ H _ I h) fun v s1 ⟨x,H1,I1,r1,q1⟩ => ?_;obtain⟨a,e,⟨xs,hq⟩,q⟩:=q1;subst e;cases r1
 obtain⟨its,rv,p,hz⟩:=I1.tuple hq;refine wpAny_pyIter_tuple (show s1.heap.IsTuple a its.toArray from p) ?_;refine⟨s1.heap.objs.size,[s1.heap.objs.size],_,_,H1,rfl,I1.kept (t':=s1.toks) fun b o e=>Heap.get?_push_of_some _ e,wg a _,⟨_,Heap.get?_push_size _ rfl,rfl,rfl⟩,fun b hb => ?_,q⟩;have e:b=s1.heap.objs.size:=by simpa using hb
 subst e;exact I1.aa1 (Ae _) (I1.hok.fresh (Ae _))
theorem uy{pins:List (Addr×Obj)}{σ:St}{H:Hp}{s:Shared}{R:It→Hp→Prop}{E:Value→Shared→Prop}{lo hi:Int}{t u v:Tok}{tk:Nat}(I:Inv X pins σ H s)(h1 : -(2 ^ 62)≤lo)(h2:lo<2 ^ 62)(h3 : -(2 ^ 62)≤hi)(h4:hi<2 ^ 62)
  (q:R (Itr lo (hi-lo).toNat) H):wpAny (model X.prog X.w) X.A (pyIter (.ref s.heap.objs.size)) (PIE X pins σ tg R) E { s with heap:=s.heap.push { cls:=.type "range",data:=.fields #[.int lo t,.int hi u,.int 1 v] },toks:=tk }:=by
 refine wpAny_pyIter_range (IsRange.new ..) (small_one h1 h2 h3 h4) ?_;have I1:Inv X pins σ H { s with heap:=s.heap.push { cls:=.type "range",data:=.fields #[.int lo t,.int hi u,.int 1 v] },toks:=tk }:=I.kept fun b o e=>Heap.get?_push_of_some _ e;refine⟨(s.heap.push { cls:=.type "range",data:=.fields #[.int lo t,.int hi u,.int 1 v] }).objs.size,[(s.heap.push { cls:=.type "range",data:=.fields #[.int lo t,.int hi u,.int 1 v] }).objs.size],_,_,H,rfl,
  I1.kept (t':=tk) fun b o e=>Heap.get?_push_of_some _ e,wo _ lo (hi-lo).toNat,?_,fun b hb => ?_,q⟩
 ·have e1:lo+((0:Nat):Int)*1=lo:=by simp
  have e2:(((hi-lo).toNat:Nat):Int)-((0:Nat):Int)=Builtin.Range.rangeSize lo hi 1:=by rw[rangeSize_one];split <;> omega
  show IsRangeIter _ _ (lo+((0:Nat):Int)*1) ((((hi-lo).toNat:Nat):Int)-((0:Nat):Int)) 1;rw[e1,e2];exact Heap.get?_push_size _ rfl
 ·have e:b=(s.heap.push { cls:=.type "range",data:=.fields #[.int lo t,.int hi u,.int 1 v] }).objs.size:=by simpa using hb
  subst e;exact I1.aa1 (Ae _) (I1.hok.fresh (Ae _))
def ahq(ta:TA):TI:=fun σ H R=>ta σ H fun vs H1=>∃j:Int,vs=[.int j] ∧ -(2 ^ 62)≤j∧j<2 ^ 62∧R (Itr 0 j.toNat) H1
def ahm(ta:TA):TI:=fun σ H R=>ta σ H fun vs H1=>∃i j:Int,vs=[.int i,.int j]∧(-(2 ^ 62)≤i∧i<2 ^ 62 ∧ -(2 ^ 62)≤j∧j<2 ^ 62)∧R (Itr i (j-i).toNat) H1
theorem qT{a:Expr}{ta:TA}{p pos:Pos}(hg:Gl X "range")(hm:X.mg "range" = none)(ha:PA X [a] ta)(hs:starEach [a] X.env=[(false,eval a X.env)]:=by rfl):PI X tg (.Call (.Name "range" p) [a] [] pos) (ahq ta):=by
 intro pins s σ H R I h;refine Call_ (iz I hg hm boot_range (PyProof.Rows.callWith_type1 (thn (ha pos pins s σ H _ I h) fun us s1 ⟨vs,H1,I1,r1,q1⟩ => ?_) hs rfl));obtain⟨j,e,q1,q2,q⟩:=q1;subst e;cases r1 with
 | cons r rr =>
  cases rr
  obtain⟨t,rfl⟩:=r;exact call_range_1 (uy I1 (by omega) (by omega) q1 q2 (by simpa using q))
theorem yU{a b:Expr}{ta:TA}{p pos:Pos}(hg:Gl X "range")(hm:X.mg "range" = none)(ha:PA X [a,b] ta)(hs:starEach [a,b] X.env=[(false,eval a X.env),(false,eval b X.env)]:=by rfl)(hs2:starEach [b] X.env=[(false,eval b X.env)]:=by rfl) :
  PI X tg (.Call (.Name "range" p) [a,b] [] pos) (ahm ta):=by
 intro pins s σ H R I h;refine Call_ (iz I hg hm boot_range (PyProof.Rows.callWith_type1 (thn (ha pos pins s σ H _ I h) fun us s1 ⟨vs,H1,I1,r1,q1⟩ => ?_) (by rw[hs,hs2]) (by rw[hs2];rfl)));obtain⟨i,j,e,⟨q1,q2,q3,q4⟩,q⟩:=q1;subst e;cases r1 with
 | cons r rr =>
  cases rr with
  | cons r' rr =>
   cases rr
   obtain⟨t,rfl⟩:=r;obtain⟨t',rfl⟩:=r';exact call_range_2 (uy I1 q1 q2 q3 q4 q)
def ajd(wi:TI)(g:TG)(tb:TS):TS:=fun D σ H=>wi σ H fun J H1=>∃W:Nat→Nat→St→Hp→Prop,(∃m,W 0 m σ H1)∧∀i m σ H,W i m σ H →
 (J.stop i H∧D.nx σ H)∨(J.go i H∧∃N:St→Hp→Prop,(∀σ' H',N σ' H'→∃m',m'<m∧W (i+1) m' σ' H')∧∀x H',J.yld i H x H'→g x σ H' fun σ2 H2=>tb { D with nx:=N,ct:=N,bk:=D.nx } σ2 H2)
def qu(fp:List Addr)(h:Heap):List (Addr×Obj):=fp.filterMap fun b=>(h.get? b).map fun o=>(b,o)
theorem j7{fp:List Addr}{h:Heap}{b:Addr}{o:Obj}(hb:b∈fp)(e:h.get? b=some o):(b,o)∈qu fp h:=List.mem_filterMap.mpr ⟨b,hb,by rw[e];rfl⟩
theorem x8{fp:List Addr}{h:Heap}{p:Addr×Obj}(hp:p∈qu fp h):p.1∈fp∧h.get? p.1=some p.2:=by
 obtain⟨b,hb,e⟩:=List.mem_filterMap.mp hp;cases q:h.get? b with
 | none=>rw[q] at e;cases e
 | some o =>
  rw[q] at e;have e':(b,o)=p:=Ac e;subst e';exact⟨hb,q⟩
theorem Inv.pinned{pins:List (Addr×Obj)}{σ:St}{H:Hp}{s:Shared}{fp:List Addr}(I:Inv X pins σ H s)(hf:∀b∈fp,p9 X pins H b)(ho:∀b∈fp,∃o,s.heap.get? b=some o∧∀v,o.data≠.cell v):Inv X (pins++qu fp s.heap) σ H s :=
 I.zH fun p hp=>(List.mem_append.mp hp).elim (fun z=>I.pin p (AL _ z)) fun z=>by
  obtain⟨hb,e⟩:=x8 z;obtain⟨f0,f1,f2,_⟩:=hf p.1 hb;obtain⟨o,e',d⟩:=ho p.1 hb;rw[e] at e';cases e';exact⟨e,f0,f1,f2,d⟩
theorem Inv.lF{pins pl:List (Addr×Obj)}{σ:St}{H:Hp}{s:Shared}(I:Inv X (pins++pl) σ H s):Inv X pins σ H s:=I.zH fun p hp=>I.pin p (AL _ (Bx _ hp))
theorem bC{iter:Expr}{body:List Stmt}{wi:TI}{g:TG}{tb:TS}{pos:Pos}(hp:PassesOwn (model X.prog X.w) X.A X.env X.xe)(hc:X.calm=true)(hi:PI X tg iter wi)(hg:PG X tg g)(hb:PSs X body tb)
  (hs:∀x,foldedSetIterable iter X.env x=pure x:=by intro _;rfl):PS X (.For tg iter body [] pos) (ajd wi g tb):=by
 intro pins s σ H D I h;refine wpAny_For (thn (hi pins s σ H _ I h) fun v s1 h1=>thn h1 fun itv s2 h2 => ?_) hs;obtain⟨it,fp,tn,J,H2,e,I2,T,st2,f2,W,⟨m0,w0⟩,turn⟩:=h2;subst e;have stat:∀{H':Hp},(∀b∈fp,H' b=none)→∀b∈fp,p9 X pins H' b:=fun hn b hb=>⟨hn b hb,(f2 b hb).2⟩;refine codeAny_forLoop_any (fun n s'=>∃i σ' H',Inv X pins σ' H' s'∧tn i s'.heap∧(∀b∈fp,H' b=none)∧W i n σ' H') ?_ m0 ⟨0,σ,H2,I2,st2,fun b hb=>(f2 b hb).1,w0⟩;rintro n s3 ⟨i,σ3,H3,I3,st3,fr3,w3⟩;rcases turn i n σ3 H3 w3 with⟨stop,qn⟩|⟨go,N,hN,step⟩
 ·refine wpAny_passesOwn hp (thn (T.done X rfl rfl rfl hc i pins s3 σ3 H3 X.xe I3 (stat fr3) st3 stop) fun r s4 ⟨hr,I4⟩ => ?_)
  subst hr;exact wpAny_execs_nil ⟨σ3,H3,I4,qn⟩
 ·refine wpAny_passesOwn hp (thn (T.item X rfl rfl rfl hc i pins s3 σ3 H3 X.xe I3 (stat fr3) st3 go) fun r s4 ⟨u,hr,h4⟩ => ?_)
  subst hr;refine wpAny_passesOwn hp (thn h4 fun _ s5 ⟨x,H5,I5,r5,y5,st5,fr5⟩ => ?_);have I5':=I5.pinned (stat fr5) (T.obj _ _ st5);refine wpAny_passesOwn hp (thn (hg _ s5 σ3 H5 x u _ I5' r5 (step x H5 y5)) fun _ s6 ⟨σ6,H6,I6,q6⟩ => ?_);refine wpAny_passesOwn hp (thn (hb _ s6 σ6 H6 _ I6 q6) fun f s7 q7 => ?_);have again:∀{σ7:St} {H7:Hp},Inv X (pins++qu fp s5.heap) σ7 H7 s7→N σ7 H7→∃m,m<n∧∃i σ' H',Inv X pins σ' H' s7∧tn i s7.heap∧(∀b∈fp,H' b=none)∧W i m σ' H':=fun{σ7 H7} I7 n7=>by
   obtain⟨m',hm,w7⟩:=hN σ7 H7 n7;refine⟨m',hm,i+1,σ7,H7,I7.lF,T.keep _ _ _ st5 fun b hb o e=>(I7.pin (b,o) (AL _ (AL _ (j7 hb e)))).1,fun b hb => ?_,w7⟩;obtain⟨o,e,d⟩:=T.obj _ _ st5 b hb;exact(I7.pin (b,o) (AL _ (AL _ (j7 hb e)))).2.1
  cases f with
  | next=>obtain⟨σ7,H7,I7,n7⟩:=q7;exact again I7 n7
  | cont=>obtain⟨σ7,H7,I7,n7⟩:=q7;exact again I7 n7
  | brk=>obtain⟨σ7,H7,I7,q7⟩:=q7;exact⟨σ7,H7,I7.lF,q7⟩
  | ret v=>obtain⟨x7,σ7,H7,I7,r7,q7⟩:=q7;exact⟨x7,σ7,H7,I7.lF,r7,q7⟩
end
theorem dE{K:DG}{a:Addr}{xs:List V}{g:TG}{tb:TS}{D:Ends}{σ:St}{H:Hp}(Pv:Nat→St→Hp→Prop)(h0:Pv 0 σ H)(hl:∀i σ H,i≤xs.length→Pv i σ H→SqL K H a xs)
  (hs:∀i x σ H,xs[i]? = some x→Pv i σ H→g x σ H fun σ2 H2=>tb { D with nx:=Pv (i+1),ct:=Pv (i+1),bk:=D.nx } σ2 H2) (hd:∀σ H,Pv xs.length σ H→D.nx σ H) :
  ∃W:Nat→Nat→St→Hp→Prop,(∃m,W 0 m σ H)∧∀i m σ H,W i m σ H →
   ((Itl K a).stop i H∧D.nx σ H)∨((Itl K a).go i H∧∃N:St→Hp→Prop,(∀σ' H',N σ' H'→∃m',m'<m∧W (i+1) m' σ' H')∧∀x H',(Itl K a).yld i H x H'→g x σ H' fun σ2 H2=>tb { D with nx:=N,ct:=N,bk:=D.nx } σ2 H2):=by
 refine⟨fun i m σ H=>m=xs.length-i∧i≤xs.length∧Pv i σ H,⟨xs.length,by simp,Av _,h0⟩,?_⟩;rintro i m σ H ⟨rfl,hi,p⟩;have q:=hl i σ H hi p
 by_cases hlt:i<xs.length
 ·refine .inr ⟨⟨xs,xs[i],q,by simp[hlt]⟩,Pv (i+1),fun σ' H' p'=>⟨xs.length-(i+1),by omega,rfl,hlt,p'⟩,fun x H' y => ?_⟩
  obtain⟨e,y⟩:=y;subst e;exact hs i x σ _ (y xs q) p
 ·have e:i=xs.length:=by omega
  subst e;exact .inl ⟨⟨xs,q,Ae _⟩,hd σ H p⟩
theorem sJ{K:DG}{a:Addr}{xs:List V}{g:TG}{tb:TS}{D:Ends}{σ:St}{H:Hp}(Pv:Nat→St→Hp→Prop)(h0:Pv 0 σ H)(hl:∀i σ H,i≤xs.length→Pv i σ H→SqT K H a xs)
  (hs:∀i x σ H,xs[i]? = some x→Pv i σ H→g x σ H fun σ2 H2=>tb { D with nx:=Pv (i+1),ct:=Pv (i+1),bk:=D.nx } σ2 H2) (hd:∀σ H,Pv xs.length σ H→D.nx σ H) :
  ∃W:Nat→Nat→St→Hp→Prop,(∃m,W 0 m σ H)∧∀i m σ H,W i m σ H →
   ((Itt K a).stop i H∧D.nx σ H)∨((Itt K a).go i H∧∃N:St→Hp→Prop,(∀σ' H',N σ' H'→∃m',m'<m∧W (i+1) m' σ' H')∧∀x H',(Itt K a).yld i H x H'→g x σ H' fun σ2 H2=>tb { D with nx:=N,ct:=N,bk:=D.nx } σ2 H2):=by
 refine⟨fun i m σ H=>m=xs.length-i∧i≤xs.length∧Pv i σ H,⟨xs.length,by simp,Av _,h0⟩,?_⟩;rintro i m σ H ⟨rfl,hi,p⟩;have q:=hl i σ H hi p
 by_cases hlt:i<xs.length
 ·refine .inr ⟨⟨xs,xs[i],q,by simp[hlt]⟩,Pv (i+1),fun σ' H' p'=>⟨xs.length-(i+1),by omega,rfl,hlt,p'⟩,fun x H' y => ?_⟩
  obtain⟨e,y⟩:=y;subst e;exact hs i x σ _ (y xs q) p
 ·have e:i=xs.length:=by omega
  subst e;exact .inl ⟨⟨xs,q,Ae _⟩,hd σ H p⟩
theorem mv{lo:Int}{n:Nat}{g:TG}{tb:TS}{D:Ends}{σ:St}{H:Hp}(Pv:Nat→St→Hp→Prop)(h0:Pv 0 σ H)
  (hs:∀i σ H,i<n→Pv i σ H→g (.int (lo+i)) σ H fun σ2 H2=>tb { D with nx:=Pv (i+1),ct:=Pv (i+1),bk:=D.nx } σ2 H2) (hd:∀σ H,Pv n σ H→D.nx σ H) :
  ∃W:Nat→Nat→St→Hp→Prop,(∃m,W 0 m σ H)∧∀i m σ H,W i m σ H →
   ((Itr lo n).stop i H∧D.nx σ H)∨((Itr lo n).go i H∧∃N:St→Hp→Prop,(∀σ' H',N σ' H'→∃m',m'<m∧W (i+1) m' σ' H')∧∀x H',(Itr lo n).yld i H x H'→g x σ H' fun σ2 H2=>tb { D with nx:=N,ct:=N,bk:=D.nx } σ2 H2):=by
 refine⟨fun i m σ H=>m=n-i∧i≤n∧Pv i σ H,⟨n,by simp,Av _,h0⟩,?_⟩;rintro i m σ H ⟨rfl,hi,p⟩
 by_cases hlt:i<n
 ·refine .inr ⟨hlt,Pv (i+1),fun σ' H' p'=>⟨n-(i+1),by omega,rfl,hlt,p'⟩,fun x H' y => ?_⟩
  obtain⟨e,y⟩:=y;subst e y;exact hs i σ _ hlt p
 ·have e:i=n:=by omega
  subst e;exact .inl ⟨Ae _,hd σ H p⟩
theorem pC{c:TT}{tb:TS}{D:Ends}{σ:St}{H:Hp}(Pv:St→Hp→Prop)(μ:St→Hp→Nat)(h0:Pv σ H)
  (hs:∀σ H,Pv σ H→c σ H fun b H1=>if b=true then tb { D with nx:=fun σ' H'=>Pv σ' H'∧μ σ' H'<μ σ H,ct:=fun σ' H'=>Pv σ' H'∧μ σ' H'<μ σ H,bk:=D.nx } σ H1 else D.nx σ H1)
  (mono:∀σ H Q Q',(∀b H1,Q b H1→Q' b H1)→c σ H Q→c σ H Q'):acj c tb D σ H:=by
 refine⟨fun m σ H=>m=μ σ H∧Pv σ H,⟨_,rfl,h0⟩,?_⟩;rintro m σ H ⟨rfl,p⟩;refine mono σ H _ _ (fun b H1 q => ?_) (hs σ H p);cases b with
 | true=>exact⟨_,fun σ' H' ⟨p',l⟩=>⟨_,l,rfl,p'⟩,q⟩
 | false=>exact q
abbrev R2:=V→V→Hp→VK→Prop
def OpR(X:Cx)(f:Value→Value→Sem Value)(r:R2):Prop :=
 ∀(pins:List (Addr×Obj)) (s:Shared) (σ:St) (H:Hp) (x y:V) (v u:Value) (Q:VK),Inv X pins σ H s→RelV x v→RelV y u→r x y H Q →
  wpAny (model X.prog X.w) X.A (f v u) (EP X pins σ Q) X.xe s
def UnR(X:Cx)(f:Value→Sem Value)(r:V→Hp→VK→Prop):Prop :=
 ∀(pins:List (Addr×Obj)) (s:Shared) (σ:St) (H:Hp) (x:V) (v:Value) (Q:VK),Inv X pins σ H s→RelV x v→r x H Q →
  wpAny (model X.prog X.w) X.A (f v) (EP X pins σ Q) X.xe s
def nD(X:Cx)(f:Value)(r:List V→Hp→VK→Prop):Prop :=
 ∀(pins:List (Addr×Obj)) (s:Shared) (σ:St) (H:Hp) (xs:List V) (us:List Value) (Q:VK),Inv X pins σ H s→Vals xs us→r xs H Q →
  wpAny (model X.prog X.w) X.A (call f us) (EP X pins σ Q) X.xe s
def ai5(X:Cx)(r:V→Hp→(Bool→Hp→Prop)→Prop):Prop :=
 ∀(pins:List (Addr×Obj)) (s:Shared) (σ:St) (H:Hp) (x:V) (v:Value) (Q:Bool→Hp→Prop),Inv X pins σ H s→RelV x v→r x H Q →
  wpAny (model X.prog X.w) X.A (truthy v) (TP X pins σ Q) X.xe s
def tOp(r:R2)(ta tb:TE):TE:=fun σ H Q=>ta σ H fun x H1=>tb σ H1 fun y H2=>r x y H2 Q
def tUn(r:V→Hp→VK→Prop)(ta:TE):TE:=fun σ H Q=>ta σ H fun x H1=>r x H1 Q
inductive RI1(C:Int→Int→Prop)(g:Int→Int→V)(x y:V)(H:Hp)(Q:VK):Prop
 | mk (i j:Int) (h1:x=.int i) (h2:y=.int j) (h3:C i j) (q:Q (g i j) H):RI1 C g x y H Q
def rI(C:Int→Int→Prop)(g:Int→Int→V):R2:=fun x y H Q=>RI1 C g x y H Q
inductive RI2(g:Int→Int→V)(x y:V)(H:Hp)(Q:VK):Prop
 | mk (i j:Int) (h1:x=.int i) (h2:y=.int j) (q:Q (g i j) H):RI2 g x y H Q
def rI0(g:Int→Int→V):R2:=fun x y H Q=>RI2 g x y H Q
inductive rU(g:Int→V):V→Hp→VK→Prop
 | mk {x H Q} (i:Int) (h:x=.int i) (q:Q (g i) H):rU g x H Q
section
variable {X:Cx}{a b c:Expr}{ta tb tc:TE}{pos:Pos}
theorem ahM(ha:PE X a ta)(hb:PE X b tb){pins:List (Addr×Obj)}{s:Shared}{σ:St}{H:Hp}{R:V→V→Hp→Prop}(I:Inv X pins σ H s)
  (h:ta σ H fun x H1=>tb σ H1 fun y H2=>R x y H2) {Q:Value→Shared→Prop} {f:Value→Value→Sem Value}
  (hf:∀v u s2 x y H2,Inv X pins σ H2 s2→RelV x v→RelV y u→R x y H2→wpAny (model X.prog X.w) X.A (f v u) Q X.xe s2) :
  wpAny (model X.prog X.w) X.A (eval a X.env) (fun v s₁=>wpAny (model X.prog X.w) X.A (eval b X.env) (fun u s₂=>wpAny (model X.prog X.w) X.A (f v u) Q X.xe s₂) X.xe s₁) X.xe s:=by
 refine thn (ha pins s σ H _ I h) fun v s1 ⟨x,H1,I1,r1,q1⟩ => ?_;refine thn (hb pins s1 σ H1 _ I1 q1) fun u s2 ⟨y,H2,I2,r2,q2⟩ => ?_;exact hf v u s2 x y H2 I2 r1 r2 q2
theorem aP{op:Operator}{r:R2}(ho:OpR X (binaryOp op) r)(ha:PE X a ta)(hb:PE X b tb):PE X (.BinOp a op b pos) (tOp r ta tb):=by
 intro pins s σ H Q I h;exact wpAny_BinOp (ahM ha hb I h fun v u s2 x y H2 I2 rx ry q=>ho pins s2 σ H2 x y v u Q I2 rx ry q)
theorem wO{op:UnaryOp}{r:V→Hp→VK→Prop}(ho:UnR X (unaryOp op) r)(ha:PE X a ta):PE X (.UnaryOp op a pos) (tUn r ta):=by
 intro pins s σ H Q I h;exact UnaryOp_ (thn (ha pins s σ H _ I h) fun v s1 ⟨x,H1,I1,r1,q1⟩=>ho pins s1 σ H1 x v Q I1 r1 q1)
theorem opI{f:Value→Value→Sem Value}{C:Int→Int→Prop}{g:Int→Int→Int}
  (rule:∀(i j:Int) (t u:Tok) (s:Shared) (Q:Value→Shared→Prop) (E:Value→Shared→Prop),C i j→Q (.int (g i j) s.toks) { s with toks:=s.toks+1 }→wpAny (model X.prog X.w) X.A (f (.int i t) (.int j u)) Q E s) :
  OpR X f (rI C fun i j=>.int (g i j)):=by
 intro pins s σ H x y v u Q I rx ry h;obtain⟨i,j,rfl,rfl,hc,q⟩:=h;obtain⟨t,rfl⟩:=rx;obtain⟨t',rfl⟩:=ry;exact rule i j t t' s _ _ hc ⟨.int (g i j),H,I.tok _,⟨_,rfl⟩,q⟩
theorem ait{f:Value→Value→Sem Value}{g:Int→Int→Int}
  (rule:∀(i j:Int) (t u:Tok) (s:Shared) (Q:Value→Shared→Prop) (E:Value→Shared→Prop),Q (.int (g i j) s.toks) { s with toks:=s.toks+1 }→wpAny (model X.prog X.w) X.A (f (.int i t) (.int j u)) Q E s) :
  OpR X f (rI0 fun i j=>.int (g i j)):=by
 intro pins s σ H x y v u Q I rx ry h;obtain⟨i,j,rfl,rfl,q⟩:=h;obtain⟨t,rfl⟩:=rx;obtain⟨t',rfl⟩:=ry;exact rule i j t t' s _ _ ⟨.int (g i j),H,I.tok _,⟨_,rfl⟩,q⟩
theorem ag1{f:Value→Value→Sem Value}{g:Int→Int→Bool}
  (rule:∀(i j:Int) (t u:Tok) (s:Shared) (Q:Value→Shared→Prop) (E:Value→Shared→Prop),Q (.bool (g i j)) s→wpAny (model X.prog X.w) X.A (f (.int i t) (.int j u)) Q E s) :
  OpR X f (rI0 fun i j=>.bl (g i j)):=by
 intro pins s σ H x y v u Q I rx ry h;obtain⟨i,j,rfl,rfl,q⟩:=h;obtain⟨t,rfl⟩:=rx;obtain⟨t',rfl⟩:=ry;exact rule i j t t' s _ _ ⟨.bl (g i j),H,I,rfl,q⟩
def wD(i j:Int):Prop:=(-(2 ^ 64)<i∧i<2 ^ 64)∨(-(2 ^ 64)<j∧j<2 ^ 64)
theorem wD.ok{i j:Int}(h:wD i j):IntMulOk i j:=by
 rcases h with⟨h1,h2⟩|⟨h1,h2⟩
 ·exact .of_left (intBits_le_64 h1 h2)
 ·exact .of_right (intBits_le_64 h1 h2)
theorem aT:OpR X (binaryOp .Add) (rI0 fun i j=>.int (i+j)):=ait fun _ _ _ _ _ _ _ q=>add_int q
theorem dX:OpR X (binaryOp .Sub) (rI0 fun i j=>.int (i-j)):=ait fun _ _ _ _ _ _ _ q=>sub_int q
theorem dr:OpR X (binaryOp .Mult) (rI wD fun i j=>.int (i*j)):=opI fun _ _ _ _ _ _ _ hc q=>mul_int q hc.ok
theorem unI{f:Value→Sem Value}{g:Int→Int}
  (rule:∀(i:Int) (t:Tok) (s:Shared) (Q:Value→Shared→Prop) (E:Value→Shared→Prop),Q (.int (g i) s.toks) { s with toks:=s.toks+1 }→wpAny (model X.prog X.w) X.A (f (.int i t)) Q E s) :
  UnR X f (rU fun i=>.int (g i)):=by
 intro pins s σ H x v Q I rx h;obtain⟨i,rfl,q⟩:=h;obtain⟨t,rfl⟩:=rx;exact rule i t s _ _ ⟨.int (g i),H,I.tok _,⟨_,rfl⟩,q⟩
theorem rH:UnR X (unaryOp .USub) (rU fun i=>.int (-i)):=unI fun _ _ _ _ _ q=>neg_int q
end
def aiF:V→V→Bool
 | .non,.non=>true|.non,.int _=>true|.int _,.non=>true|.non,.bl _=>true|.bl _,.non=>true|.non,.str _=>true|.str _,.non=>true
 | .int _,.int _=>true|.bl _,.bl _=>true|.str _,.str _=>true|.byt _,.byt _=>true
 | .int _,.str _=>true|.str _,.int _=>true|.bl _,.str _=>true|.str _,.bl _=>true
 | _,_=>false
def rEq:R2:=fun x y H Q=>aiF x y=true∧Q (.bl (decide (x=y))) H
def rNe:R2:=fun x y H Q=>aiF x y=true∧Q (.bl (!decide (x=y))) H
theorem ka{i j:Int}:decide (V.int i=V.int j)=(i==j):=by
 rw[AM];simp
theorem xI{i j:Bool}:decide (V.bl i=V.bl j)=(i==j):=by
 rw[AM];simp
theorem zM{i j:Str}:decide (V.str i=V.str j)=(i==j):=by
 rw[AM];simp
theorem zg{i j:Array UInt8}:decide (V.byt i=V.byt j)=(i.toList==j.toList):=by
 rw[AM];cases i
 cases j
 simp
section
variable {X:Cx}{a b c:Expr}{ta tb tc:TE}{pos:Pos}
theorem bt{pins:List (Addr×Obj)}{σ:St}{H:Hp}{s:Shared}{Q:VK}{k k':Bool}(I:Inv X pins σ H s)(q:Q (.bl k) H)(e:k=k'):EP X pins σ Q (.bool k') s:=by
 subst e;exact⟨.bl k,H,I,rfl,q⟩
theorem adl:OpR X (compareOp .Eq) rEq:=by
 intro pins s σ H x y v u Q I rx ry h;obtain⟨hs,q⟩:=h;cases x with
 | non =>
  cases rx
  cases y with
  | non=>cases ry;exact PySem.EqNone.eq_none_none (bt I q (by simp))
  | bl j=>cases ry;exact PySem.EqNone.eq_none_bool (bt I q (by simp))
  | int j=>obtain⟨t',rfl⟩:=ry;exact PySem.EqNone.eq_none_int (bt I q (by simp))
  | str j=>obtain⟨t',rfl⟩:=ry;exact PySem.EqNone.eq_none_str (bt I q (by simp))
  | _=>exact absurd (show false=true from hs) Az
 | bl i =>
  cases rx
  cases y with
  | non=>cases ry;exact PySem.EqNone.eq_bool_none (bt I q (by simp))
  | bl j=>cases ry;exact eq_bool (bt I q xI)
  | str j=>obtain⟨t',rfl⟩:=ry;exact PySem.EqMixed.eq_bool_str (bt I q (by simp))
  | _=>exact absurd (show false=true from hs) Az
 | int i =>
  obtain⟨t,rfl⟩:=rx;cases y with
  | non=>cases ry;exact PySem.EqNone.eq_int_none (bt I q (by simp))
  | int j=>obtain⟨t',rfl⟩:=ry;exact eq_int (bt I q ka)
  | str j=>obtain⟨t',rfl⟩:=ry;exact PySem.EqMixed.eq_int_str (bt I q (by simp))
  | _=>exact absurd (show false=true from hs) Az
 | str i =>
  obtain⟨t,rfl⟩:=rx;cases y with
  | non=>cases ry;exact PySem.EqNone.eq_str_none (bt I q (by simp))
  | bl j=>cases ry;exact PySem.EqMixed.eq_str_bool (bt I q (by simp))
  | int j=>obtain⟨t',rfl⟩:=ry;exact PySem.EqMixed.eq_str_int (bt I q (by simp))
  | str j=>obtain⟨t',rfl⟩:=ry;exact eq_str (bt I q zM)
  | _=>exact absurd (show false=true from hs) Az
 | byt i =>
  obtain⟨t,rfl⟩:=rx;cases y with
  | byt j=>obtain⟨t',rfl⟩:=ry;exact PySem.W.eq_bytes (bt I q zg)
  | _=>exact absurd (show false=true from hs) Az
 | _=>cases y <;> exact absurd (show false=true from hs) Az
theorem ahu:OpR X (compareOp .NotEq) rNe:=by
 intro pins s σ H x y v u Q I rx ry h;obtain⟨hs,q⟩:=h;cases x with
 | non =>
  cases rx
  cases y with
  | non=>cases ry;exact PySem.EqNone.ne_none_none (bt I q (by simp))
  | bl j=>cases ry;exact PySem.EqNone.ne_none_bool (bt I q (by simp))
  | int j=>obtain⟨t',rfl⟩:=ry;exact PySem.EqNone.ne_none_int (bt I q (by simp))
  | str j=>obtain⟨t',rfl⟩:=ry;exact PySem.EqNone.ne_none_str (bt I q (by simp))
  | _=>exact absurd (show false=true from hs) Az
 | bl i =>
  cases rx
  cases y with
  | non=>cases ry;exact PySem.EqNone.ne_bool_none (bt I q (by simp))
  | bl j=>cases ry;exact ne_bool (bt I q (congrArg not xI))
  | str j=>obtain⟨t',rfl⟩:=ry;exact PySem.EqMixed.ne_bool_str (bt I q (by simp))
  | _=>exact absurd (show false=true from hs) Az
 | int i =>
  obtain⟨t,rfl⟩:=rx;cases y with
  | non=>cases ry;exact PySem.EqNone.ne_int_none (bt I q (by simp))
  | int j=>obtain⟨t',rfl⟩:=ry;exact ne_int (bt I q (congrArg not ka))
  | str j=>obtain⟨t',rfl⟩:=ry;exact PySem.EqMixed.ne_int_str (bt I q (by simp))
  | _=>exact absurd (show false=true from hs) Az
 | str i =>
  obtain⟨t,rfl⟩:=rx;cases y with
  | non=>cases ry;exact PySem.EqNone.ne_str_none (bt I q (by simp))
  | bl j=>cases ry;exact PySem.EqMixed.ne_str_bool (bt I q (by simp))
  | int j=>obtain⟨t',rfl⟩:=ry;exact PySem.EqMixed.ne_str_int (bt I q (by simp))
  | str j=>obtain⟨t',rfl⟩:=ry;exact ne_str (bt I q (congrArg not zM))
  | _=>exact absurd (show false=true from hs) Az
 | byt i =>
  obtain⟨t,rfl⟩:=rx;cases y with
  | byt j=>obtain⟨t',rfl⟩:=ry;exact PySem.W.ne_bytes (bt I q (congrArg not zg))
  | _=>exact absurd (show false=true from hs) Az
 | _=>cases y <;> exact absurd (show false=true from hs) Az
theorem vH:OpR X (compareOp .Lt) (rI0 fun i j=>.bl (decide (i<j))):=ag1 fun _ _ _ _ _ _ _ q=>lt_int q
theorem pT:OpR X (compareOp .LtE) (rI0 fun i j=>.bl (decide (i≤j))):=ag1 fun _ _ _ _ _ _ _ q=>le_int q
theorem lD:OpR X (compareOp .Gt) (rI0 fun i j=>.bl (decide (j<i))):=ag1 fun _ _ _ _ _ _ _ q=>gt_int q
theorem agb:OpR X (compareOp .GtE) (rI0 fun i j=>.bl (decide (j≤i))):=ag1 fun _ _ _ _ _ _ _ q=>ge_int q
theorem a8(b:Expr){op:CmpOp}(h:op≠.In:=by decide)(h2:op≠.NotIn:=by decide):behindInMarks op b=false:=by
 have e1:(op==CmpOp.In)=false:=by cases op <;> first|rfl|exact absurd rfl h
 have e2:(op==CmpOp.NotIn)=false:=by cases op <;> first|rfl|exact absurd rfl h2
 cases b <;> simp[behindInMarks,e1,e2]
theorem aX{op:CmpOp}{r:R2}(ho:OpR X (compareOp op) r)(ha:PE X a ta)(hb:PE X b tb)(hm:behindInMarks op b=false):PE X (.Compare a [op] [b] pos) (tOp r ta tb):=by
 intro pins s σ H Q I h;exact wpAny_Compare1 (ahM ha hb I h fun v u s2 x y H2 I2 rx ry q=>ho pins s2 σ H2 x y v u Q I2 rx ry q) hm
def vY(t:TE):TT:=fun σ H Q=>t σ H fun x H'=>TBl x H' Q
theorem gn{op:CmpOp}{r:R2}(ho:OpR X (compareOp op) r)(ha:PE X a ta)(hb:PE X b tb)(hm:behindInMarks op b=false):PT X (.Compare a [op] [b] pos) (vY (tOp r ta tb)):=by
 intro pins s σ H Q I h;refine wpAny_isTrue_Compare1 (thn (ha pins s σ H _ I h) fun v s1 ⟨x,H1,I1,r1,q1⟩=>thn (hb pins s1 σ H1 _ I1 q1) fun u s2 ⟨y,H2,I2,r2,q2⟩ =>
  thn (ho pins s2 σ H2 x y v u _ I2 r1 r2 q2) fun c s3 ⟨z,H3,I3,r3,k,e,q3⟩ => ?_) hm
 subst e;cases r3
 exact wpAny_truthy_bool ⟨H3,I3,q3⟩
def aiV(K:DG)(x:V)(H:Hp)(k:Bool):Prop :=
 match x with
 | .non=>k=false
 | .bl b=>k=b
 | .int i=>k=(i != 0)
 | .str y=>y.length≤sizeLine∧k=((y.length:Int) != 0)
 | .byt y=>y.size≤sizeLine∧k=((y.size:Int) != 0)
 | .ref p=>(∃xs,SqL K H p xs∧k = !xs.isEmpty)∨(∃xs,SqT K H p xs∧k = !xs.isEmpty)∨∃kvs,H p=some (.dK kvs)∧k = !kvs.isEmpty
 | _=>False
theorem vP{κ:Type}{kvs:List (κ×V)}{vs:List (κ×Value)}(r:KV kvs vs):(!vs.isEmpty) = !kvs.isEmpty:=by
 cases r <;> rfl
theorem oq{xs:List V}{its:List Value}(r:Vals xs its):(!its.toArray.isEmpty) = !xs.isEmpty:=by
 cases r <;> simp
theorem u7:(sizeLine:Nat)<2 ^ 63:=by rw[sizeLine_eq];decide
inductive ahn(K:DG)(x:V)(H:Hp)(Q:Bool→Hp→Prop):Prop
 | mk (k:Bool) (h:aiV K x H k) (q:Q k H):ahn K x H Q
theorem afj:ai5 X (fun x H Q=>ahn X.K x H Q):=by
 intro pins s σ H x v Q I rx h;obtain⟨k,e,q⟩:=h;have hl:=u7;have hs:sizeLine=16777216:=sizeLine_eq;cases x with
 | non =>
  cases rx
  have e':k=false:=e;subst e';exact truthy_none ⟨H,I,q⟩
 | bl b =>
  cases rx
  have e':k=b:=e;subst e';exact wpAny_truthy_bool ⟨H,I,q⟩
 | int i =>
  obtain⟨t,rfl⟩:=rx;have e':k=(i != 0):=e;subst e';exact PySem.P.truthy_int ⟨H,I,q⟩
 | str y =>
  obtain⟨t,rfl⟩:=rx;obtain⟨hy,e'⟩:y.length≤sizeLine∧k=((y.length:Int) != 0):=e;subst e';exact PySem.P.truthy_str (by omega) ⟨H,I.tok _,q⟩
 | byt y =>
  obtain⟨t,rfl⟩:=rx;obtain⟨hy,e'⟩:y.size≤sizeLine∧k=((y.size:Int) != 0):=e;subst e';exact PySem.W.truthy_bytes (by omega) ⟨H,I.tok _,q⟩
 | ref p =>
  cases rx
  have e':(∃xs,SqL X.K H p xs∧k = !xs.isEmpty)∨(∃xs,SqT X.K H p xs∧k = !xs.isEmpty)∨∃kvs,H p=some (.dK kvs)∧k = !kvs.isEmpty:=e;rcases e' with⟨xs,hx,e'⟩|⟨xs,hx,e'⟩|⟨kvs,hx,e'⟩
  ·subst e'
   obtain⟨its,r,pl,hz⟩:=I.list hx;have hlen:=r.length;exact wpAny_truthy_list pl.isList (by simp only[Ay];omega) ⟨H,I.tok _,by rw[oq r];exact q⟩
  ·subst e'
   obtain⟨its,r,pl,hz⟩:=I.tuple hx;have hlen:=r.length;exact truthy_tuple pl (by simp only[Ay];omega) ⟨H,I.tok _,by rw[oq r];exact q⟩
  ·subst e'
   obtain⟨hz,hS,vs,r,m⟩:kvs.length≤sizeLine∧(p==sysModules)=false∧∃vs,KV kvs vs∧s.heap.DictOf (bR X.prog X.w) p vs:=I.hok p _ hx;have hlen:kvs.length=vs.length:=Paired.length r;exact wpAny_truthy_dict hS m (by omega) ⟨H,I.tok _,by rw[vP r];exact q⟩
 | _=>exact(show False from e).elim
theorem aS(ha:PE X a ta)(he:∀whole,isTrue a X.env whole=(do let v ← whole;standAt a.pos;holding [v] (truthy v))) :
  PT X a (fun σ H Q=>ta σ H fun x H'=>ahn X.K x H' Q):=by
 intro pins s σ H Q I h;exact isTrue_plain (thn (ha pins s σ H _ I h) fun v s1 ⟨x,H1,I1,r1,q1⟩=>afj pins s1 σ H1 x v Q I1 r1 q1) (he _)
theorem vals1{x:V}{us:List Value}(r:Vals [x] us):∃u,us=[u]∧RelV x u:=by
 cases r with
 | cons r1 r2=>cases r2;exact⟨_,rfl,r1⟩
theorem vals2{x y:V}{us:List Value}(r:Vals [x,y] us):∃u w',us=[u,w']∧RelV x u∧RelV y w':=by
 cases r with
 | cons r1 r2 =>
  cases r2 with
  | cons r3 r4=>cases r4;exact⟨_,_,rfl,r1,r3⟩
theorem xV(hc:X.calm=true):nD X (.builtin "max") (fun xs H Q=>∃i j,xs=[.int i,.int j]∧Q (.int (if j>i then j else i)) H):=by
 intro pins s σ H xs us Q I r h;obtain⟨i,j,rfl,q⟩:=h;obtain⟨u,w',rfl,⟨t,rfl⟩,⟨t',rfl⟩⟩:=vals2 r;refine max_two_ints (I.ok.hd hc) fun h' tk k=>⟨_,H,I.kept k,?_,q⟩
 by_cases hj:j>i
 ·rw[Ag hj,Ag hj];exact⟨_,rfl⟩
 ·rw[Ad hj,Ad hj];exact⟨_,rfl⟩
theorem zO(hc:X.calm=true):nD X (.builtin "min") (fun xs H Q=>∃i j,xs=[.int i,.int j]∧Q (.int (if j<i then j else i)) H):=by
 intro pins s σ H xs us Q I r h;obtain⟨i,j,rfl,q⟩:=h;obtain⟨u,w',rfl,⟨t,rfl⟩,⟨t',rfl⟩⟩:=vals2 r;refine min_two_ints (I.ok.hd hc) fun h' tk k=>⟨_,H,I.kept k,?_,q⟩
 by_cases hj:j<i
 ·rw[Ag hj,Ag hj];exact⟨_,rfl⟩
 ·rw[Ad hj,Ad hj];exact⟨_,rfl⟩
end
structure adN(h:Heap)(x dx C:Addr)(mA:Str→Option Value):Prop where
 obj:h.get? x=some (PySem.W.instObj C dx)
 ns:h.Ns1 dx mA
 ne:dx≠x
theorem zW{h:Heap}{dx:Addr}{mA:Str→Option Value}(n:h.Ns1 dx mA):∃od,h.get? dx=some od∧∀name,PySem.W.lookIn name od=some (mA name):=by
 obtain⟨o,es,ep,ho,hd,hk,_,hm⟩:=n;refine⟨o,ho,fun name => ?_⟩;have e:=hm name;unfold nsFind findBy at e;rw[← Array.find?_toList] at e;unfold PySem.W.lookIn;rw[hd];dsimp only
 split
 ·rename_i y q
  rw[q] at e;exact congrArg some e
 ·rename_i q
  rw[q] at e;have a:es.toList.any (·.refKey)=false:=by
   rw[BV];intro y hy;obtain⟨z,t,hkey⟩:=hk y (Array.mem_toList_iff.mp hy);simp[DictEntry.refKey,hkey]
  have a':¬es.toList.any (·.refKey)=true:=by rw[a];exact Az
  rw[Ad a'];exact congrArg some e
theorem adN.look{h:Heap}{x dx C:Addr}{mA:Str→Option Value}(I:adN h x dx C mA):∃od,PySem.W.InstAt h x (PySem.W.instObj C dx) C (some od)∧∀name,PySem.W.lookIn name od=some (mA name) :=
 let ⟨od,ho,hl⟩:=zW I.ns
 ⟨od,⟨I.obj,rfl,rfl,ho⟩,hl⟩
section
variable {prog:Program}{w:World}{A:Around}{E:Value→Shared→Prop}{s:Shared}{K:DG}{x dx C f:Addr}{mA:Str→Option Value}{name:Str}{v:Value}
theorem get_map{expr:Bool}{Q:Value→Shared→Prop}(X:K.In s.heap)(I:adN s.heap x dx C mA)(hg:PySem.W.plainGet K C name=true)(hh:PySem.W.hasDictIn K C=true)
  (ha:PySem.W.findIn K (.ref C) name=some none) (hv:mA name=some v) (hv':PySem.W.handedIn v=true) (h:Q v { s with toks:=s.toks+1 }) :
  wpAny (model prog w) A (getAttr (.ref x) name expr) Q E s:=by
 obtain⟨od,J,hl⟩:=I.look;exact PySem.W.get_value X J (PySem.W.plainGet_of hg).1 (PySem.W.findObj_own hh ha rfl (by rw[hl,hv])) hv' h
theorem abt{pl:Sem Bool}{Q:Value×List Value→Shared→Prop}(X:K.In s.heap)(I:adN s.heap x dx C mA)(hg:PySem.W.plainGet K C name=true)
  (hf:PySem.W.findIn K (.ref C) name=some (some (.ref f))) (ht:PySem.W.isFn K (.ref f)=true) (hv:mA name=none) (h:Q (.ref f,[.ref x]) s) :
  wpAny (model prog w) A (getMethod (.ref x) name pl) Q E s:=by
 obtain⟨od,J,hl⟩:=I.look;exact PySem.W.method_fn X J (PySem.W.plainGet_of hg).1 (PySem.W.plainGet_of hg).2 hf (beq_iff_eq.mp ht) (by show(PySem.W.lookIn name od).map (·.isSome)=some false;rw[hl,hv];rfl) h
theorem ady{ns:List Str}{Q:Unit→Shared→Prop}(X:K.In s.heap)(I:adN s.heap x dx C mA)
  (hs:PySem.W.findIn K (.ref C) "__setattr__" = some (some (.builtin "object.__setattr__"))) (hp:PySem.W.plainOver K C=true) (ht:PySem.W.takerIn K C name=some none) (hh:PySem.W.hasDictIn K C=true)
  (hw:PySem.Within mA ns) (hsz:ns.length≤sizeLine)
  (h:∀h',adN h' x dx C (fun y=>if y=name then some v else mA y)→Heap.SameBut dx s.heap h'→Q () { s with heap:=h',toks:=s.toks+2 }) :
  wpAny (model prog w) A (setAttr (.ref x) name v) Q E s:=by
 obtain⟨od,J,hl⟩:=I.look;refine PySem.W.set_plain X J hs (PySem.W.osa_open (s:={ s with toks:=s.toks+1 }) (r:=none) X J hp ht fun b => ?_);obtain⟨cd,hc,hd'⟩:=PySem.W.any_some hh;have hx:s.heap.get? x=some ⟨.ref C,some dx,.plain,#[]⟩:=I.obj;refine wpAny_bind (wpAny_pure (wpAny_bind (wpAny_bind (wpAny_loadPart hx (wpAny_bind (PySem.W.Looks.here (s:={ s with toks:=s.toks+1 }) (PySem.W.looks_clsIn X hc) ?_))))));rw[hd'];refine wpAny_pure (a:=some dx) (wpAny_bind (wpAny_pure (wpAny_bind ?_)));refine wpAny_nsSet1 (s:={ s with toks:=s.toks+1 }) I.ns fun h' hn2 hs2 => ?_;obtain⟨oD,esD,epD,hoD,hdD,hcD⟩:=hn2.count (PySem.Within.cons name v hw);refine wpAny_bind (wpAny_lookBehind hoD (by rw[hdD];exact pastItsLine_dict (AS hcD (by rw[Aq];omega))) ?_);exact wpAny_pure (h _ ⟨(hs2.2 _ (Ne.symm I.ne)).trans I.obj,hn2,I.ne⟩ hs2)
theorem abv{R:Result→Shared→Prop}{vs:List Value}{kw:List (Str×Value)}(X:K.In s.heap)(hm:PySem.W.makesIn K C=true)
  (hi:PySem.W.findIn K (.ref C) "__init__" = some (some (.ref f))) (hf:PySem.W.typeIn K (.ref f)=some (.type "function"))
  (h:codeAny (model prog w) (A.under (.builtin "type.__call__" ⟨.ref C::vs,kw⟩)) (.call (.ref f) ⟨.ref (s.heap.objs.size+1)::vs,kw⟩) (PySem.W.InitBack (s.heap.objs.size+1) R)
   { s with heap:=(s.heap.push PySem.W.emptyDict).push (PySem.W.instObj C s.heap.objs.size) }) :
  codeAny (model prog w) A (.call (.ref C) ⟨vs,kw⟩) R s:=by
 obtain⟨hh,g,d,t,os⟩:=s;exact PySem.W.make_core (PySem.W.makes_of X hm) (PySem.W.looks_findIn X hi) (fun self=>PySem.W.bind_fn X self hf) (.inl rfl) h
end
def rT(f:Str)(v:V):List (Str×V)→List (Str×V)
 | []=>[(f,v)]
 | (g,x)::r=>if g=f then (g,v)::r else (g,x)::rT f v r
theorem lX(f g:Str)(v:V):∀fs:List (Str×V),(rT f v fs).lookup g=if g=f then some v else fs.lookup g
 | []=>by
  show List.lookup g [(f,v)]=_
  by_cases h:g=f
  ·have hb:(g==f)=true:=beq_iff_eq.mpr h
   simp only[List.lookup,hb,Ag h]
  ·have hb:(g==f)=false:=beq_eq_false_iff_ne.mpr h
   simp only[List.lookup,hb,Ad h]
 | (k,x)::r=>by
  have ih:=lX f g v r;rw[show rT f v ((k,x)::r)=(if k=f then (k,v)::r else (k,x)::rT f v r) from rfl]
  by_cases hk:k=f
  ·rw[Ag hk]
   by_cases h:g=k
   ·have hb:(g==k)=true:=beq_iff_eq.mpr h
    simp only[List.lookup,hb,Ag (h.trans hk)]
   ·have hb:(g==k)=false:=beq_eq_false_iff_ne.mpr h
    simp only[List.lookup,hb,Ad (fun e:g=f=>h (e.trans hk.symm))]
  ·rw[Ad hk]
   by_cases h:g=k
   ·have hb:(g==k)=true:=beq_iff_eq.mpr h
    simp only[List.lookup,hb,Ad (fun e:g=f=>hk (h.symm.trans e))]
   ·have hb:(g==k)=false:=beq_eq_false_iff_ne.mpr h
    simp only[List.lookup,hb];exact ih
theorem lP(f:Str)(v:V):∀fs:List (Str×V),f∈(rT f v fs).map (·.1)∧∀g,g∈fs.map (·.1)→g∈(rT f v fs).map (·.1)
 | []=>⟨by simp[rT],fun g h=>by simp at h⟩
 | (k,x)::r=>by
  obtain⟨i1,i2⟩:=lP f v r;rw[show rT f v ((k,x)::r)=(if k=f then (k,v)::r else (k,x)::rT f v r) from rfl]
  by_cases hk:k=f
  ·rw[Ag hk]
   subst hk;exact⟨by simp,fun g h=>by simpa using h⟩
  ·rw[Ad hk]
   refine⟨?_,fun g h => ?_⟩
   ·rw[A3]
    exact Af _ i1
   ·rw[A3] at h ⊢
    rcases List.mem_cons.mp h with e|e
    ·exact List.mem_cons.mpr (.inl e)
    ·exact Af _ (i2 g e)
theorem mK(f:Str)(v:V):∀fs:List (Str×V),(rT f v fs).length≤fs.length+1
 | []=>by simp[rT]
 | (k,x)::r=>by
  have ih:=mK f v r;rw[show rT f v ((k,x)::r)=(if k=f then (k,v)::r else (k,x)::rT f v r) from rfl]
  by_cases hk:k=f
  ·rw[Ag hk,Aq,Aq];omega
  ·rw[Ad hk,Aq,Aq];omega
theorem uA.some_of{v:V}{o:Option Value}(r:uA (some v) o):∃u,o=some u∧RelV v u:=by
 cases o with
 | none=>exact(show False from r).elim
 | some u=>exact⟨u,rfl,r⟩
theorem uA.none_of{o:Option Value}(r:uA none o):o=none:=by
 cases o with
 | none=>rfl
 | some u=>exact(show False from r).elim
theorem yY{v:V}{u:Value}(r:RelV v u):PySem.W.handedIn u=true:=by
 cases v with
 | non=>cases(show u=Value.none from r);rfl
 | bl b=>cases(show u=Value.bool b from r);rfl
 | int i=>obtain⟨t,e⟩:=(show ∃t,u=Value.int i t from r);cases e;rfl
 | str x=>obtain⟨t,e⟩:=(show ∃t,u=Value.str x t from r);cases e;rfl
 | byt b=>obtain⟨t,e⟩:=(show ∃t,u=Value.bytes b t from r);cases e;rfl
 | flt b=>obtain⟨t,e⟩:=(show ∃t,u=Value.float b t from r);cases e;rfl
 | ref a=>cases(show u=Value.ref a from r);rfl
 | ty n=>cases(show u=Value.type n from r);rfl
section
variable {P:Program}{w:World}{H H':Hp}{h h':Heap}{a C dx:Addr}{fs fs':List (Str×V)}
theorem sf(hok:HOk P w H h)(e:H a=some (.ins C dx fs)):∃mA,adN h a dx C mA∧(∀f,uA (fs.lookup f) (mA f))∧PySem.Within mA (fs.map (·.1))∧fs.length≤1000∧H dx=some (.own a):=by
 obtain⟨d,z,ne,ob,mA,n,r,q⟩:=(show cJ P w H h a (.ins C dx fs) from hok a _ e);exact⟨mA,⟨ob,n,ne⟩,r,q,z,d⟩
end
structure Cls(K:DG)(C:Addr):Prop where
 pg:PySem.W.plainGet K C Str.empty=true
 hd:PySem.W.hasDictIn K C=true
 po:PySem.W.plainOver K C=true
 sa:PySem.W.findIn K (.ref C) "__setattr__" = some (some (.builtin "object.__setattr__"))
theorem Cls.get{K:DG}{C:Addr}(c:Cls K C)(f:Str):PySem.W.plainGet K C f=true:=c.pg
def fg(K:DG)(C:Addr)(f:Str):Prop:=PySem.W.findIn K (.ref C) f=some none
theorem fg.ahD{K:DG}{C:Addr}{f:Str}(n:fg K C f):PySem.W.takerIn K C f=some none:=by
 unfold PySem.W.takerIn;rw[show PySem.W.findIn K (.ref C) f=some none from n];rfl
structure Meth(K:DG)(C:Addr)(m:Str)(f:Addr):Prop where
 at_:PySem.W.findIn K (.ref C) m=some (some (.ref f))
 fn:PySem.W.isFn K (.ref f)=true
 kp:PySem.W.keepIn K (.ref f)=true
section
variable {X:Cx}{pins:List (Addr×Obj)}{σ:St}{H:Hp}{s:Shared}{a C dx:Addr}{fs:List (Str×V)}{f:Str}{v:V}{A:Around}{E:Value→Shared→Prop}
theorem vB{b:Bool}{Q:Value→Shared→Prop}(I:Inv X pins σ H s)(e:H a=some (.ins C dx fs))(c:Cls X.K C)(n:fg X.K C f)(l:fs.lookup f=some v)
  (h:∀u s',Inv X pins σ H s'→RelV v u→Q u s'):wpAny (model X.prog X.w) A (getAttr (.ref a) f b) Q E s:=by
 obtain⟨mA,O,r,_,_,_⟩:=sf I.hok e;obtain⟨u,hu,ru⟩:=uA.some_of (v:=v) (o:=mA f) (by rw[← l];exact r f);exact get_map I.kIn O (c.get f) c.hd n hu (yY ru) (h u _ (I.tok _) ru)
theorem oB{m:Str}{g:Addr}{pl:Sem Bool}{Q:Value×List Value→Shared→Prop}(I:Inv X pins σ H s)(e:H a=some (.ins C dx fs))(c:Cls X.K C)(k:Meth X.K C m g)(l:fs.lookup m=none)
  (h:Q (.ref g,[.ref a]) s):wpAny (model X.prog X.w) A (getMethod (.ref a) m pl) Q E s:=by
 obtain⟨mA,O,r,_,_,_⟩:=sf I.hok e;have hn:mA m=none:=uA.none_of (by rw[← l];exact r m);exact abt I.kIn O (c.get m) k.at_ k.fn hn h
theorem wq{y:V}{u:Value}{Q:Unit→Shared→Prop}(I:Inv X pins σ H s)(e:H a=some (.ins C dx fs))(c:Cls X.K C)(n:fg X.K C f)(hl:fs.length<1000)(ry:RelV y u)
  (h:∀s',Inv X pins σ (upd H a (.ins C dx (rT f y fs))) s'→Q () s'):wpAny (model X.prog X.w) A (setAttr (.ref a) f u) Q E s:=by
 obtain⟨mA,O,r,wi,_,ho⟩:=sf I.hok e;have hz:(fs.map (·.1)).length≤sizeLine:=by rw[Ab,sizeLine_eq];omega
 refine ady I.kIn O c.sa c.po n.ahD c.hd wi hz fun h' O' sb=>h _ ?_;have hd:∃o,h'.get? dx=some o:=let ⟨o,_,_,e',_⟩:=O'.ns;⟨o,e'⟩
 refine I.write (x:=a) (e:=dx) (by rw[e];exact True.intro) (.inr ho) (fun b q hb z=>(sb.2 b hb).trans z) hd ?_;refine⟨by rw[az O.ne];exact ho,?_,O.ne,O'.obj,_,O'.ns,fun g => ?_,fun g hg => ?_⟩
 ·have:=mK f y fs;omega
 ·show uA ((rT f y fs).lookup g) (if g=f then some u else mA g)
  rw[lX]
  by_cases q:g=f
  ·rw[Ag q,Ag q];exact ry
  ·rw[Ad q,Ad q];exact r g
 ·by_cases q:g=f
  ·rw[q];exact(lP f y fs).1
  ·refine(lP f y fs).2 g (wi g fun z=>hg ?_)
   show(if g=f then some u else mA g)=none;rw[Ad q];exact z
theorem Inv.made(I:Inv X pins σ H s):Inv X pins σ (upd (upd H s.heap.objs.size (.own (s.heap.objs.size+1))) (s.heap.objs.size+1) (.ins C s.heap.objs.size []))
  { s with heap:=(s.heap.push PySem.W.emptyDict).push (PySem.W.instObj C s.heap.objs.size) }:=by
 have e1:(s.heap.push PySem.W.emptyDict).get? s.heap.objs.size=some PySem.W.emptyDict:=Heap.get?_push_size s.heap rfl;have e2:((s.heap.push PySem.W.emptyDict).push (PySem.W.instObj C s.heap.objs.size)).get? (s.heap.objs.size+1)=some (PySem.W.instObj C s.heap.objs.size):=by
  have:=Heap.get?_push_size (s.heap.push PySem.W.emptyDict) (o:=PySem.W.instObj C s.heap.objs.size) rfl
  rwa [Heap.size_push] at this
 have e3:(s.heap.push PySem.W.emptyDict).Ns s.heap.objs.size (fun _=>none):=⟨PySem.W.emptyDict,#[],_,e1,rfl,(fun e he=>absurd he (by simp)),fun _=>rfl⟩;have I1:=I.laid (a:=s.heap.objs.size) (o:=.own (s.heap.objs.size+1)) (h':=s.heap.push PySem.W.emptyDict) (t':=s.toks) (fun b u q=>Heap.get?_push_of_some _ q) (Ae _) ⟨_,e1⟩;refine I1.laid (a:=s.heap.objs.size+1) (o:=.ins C s.heap.objs.size []) (t':=s.toks) (fun b u q=>Heap.get?_push_of_some _ q) (Dt (Heap.size_push _ _)) ?_;have ne:s.heap.objs.size≠s.heap.objs.size+1:=AG (Dg _);refine⟨by rw[az ne,ag],Av _,ne,e2,fun _=>none,(Heap.Ns1.of_empty e3).at fun o q=>Heap.get?_push_of_some _ q,fun _=>True.intro,fun y hy=>absurd rfl hy⟩
theorem ac6{prog:Program}{w:World}{env:Env}{e:Expr}{f:Str}{pos:Pos}{s:Shared}{Q:Value→Shared→Prop}(hb:attributeBase e f env (eval e env)=eval e env)
  (h:wpAny (model prog w) A (eval e env) (fun o s₁=>wpAny (model prog w) A (getAttr o f true) Q E s₁) E s):wpAny (model prog w) A (eval (.Attribute e f pos) env) Q E s :=
 Attribute_any_ h (by rw[arm_eval_Attribute,hb])
end
def ahd(K:DG)(ta:TE)(f:Str):TE:=fun σ H Q=>ta σ H fun x H1=>∃a C dx fs v,x=.ref a∧H1 a=some (.ins C dx fs)∧Cls K C∧fg K C f∧fs.lookup f=some v∧Q v H1
def aji(K:DG)(ta tv:TE)(f:Str):TS:=fun D σ H=>tv σ H fun y H1=>ta σ H1 fun x H2=>∃a C dx fs,x=.ref a∧H2 a=some (.ins C dx fs)∧Cls K C∧fg K C f∧fs.length<1000 ∧
 D.nx σ (upd H2 a (.ins C dx (rT f y fs)))
section
variable {X:Cx}{o e value:Expr}{f:Str}{pos pos' tpos:Pos}{ta tv:TE}
theorem ay(he:PE X e ta)(hb:attributeBase e f X.env (eval e X.env)=eval e X.env):PE X (.Attribute e f pos) (ahd X.K ta f):=by
 intro pins s σ H Q I h;refine ac6 hb (thn (he pins s σ H _ I h) fun u s1 ⟨x,H1,I1,rx,a,C,dx,fs,v,ex,ea,c,n,l,q⟩ => ?_);subst ex;obtain rfl:u=Value.ref a:=rx;exact vB I1 ea c n l fun u' s2 I2 ru=>⟨v,H1,I2,ru,q⟩
theorem bq(ha:PE X o ta)(hv:PE X value tv)(hs:swapsWith value (some (.Attribute o f pos')) pos.line X.env=pure false):PS X (.Assign [.Attribute o f pos'] value pos) (aji X.K ta tv f):=by
 intro pins s σ H D I h;refine plainObj_wpAny_Assign_Attribute (thn (hv pins s σ H _ I h) fun u s1 ⟨y,H1,I1,ry,q⟩=>thn (ha pins s1 σ H1 _ I1 q) fun ov s2 ⟨x,H2,I2,rx,a,C,dx,fs,ex,ea,c,n,l,q2⟩ => ?_) hs;subst ex;obtain rfl:ov=Value.ref a:=rx;exact wq I2 ea c n l ry fun s3 I3=>⟨σ,_,I3,q2⟩
end
structure e6(k:Nat)(A:Around):Prop where
 hd:A.handled=none
 dp:A.depth+3*k+5<recursionLimit
 un:A.units+16*k+200<cLine
theorem e6.mono{j k:Nat}{A:Around}(r:e6 k A)(h:j≤k):e6 j A:=⟨r.hd,by have:=r.dp;omega,by have:=r.un;omega⟩
theorem e6.deeper{k:Nat}{A:Around}(r:e6 (k+1) A)(env:Env):e6 k (A.deeper env) :=
 ⟨r.hd,by have:=r.dp;show A.depth+1+3*k+5<_;omega,by have:=r.un;show A.units+3+16*k+200<_;omega⟩
theorem vJ{A:Around}{C:Addr}{us:List Value}{kw:List (Str×Value)}:(A.under (.builtin "type.__call__" ⟨.ref C::us,kw⟩)).depth=A.depth+1:=by
 first|rfl|simp[Around.under,Code.weight,Code.isCreation,Code.isGuard,Code.isCaller,Code.frames,Code.isFrame,guardIds]
theorem vX{A:Around}{C:Addr}{us:List Value}{kw:List (Str×Value)}:(A.under (.builtin "type.__call__" ⟨.ref C::us,kw⟩)).units=A.units+1:=by
 first|rfl|simp[Around.under,Code.cUnits,Code.frames,Code.isFrame]
theorem e6.make{k:Nat}{A:Around}(r:e6 (k+1) A)(C:Addr)(us:List Value)(kw:List (Str×Value)):e6 k (A.under (.builtin "type.__call__" ⟨.ref C::us,kw⟩)) :=
 ⟨r.hd,by have:=r.dp;rw[vJ];omega,by have:=r.un;rw[vX];omega⟩
theorem e6.depth{k:Nat}{A:Around}(r:e6 k A):A.depth<recursionLimit:=by have:=r.dp;omega
theorem e6.units{k:Nat}{A:Around}(r:e6 k A):A.units+64<cLine:=by have:=r.un;omega
theorem e6.ae4{k:Nat}{A:Around}(r:e6 k A):A.units<cLine:=by have:=r.un;omega
def aed:TA:=fun _ H Q=>Q [] H
def aa4(ta:TE)(tr:TA):TA:=fun σ H Q=>ta σ H fun x H1=>tr σ H1 fun xs H2=>Q (x::xs) H2
section
variable {X:Cx}{e:Expr}{es:List Expr}{te:TE}{t:TA}{pos:Pos}
theorem ak:PA X [] aed:=fun _ _ _ _ H Q I h=>Calls.spliced_nil ⟨[],H,I,.nil,h⟩
theorem ab(ha:PE X e te)(hr:PA X es t)(hs:starEach (e::es) X.env=(false,eval e X.env)::starEach es X.env:=by rfl):PA X (e::es) (aa4 te t):=by
 intro pos pins s σ H Q I h;rw[hs];show wpAny _ _ (spliced ((false,eval e X.env)::backTo pos (starEach es X.env))) _ _ s;refine Calls.spliced_cons (thn (ha pins s σ H _ I h) fun u s1 ⟨x,H1,I1,r1,q1⟩ => ?_);exact thn (hr pos pins s1 σ H1 _ I1 q1) fun us s2 ⟨xs,H2,I2,r2,q2⟩=>⟨x::xs,H2,I2,.cons r1 r2,q2⟩
def aiW(t:TA):TE:=fun σ H Q=>t σ H fun xs H1=>xs.length≤sizeLine∧∀p,H1 p=none→Q (.ref p) (upd H1 p (.tup xs))
def aiQ(t:TA):TE:=fun σ H Q=>t σ H fun xs H1=>xs.length≤sizeLine∧∀p,H1 p=none→Q (.ref p) (upd H1 p (.lst xs))
theorem du{x1}(h:PA X es t):PE X (.Tuple es x1 pos) (aiW t):=by
 intro pins s σ H Q I hq;refine wpAny_Tuple_spliced (thn (h pos pins s σ H _ I hq) fun us s1 ⟨xs,H1,I1,r,z,q⟩=>⟨by rw[← r.length];exact z,?_⟩);have hf:H1 s1.heap.objs.size=none:=I1.hok.fresh (Ae _);refine⟨.ref s1.heap.objs.size,upd H1 s1.heap.objs.size (.tup xs),I1.laid (t':=s1.toks) (fun b u e=>Heap.get?_push_of_some _ e) (Ae _) ?_,rfl,q _ hf⟩;exact⟨z,us,r,⟨_,Heap.get?_push_size _ rfl,rfl,_,rfl⟩⟩
theorem aG(h:PA X es t):PE X (.List es pos) (aiQ t):=by
 intro pins s σ H Q I hq;refine wpAny_List_spliced (thn (h pos pins s σ H _ I hq) fun us s1 ⟨xs,H1,I1,r,z,q⟩=>⟨by rw[← r.length];exact z,?_⟩);have hf:H1 s1.heap.objs.size=none:=I1.hok.fresh (Ae _);refine⟨.ref s1.heap.objs.size,upd H1 s1.heap.objs.size (.lst xs),I1.laid (t':=s1.toks) (fun b u e=>Heap.get?_push_of_some _ e) (Ae _) ?_,rfl,q _ hf⟩;exact⟨z,us,0,r,Heap.get?_push_size _ rfl⟩
end
abbrev Sp:=List V→Hp→VK→XK→Prop
abbrev CXT:=List Env→Hp→Shared→XK→Value→Shared→Prop
structure adS(P:Program)(w:World)(K:DG)(mg:DH)(base:Heap)(A:Around)(outer:List Env)(s:Shared)(H:Hp):Prop where
 frames:A.frames=some outer
 mod:Mod K mg base
 bs:∀b o,base.get? b=some o→s.heap.get? b=some o∧H b=none
 bsz:base.objs.size≤s.heap.objs.size
 wG:s.heap.FunFrames base outer
 frf:∀b∈frs outer,H b=none
 hok:HOk P w H s.heap
 bare:AllBare s.gens
def CE(outer:List Env)(P:Program)(w:World)(H:Hp)(s:Shared)(Q:VK)(u:Value)(s':Shared):Prop :=
 ∃v H',s'.os=s.os∧AllBare s'.gens∧Un (frs outer) [] H H' s.heap s'.heap∧HOk P w H' s'.heap∧RelV v u∧Q v H'
def CR(CX:CXT)(outer:List Env)(P:Program)(w:World)(H:Hp)(s:Shared)(Q:VK)(E:XK)(r:Result)(s':Shared):Prop :=
 match r with
 | .ok (.ret u)=>CE outer P w H s Q u s'
 | .ok _=>False
 | .error e=>CX outer H s E e s'
structure nB(P:Program)(w:World)(K:DG)(mg:DH)(base:Heap)(CX:CXT)(k:Nat)(f:Addr)(fd:FuncData)(ps:List Str)(sp:Sp):Prop where
 len:∀vs H Q E,sp vs H Q E→vs.length=ps.length
 run:∀(A:Around) (outer:List Env) (s:Shared) (H:Hp) (args:Args) (us:List Value) (vs:List V) (Q:VK) (E:XK),e6 k A→adS P w K mg base A outer s H→BindsTo s fd args (ps.zip us)→Vals vs us→sp vs H Q E →
  codeAny (model P w) A (.call (.ref f) args) (CR CX outer P w H s Q E) s
theorem nB.mono{P:Program}{w:World}{K:DG}{mg:DH}{base:Heap}{CX:CXT}{j k:Nat}{f:Addr}{fd:FuncData}{ps:List Str}{sp:Sp}(F:nB P w K mg base CX j f fd ps sp)(h:j≤k) :
  nB P w K mg base CX k f fd ps sp:=⟨F.len,fun A outer s H args us vs Q E hr=>F.run A outer s H args us vs Q E (hr.mono h)⟩
theorem adS.make{P:Program}{w:World}{K:DG}{mg:DH}{base:Heap}{A:Around}{outer:List Env}{s:Shared}{H:Hp}(e:adS P w K mg base A outer s H)(C:Addr)(us:List Value)(kw:List (Str×Value)) :
  adS P w K mg base (A.under (.builtin "type.__call__" ⟨.ref C::us,kw⟩)) outer s H:=⟨by first|exact e.frames|(simpa[Around.under,Code.envs,Code.isFrame,pushEnvs] using e.frames),e.mod,e.bs,e.bsz,e.wG,e.frf,e.hok,e.bare⟩
section
variable {X:Cx}{pins:List (Addr×Obj)}{σ:St}{H:Hp}{s s':Shared}
theorem Inv.aiB(I:Inv X pins σ H s):adS X.prog X.w X.K X.mg X.base X.A X.stack s H :=
 ⟨I.ok.frames,I.ok.mod,I.bs,AS I.ok.bsz I.sz,I.stack,I.zt,I.hok,I.bare⟩
theorem Inv.after{Q:VK}{u:Value}(I:Inv X pins σ H s)(h:CE X.stack X.prog X.w H s Q u s'):EP X pins σ Q u s':=by
 obtain⟨v,H',os,bare,un,hok,r,q⟩:=h;obtain⟨hh,g,d,t,os'⟩:=s';obtain rfl:os'=s.os:=os;exact⟨v,H',I.call (h':=hh) (g':=g) (d':=d) (t':=t) (ch := []) un hok bare (fun b z=>absurd z (by simp)),r,q⟩
end
def aek(sp:Sp)(dvs:List V)(E:XK)(t:TA):TE:=fun σ H Q=>t σ H fun vs H1=>sp (vs++dvs) H1 Q E
def abh(C:Addr)(m:Str)(sp:Sp)(dvs:List V)(E:XK)(ta:TE)(t:TA):TE:=fun σ H Q=>ta σ H fun x H1=>∃a dx fs,x=.ref a∧H1 a=some (.ins C dx fs)∧fs.lookup m=none ∧
 t σ H1 fun vs H2=>sp (x::(vs++dvs)) H2 Q E
def aef(C:Addr)(sp:Sp)(dvs:List V)(E:XK)(t:TA):TE:=fun σ H Q=>t σ H fun vs H1=>∀x dx,H1 x=none→H1 dx=none→dx≠x →
 sp (.ref x::(vs++dvs)) (upd (upd H1 dx (.own x)) x (.ins C dx [])) (fun v H2=>v=.non∧Q (.ref x) H2) E
def Binds(K:DG)(fd:FuncData)(ps:List Str)(ds:List Value):Prop :=
 ∀(s:Shared) (us:List Value),K.In s.heap→(us++ds).length=ps.length→BindsTo s fd ⟨us,[]⟩ (ps.zip (us++ds))
theorem Binds.all{K:DG}{fd:FuncData}{ps:List Str}(h:∀us:List Value,us.length=ps.length→bindArgs fd ⟨us,[]⟩=pure (ps.zip us)):Binds K fd ps []:=fun s us _ hl=>by
 rw[AR] at hl ⊢;exact .of_eq (h us hl)
def Passes(CX:CXT)(X:Cx)(E:XK):Prop:=∀(pins:List (Addr×Obj)) (σ:St) (H:Hp) (s:Shared) (e:Value) (s':Shared),Inv X pins σ H s→CX X.stack H s E e s'→X.xe e s'
section
variable {X:Cx}{CX:CXT}{k:Nat}{f C:Addr}{fd:FuncData}{ps:List Str}{sp:Sp}{dvs:List V}{ds:List Value}{E:XK}{x m:Str}{p pos apos:Pos}{e o:Expr}{es:List Expr}{ta:TE}{t:TA}
theorem vq{pins:List (Addr×Obj)}{σ:St}{H:Hp}{s:Shared}{Q:VK}{us:List Value}{vs:List V}(F:nB X.prog X.w X.K X.mg X.base CX k f fd ps sp)(hr:e6 k X.A)(hb:Binds X.K fd ps ds)(hd:Vals dvs ds)(hx:Passes CX X E)
  (I:Inv X pins σ H s) (r:Vals vs us) (h:sp (vs++dvs) H Q E):wpAny (model X.prog X.w) X.A (call (.ref f) us) (EP X pins σ Q) X.xe s:=by
 have r2:Vals (vs++dvs) (us++ds):=r.append hd;have hl:(us++ds).length=ps.length:=by rw[← r2.length];exact F.len _ _ _ _ h
 refine wpAny_call (codeAny_mono (F.run X.A X.stack s H ⟨us,[]⟩ (us++ds) (vs++dvs) Q E hr I.aiB (hb s us I.kIn hl) r2 h) fun r s' hq => ?_);cases r with
 | error e=>exact hx pins σ H s e s' I hq
 | ok fl =>
  cases fl with
  | ret u=>exact I.after hq
  | next=>exact False.elim hq
  | brk=>exact False.elim hq
  | cont=>exact False.elim hq
theorem adp(F:nB X.prog X.w X.K X.mg X.base CX k f fd ps sp)(hr:e6 k X.A)(hg:Gl X x)(hm:X.mg x=some (.ref f))(hk:PySem.W.keepIn X.K (.ref f)=true)(hb:Binds X.K fd ps ds)(hd:Vals dvs ds)(hx:Passes CX X E)
  (ha:PA X (e::es) t) (hdb:(x==("__debug__" : Str))=false:=by decide) (he:starEach (e::es) X.env=(false,eval e X.env)::starEach es X.env:=by rfl) (hpl:(backTo pos (starEach es X.env)).any (·.1)=false:=by rfl) :
  PE X (.Call (.Name x p) (e::es) [] pos) (aek sp dvs E t):=by
 intro pins s σ H Q I h;refine wpAny_Call_Name_kw (tY I hg hm ?_ hdb);refine PySem.W.callWith_K (h₀:=X.base) I.ok.mod.kin hk (thn (ha pos pins s σ H _ I h) fun us s1 ⟨vs,H1,I1,r,q⟩=>⟨I1.kIn,?_⟩) he hpl;exact vq F hr hb hd hx I1 r q
theorem adO{pl:Sem Bool}(he:PE X o ta)(c:Cls X.K C)(hm:Meth X.K C m f)(F:nB X.prog X.w X.K X.mg X.base CX k f fd ps sp)(hr:e6 k X.A)(hb:Binds X.K fd ps ds)(hd:Vals dvs ds)(hx:Passes CX X E)(ha:PA X (e::es) t)
  (hst:starEach (e::es) X.env=(false,eval e X.env)::starEach es X.env:=by rfl) (hpl:(backTo pos (starEach es X.env)).any (·.1)=false:=by rfl)
  (ht:eval (.Call (.Attribute o m apos) (e::es) [] pos) X.env=(do
   let ov ← eval o X.env
   standAt apos.atName
   let (f,first) ← holding [ov] (getMethod ov m pl)
   callWith pos f first (backTo pos (starEach (e::es) X.env)) (backToKw pos (keywordEach [] X.env))):=by rfl) :
  PE X (.Call (.Attribute o m apos) (e::es) [] pos) (abh C m sp dvs E ta t):=by
 intro pins s σ H Q I h;refine PySem.W.methodCall_KW (pl:=pl) (thn (he pins s σ H _ I h) fun u s1 ⟨x,H1,I1,rx,a,dx,fs,ex,ea,l,q⟩ => ?_) ht;subst ex;obtain rfl:u=Value.ref a:=rx;refine oB I1 ea c hm l ?_;refine PySem.W.callWith_K (first := [.ref a]) (h₀:=X.base) I.ok.mod.kin hm.kp (thn (ha pos pins s1 σ H1 _ I1 q) fun us s2 ⟨vs,H2,I2,r,q2⟩=>⟨I2.kIn,?_⟩) hst hpl;exact vq (us:=.ref a::us) (vs:=.ref a::vs) F hr hb hd hx I2 (.cons rfl r) q2
theorem aa0{pl:Sem Bool}(he:PE X o ta)(c:Cls X.K C)(hm:Meth X.K C m f)(F:nB X.prog X.w X.K X.mg X.base CX k f fd ps sp)(hr:e6 k X.A)(hb:Binds X.K fd ps ds)(hd:Vals dvs ds)(hx:Passes CX X E)
  (ht:eval (.Call (.Attribute o m apos) [] [] pos) X.env=(do
   let ov ← eval o X.env
   standAt apos.atName
   let (f,first) ← holding [ov] (getMethod ov m pl)
   callWith pos f first (backTo pos (starEach [] X.env)) (backToKw pos (keywordEach [] X.env))):=by rfl) :
  PE X (.Call (.Attribute o m apos) [] [] pos) (abh C m sp dvs E ta aed):=by
 intro pins s σ H Q I h;refine PySem.W.methodCall_KW (pl:=pl) (thn (he pins s σ H _ I h) fun u s1 ⟨x,H1,I1,rx,a,dx,fs,ex,ea,l,q⟩ => ?_) ht;subst ex;obtain rfl:u=Value.ref a:=rx;refine oB I1 ea c hm l ?_;exact PySem.W.callWith_K0 (first := [.ref a]) I1.kIn hm.kp (vq (us := [.ref a]) (vs := [.ref a]) F hr hb hd hx I1 (.cons rfl .nil) q)
structure Mk(K:DG)(C f:Addr):Prop where
 makes:PySem.W.makesIn K C=true
 init:PySem.W.findIn K (.ref C) "__init__" = some (some (.ref f))
 fn:PySem.W.isFn K (.ref f)=true
 kp:PySem.W.keepIn K (.ref C)=true
theorem aaQ{pins:List (Addr×Obj)}{σ:St}{H:Hp}{s:Shared}{Q:VK}{us:List Value}{vs:List V}(M:Mk X.K C f)(F:nB X.prog X.w X.K X.mg X.base CX k f fd ps sp)(hr:e6 (k+1) X.A)(hb:Binds X.K fd ps ds)(hd:Vals dvs ds)
  (hx:Passes CX X E) (I:Inv X pins σ H s) (r:Vals vs us)
  (h:∀x dx,H x=none→H dx=none→dx≠x→sp (.ref x::(vs++dvs)) (upd (upd H dx (.own x)) x (.ins C dx [])) (fun v H2=>v=.non∧Q (.ref x) H2) E) :
  wpAny (model X.prog X.w) X.A (call (.ref C) us) (EP X pins σ Q) X.xe s:=by
 have hq:=h (s.heap.objs.size+1) s.heap.objs.size (I.hok.fresh (Nat.le_succ _)) (I.hok.fresh (Ae _)) (AG (Dg _));have I2:=Inv.made (C:=C) I;have r2:Vals (V.ref (s.heap.objs.size+1)::(vs++dvs)) (Value.ref (s.heap.objs.size+1)::(us++ds)):=.cons rfl (r.append hd);have hl:(Value.ref (s.heap.objs.size+1)::us++ds).length=ps.length:=by
  have e:=r2.length;rw[F.len _ _ _ _ hq] at e;exact e.symm
 refine wpAny_call (abv (f:=f) I.kIn M.makes M.init (beq_iff_eq.mp M.fn) (codeAny_mono (F.run _ X.stack _ _ ⟨Value.ref (s.heap.objs.size+1)::us,[]⟩ (Value.ref (s.heap.objs.size+1)::(us++ds)) _ _ E (hr.make C us [])
  (I2.aiB.make C us []) (hb _ (Value.ref (s.heap.objs.size+1)::us) I2.kIn hl) r2 hq) fun r s' hq' => ?_))
 cases r with
 | error e=>exact hx pins σ _ _ e s' I2 hq'
 | ok fl =>
  cases fl with
  | ret u =>
   obtain⟨v,H',I3,rv,ev,q3⟩:=I2.after hq';subst ev;exact⟨rv,⟨V.ref (s.heap.objs.size+1),H',I3,rfl,q3⟩⟩
  | next=>exact False.elim hq'
  | brk=>exact False.elim hq'
  | cont=>exact False.elim hq'
theorem aez(M:Mk X.K C f)(F:nB X.prog X.w X.K X.mg X.base CX k f fd ps sp)(hr:e6 (k+1) X.A)(hg:Gl X x)(hm:X.mg x=some (.ref C))(hb:Binds X.K fd ps ds)(hd:Vals dvs ds)(hx:Passes CX X E)
  (ha:PA X (e::es) t) (hdb:(x==("__debug__" : Str))=false:=by decide) (he:starEach (e::es) X.env=(false,eval e X.env)::starEach es X.env:=by rfl) (hpl:(backTo pos (starEach es X.env)).any (·.1)=false:=by rfl) :
  PE X (.Call (.Name x p) (e::es) [] pos) (aef C sp dvs E t):=by
 intro pins s σ H Q I h;refine wpAny_Call_Name_kw (tY I hg hm ?_ hdb);refine PySem.W.callWith_K (h₀:=X.base) I.ok.mod.kin M.kp (thn (ha pos pins s σ H _ I h) fun us s1 ⟨vs,H1,I1,r,q⟩=>⟨I1.kIn,?_⟩) he hpl;exact aaQ M F hr hb hd hx I1 r q
end
structure bG(N P:List Str)(sc:Scope):Prop where
 kind:sc.kind=.function
 co:sc.isCoroutine=false
 gen:sc.isGenerator=false
 nd:N.Nodup
 pre:N.take P.length=P
 par:∀x∈P,sc.names.lookup x=some .local∨sc.names.lookup x=some .cell
 nofree:∀y∈sc.names,y.2≠.free
theorem rD{kindOf:Str→Option NameKind}{x:Str}:∀{binds:List (Str×Value)} {m:Str→Option Value},(∀v,(x,v) ∉ binds)→bindL kindOf binds m x=m x
 | [],_,_=>rfl
 | (n,v)::r,m,h=>by
  unfold bindL;rw[rD fun w hw=>h w (Af _ hw)]
  split
  ·have:x≠n:=by rintro rfl;exact h v Ah
   simp[this]
  ·rfl
theorem rP{kindOf:Str→Option NameKind}{x:Str}:∀{binds:List (Str×Value)} {m:Str→Option Value},(∀v,(x,v) ∉ binds)→bindC kindOf binds m x=m x
 | [],_,_=>rfl
 | (n,v)::r,m,h=>by
  unfold bindC;rw[rP fun w hw=>h w (Af _ hw)]
  split
  ·rfl
  ·have:x≠n:=by rintro rfl;exact h v Ah
   simp[this]
theorem qC{kindOf:Str→Option NameKind}{x:Str}{v:Value}:∀{P:List Str} {vs:List Value} {i:Nat} {m:Str→Option Value},P.Nodup→P[i]? = some x→vs[i]? = some v→kindOf x=some .local →
  bindL kindOf (P.zip vs) m x=some v
 | [],_,_,_,_,h,_,_=>by simp at h
 | _::_,[],_,_,_,_,h,_=>by simp at h
 | p::P,w::vs,0,m,nd,h1,h2,hk=>by
  simp at h1 h2;subst h1;subst h2;show bindL kindOf ((p,w)::P.zip vs) m p=_;unfold bindL;rw[rD fun v hv=>(List.nodup_cons.mp nd).1 (Cj hv).1,Ag hk];simp
 | p::P,w::vs,i+1,m,nd,h1,h2,hk=>by
  show bindL kindOf ((p,w)::P.zip vs) m x=_;unfold bindL;exact qC (i:=i) (List.nodup_cons.mp nd).2 (by simpa using h1) (by simpa using h2) hk
theorem qO{kindOf:Str→Option NameKind}{x:Str}{v:Value}:∀{P:List Str} {vs:List Value} {i:Nat} {m:Str→Option Value},P.Nodup→P[i]? = some x→vs[i]? = some v→kindOf x≠some .local →
  bindC kindOf (P.zip vs) m x=some v
 | [],_,_,_,_,h,_,_=>by simp at h
 | _::_,[],_,_,_,_,h,_=>by simp at h
 | p::P,w::vs,0,m,nd,h1,h2,hk=>by
  simp at h1 h2;subst h1;subst h2;show bindC kindOf ((p,w)::P.zip vs) m p=_;unfold bindC;rw[rP fun v hv=>(List.nodup_cons.mp nd).1 (Cj hv).1,Ad hk];simp
 | p::P,w::vs,i+1,m,nd,h1,h2,hk=>by
  show bindC kindOf ((p,w)::P.zip vs) m x=_;unfold bindC;exact qO (i:=i) (List.nodup_cons.mp nd).2 (by simpa using h1) (by simpa using h2) hk
def start(N:List Str)(vs:List V):St:=vs.map some++List.replicate (N.length-vs.length) none
def wI(CX:CXT)(P:Program)(w:World)(K:DG)(mg:DH)(base:Heap)(N:List Str)(qual:Str)(scope:Scope)(f:Addr)(cd:Value)(A:Around)(outer:List Env)(s:Shared)(H:Hp)(E:XK):Cx where
 prog:=P
 w:=w
 K:=K
 mg:=mg
 base:=base
 A:=A.deeper (envOfC qual scope s.heap.objs.size f cd)
 N:=N
 s_0:=s
 H_0:=H
 env:=envOfC qual scope s.heap.objs.size f cd
 outer:=outer
 stack:=envOfC qual scope s.heap.objs.size f cd::outer
 ex := []
 calm:=true
 fn:=fun _=>true
 pn := []
 xe:=fun e s'=>wpAny (model P w) (A.deeper (envOfC qual scope s.heap.objs.size f cd)) (leaving (envOfC qual scope s.heap.objs.size f cd) e) (fun _ s''=>CX outer H s E e s'') (fun e' s''=>CX outer H s E e' s'') s'
theorem vh{sc:Scope}{n:Nat}{x:Str}(h:sc.names.lookup x=some .cell):∃c,(cellsFrom n sc.names []).lookup x=some c:=by
 have q:=PySem.W.cellsFrom_some sc.names n [] (.inl h);exact Option.isSome_iff_exists.mp q
theorem xf{CX:CXT}{P:Program}{w:World}{K:DG}{mg:DH}{base:Heap}{N ps:List Str}{qual:Str}{scope:Scope}{f:Addr}{cd:Value}{A:Around}{outer:List Env}{s s1:Shared}{H:Hp}{E:XK}{us:List Value}{vs:List V}
  (S:bG N ps scope) (hd:A.handled=none) (e0:adS P w K mg base A outer s H) (hl:vs.length=ps.length) (r:Vals vs us)
  (x:InCallC s s.heap.objs.size (bindL (envOfC qual scope s.heap.objs.size f cd).kindOf (ps.zip us) fun _=>none) (cellsFrom (s.heap.objs.size+1) scope.names []) (bindC (envOfC qual scope s.heap.objs.size f cd).kindOf (ps.zip us) fun _=>none) s1) :
  Inv (wI CX P w K mg base N qual scope f cd A outer s H E) [] (start N vs) H s1:=by
 have hpl:ps.length≤N.length:=by have:=congrArg List.length S.pre;rw[A2] at this;omega
 obtain⟨h1,tk,rfl,hk⟩:=x.done;have noA:∀b:Addr,b ∉ (wI CX P w K mg base N qual scope f cd A outer s H E).ex:=fun b z=>absurd (show b∈([]:List Addr) from z) (by simp);refine⟨⟨e0.mod,S.kind,rfl,rfl,Ae _,fun y z c h1 h2 => ?_,fun y hy => ?_,fun y c _ h => ?_,fun _=>hd,Around.frames_deeper e0.frames,.inr ⟨rfl,rfl⟩,fun b z=>absurd z (noA b),e0.bs,e0.bsz,fun b _ _=>noA b,fun b z=>absurd z (noA b),e0.wG,e0.frf⟩,
  rfl,e0.bare,Un.kept hk,⟨_,x.toInCall.ns,fun i y v h1 h2 h3 => ?_⟩,fun y c h=>⟨_,x.cell y c h⟩,e0.hok.fresh (Ae _),fun y c h => ?_,fun p hp=>absurd (show p∈([]:List (Addr×Obj)) from hp) (by simp),e0.hok.kept hk,?_⟩
 ·exact name_of_addr x.apart (PySem.mem_of_lookup h1) (PySem.mem_of_lookup h2)
 ·have hy:scope.names.lookup y=some .cell∨scope.names.lookup y=some .free:=hy
  rcases hy with hy|hy
  ·exact vh hy
  ·exact absurd rfl (S.nofree _ (PySem.mem_of_lookup hy))
 ·exact Br (x.above y c (PySem.mem_of_lookup h))
 ·have hi:i<vs.length:=by
   unfold start at h2
   by_cases hi:i<vs.length
   ·exact hi
   ·rw[Ao (by simpa using hi)] at h2
    rw[BK] at h2
    split at h2 <;> cases h2
  have ha:vs[i]? = some v:=by
   unfold start at h2;rw[Aw (by simpa using hi),Am] at h2;cases e:vs[i]? with
   | none=>rw[e] at h2;cases h2
   | some a=>rw[e] at h2;cases h2;rfl
  obtain⟨u,hu,rv⟩:=r.get ha;have hp:ps[i]? = some y:=by
   rw[← S.pre,AF (by omega)];exact h1
  have ndP:ps.Nodup:=by rw[← S.pre];exact S.nd.sublist (List.take_sublist _ _)
  refine⟨u,rv,?_⟩;rcases S.par y (A4 hp) with k|k
  ·exact .inl ⟨k,qC ndP hp hu k⟩
  ·obtain⟨c,e⟩:=vh (n:=s.heap.objs.size+1) k
   refine .inr ⟨.inl k,c,e,?_⟩;have q:=x.cell y c e;rw[qO ndP hp hu (by show scope.names.lookup y≠_;rw[k];decide)] at q;exact q
 ·exact e0.hok.fresh (Br (x.above y c (PySem.mem_of_lookup h)))
 ·unfold start
  show _=N.length;rw[Ai,Ab,C0];omega
theorem ah0{CX:CXT}{P:Program}{w:World}{K:DG}{mg:DH}{base:Heap}{k:Nat}{f:Addr}{name qual:Str}{params:Arguments}{body:List Stmt}{scope:Scope}{dV kV doc pm cdv ct oc:Value}{an od:Option Addr}
  {osl:Array (Option Value)} {N ps:List Str} {sp:Sp} (lk:K.lookup f=some ⟨oc,od,.func (PySem.W.fnOf name qual params body scope dV kV doc pm an cdv ct),osl⟩) (hcd:PySem.W.codeIn K cdv qual=true) (S:bG N ps scope)
  (len:∀vs H Q E,sp vs H Q E→vs.length=ps.length)
  (i6:∀(A:Around) (outer:List Env) (s:Shared) (H:Hp) (vs:List V) (Q:VK) (E:XK),e6 k (A.deeper (envOfC qual scope s.heap.objs.size f cdv))→sp vs H Q E →
   ∃t,PSs (wI CX P w K mg base N qual scope f cdv A outer s H E) body t∧t { nx:=fun _ H'=>Q .non H',rt:=Q } (start N vs) H) :
  nB P w K mg base CX (k+1) f (PySem.W.fnOf name qual params body scope dV kV doc pm an cdv ct) ps sp:=by
 refine⟨len,fun A outer s H args us vs Q E hr e0 hb r hsp => ?_⟩;have hl:=len _ _ _ _ hsp;have KX:K.In s.heap:=e0.mod.kin.keeps fun b o e=>(e0.bs b o e).1;have lim:s.heap.NoLimit:=e0.mod.nolimit.keeps fun b o e=>(e0.bs b o e).1;have hkind:∀y∈ps.zip us,scope.names.lookup y.1=some .local∨(scope.names.lookup y.1=some .cell∧((cellsFrom (s.heap.objs.size+1) scope.names []).lookup y.1).isSome=true):=fun⟨n,v⟩ hy=>by
  rcases S.par n (Cj hy).1 with q|q
  ·exact .inl q
  ·exact .inr ⟨q,PySem.W.cellsFrom_some _ _ _ (.inl q)⟩
 refine codeAny_call_function hr.depth (KX _ _ lk) rfl S.co S.gen rfl (PySem.W.codeRec_of KX hcd) (hb _ _ _ _ ?_);refine wpAny_newFunctionEnv_cells S.kind hkind fun env he s1 x => ?_;subst he;refine⟨lim.keeps x.toInCall.keep,codeAny_func ?_⟩;obtain⟨t,ht,hq⟩:=i6 A outer s H vs Q E (hr.deeper _) hsp;have I:Inv (wI CX P w K mg base N qual scope f cdv A outer s H E) [] (start N vs) H s1:=xf S hr.hd e0 hl r x;refine wpAny_mono (ht [] s1 (start N vs) H _ I hq) (fun fl s' hs => ?_) fun e s' hs=>hs;have fin:∀{σ':St} {H':Hp} {v:V} {u:Value},Inv (wI CX P w K mg base N qual scope f cdv A outer s H E) [] σ' H' s'→RelV v u→Q v H'→CE outer P w H s Q u s' :=
  fun{σ' H' v u} J rv q=>⟨v,H',J.os,J.bare,J.base,J.hok,rv,q⟩
 cases fl with
 | ret u =>
  obtain⟨v,σ',H',J,rv,q⟩:=hs;exact fin J rv q
 | next =>
  obtain⟨σ',H',J,q⟩:=hs;exact fin (v:=V.non) (u:=Value.none) J rfl q
 | brk =>
  obtain⟨_,_,_,q⟩:=hs;exact False.elim q
 | cont =>
  obtain⟨_,_,_,q⟩:=hs;exact False.elim q
section
variable {X:Cx}{x:Str}{p pos:Pos}{e:Expr}{es:List Expr}{t:TA}{id T:String}{r:List V→Hp→VK→Prop}
def tCB(r:List V→Hp→VK→Prop)(t:TA):TE:=fun σ H Q=>t σ H fun vs H1=>r vs H1 Q
theorem cT(hc:nD X (.builtin id) r)(hg:Gl X x)(hm:X.mg x=none)(hv:bootBuiltins x=some (.builtin id))(ha:PA X (e::es) t)(hn:x ≠ "__name__" := by decide)(hdb:(x==("__debug__" : Str))=false:=by decide)
  (he:starEach (e::es) X.env=(false,eval e X.env)::starEach es X.env:=by rfl) (hpl:(backTo pos (starEach es X.env)).any (·.1)=false:=by rfl):PE X (.Call (.Name x p) (e::es) [] pos) (tCB r t):=by
 intro pins s σ H Q I h;refine wpAny_Call_Name_kw (iz I hg hm hv ?_ hn hdb);exact PyProof.Rows.callWith_builtin1 (thn (ha pos pins s σ H _ I h) fun us s1 ⟨vs,H1,I1,r1,q1⟩=>hc pins s1 σ H1 vs us Q I1 r1 q1) he hpl
theorem qg(hc:nD X (.type T) r)(hg:Gl X x)(hm:X.mg x=none)(hv:bootBuiltins x=some (.type T))(ha:PA X (e::es) t)(hn:x ≠ "__name__" := by decide)(hdb:(x==("__debug__" : Str))=false:=by decide)
  (he:starEach (e::es) X.env=(false,eval e X.env)::starEach es X.env:=by rfl) (hpl:(backTo pos (starEach es X.env)).any (·.1)=false:=by rfl):PE X (.Call (.Name x p) (e::es) [] pos) (tCB r t):=by
 intro pins s σ H Q I h;refine wpAny_Call_Name_kw (iz I hg hm hv ?_ hn hdb);exact PyProof.Rows.callWith_type1 (thn (ha pos pins s σ H _ I h) fun us s1 ⟨vs,H1,I1,r1,q1⟩=>hc pins s1 σ H1 vs us Q I1 r1 q1) he hpl
end
end L2
namespace HT
open PySem PyProof.Rows
section
variable {prog:Program}{w:World}{A:Around}{E:Value→Shared→Prop}{s:Shared}
def sIx(n d:Nat):Option Int→Nat
 | none=>d
 | some v=>if v<0 then (v+(n:Int)).toNat else min v.toNat n
theorem abc(n d:Nat):sIx n d none=d:=rfl
theorem mj(n d k:Nat):sIx n d (some (k:Int))=min k n:=by
 show(if (k:Int)<0 then ((k:Int)+(n:Int)).toNat else min (k:Int).toNat n)=min k n;rw[Ad (by omega),BW]
end
end HT
namespace L2
open PySem PySem.Spec PyProof.Rows
abbrev TO:=St→Hp→(Option Int→Hp→Prop)→Prop
def PO(X:Cx)(e:Option Expr)(t:TO):Prop :=
 ∀(pins:List (Addr×Obj)) (s:Shared) (σ:St) (H:Hp) (Q:Option Int→Hp→Prop),Inv X pins σ H s→t σ H Q →
  wpAny (model X.prog X.w) X.A (evalPart e X.env) (fun u s'=>∃o H',Inv X pins σ H' s'∧IsPart u o∧Q o H') X.xe s
def aej:TO:=fun _ H Q=>Q none H
def ahE(t:TE):TO:=fun σ H Q=>t σ H fun x H1=>∃i,x=.int i∧Q (some i) H1
section
variable {X:Cx}{e:Expr}{te:TE}{lo hi:Option Expr}{tl th:TO}{pos p2:Pos}
theorem oV:PO X none aej:=by
 intro pins s σ H Q I h;rw[evalPart_none];exact wpAny_pure ⟨none,H,I,.none,h⟩
theorem d9(h:PE X e te):PO X (some e) (ahE te):=by
 intro pins s σ H Q I hw;rw[evalPart_some];refine thn (h pins s σ H _ I hw) fun u s1 ⟨x,H1,I1,r1,q1⟩ => ?_;obtain⟨i,rfl,q⟩:=q1;obtain⟨t,rfl⟩:=r1;exact⟨some i,H1,I1,.int i t,q⟩
def SlR(X:Cx)(r:V→Option Int→Option Int→Hp→VK→Prop):Prop :=
 ∀(pins:List (Addr×Obj)) (s:Shared) (σ:St) (H:Hp) (x:V) (v vl vu:Value) (lo hi:Option Int) (sl:Addr) (Q:VK),Inv X pins σ H s→RelV x v→s.heap.IsSliceOf sl vl vu .none→IsPart vl lo→IsPart vu hi→r x lo hi H Q →
  ∃T id,typeLookup (.type T) "__getitem__" = pure (some (.builtin id))∧s.TypeIs v T∧wpAny (model X.prog X.w) X.A (getItem v (.ref sl)) (EP X pins σ Q) X.xe s
def tSl(r:V→Option Int→Option Int→Hp→VK→Prop)(te:TE)(tl th:TO):TE:=fun σ H Q=>te σ H fun x H1=>tl σ H1 fun l H2=>th σ H2 fun u H3=>r x l u H3 Q
theorem fE{r:V→Option Int→Option Int→Hp→VK→Prop}(hr:SlR X r)(he:PE X e te)(hl:PO X lo tl)(hu:PO X hi th):PE X (.Subscript e (.Slice lo hi none p2) pos) (tSl r te tl th):=by
 intro pins s σ H Q I h;refine Subscript_ (thn (he pins s σ H _ I h) fun v s1 ⟨x,H1,I1,r1,q1⟩ => ?_);refine wpAny_Slice (thn (hl pins s1 σ H1 _ I1 q1) fun vl s2 ⟨l,H2,I2,pl,q2⟩=>thn (hu pins s2 σ H2 _ I2 q2) fun vu s3 ⟨u,H3,I3,pu,q3⟩ => ?_);rw[evalPart_none];refine wpAny_pure ?_;have I4:Inv X pins σ H3 { s3 with heap:=s3.heap.push { cls:=.type "slice",data:=.fields #[vl,vu,.none] } }:=I3.kept (t':=s3.toks) fun b ob q=>Heap.get?_push_of_some _ q;obtain⟨T,id,hT,ht,hg⟩:=hr pins { s3 with heap:=s3.heap.push { cls:=.type "slice",data:=.fields #[vl,vu,.none] } } σ H3 x v vl vu l u s3.heap.objs.size Q I4 r1 (Heap.IsSliceOf.new ..) pl pu q3;show wpAny (model X.prog X.w) X.A (subscriptTail e (.Slice lo hi none p2) v (.ref s3.heap.objs.size)) (EP X pins σ Q) X.xe { s3 with heap:=s3.heap.push { cls:=.type "slice",data:=.fields #[vl,vu,.none] } };exact tail_any (ops := [.ref s3.heap.objs.size,v]) ht hT hg (by with_unfolding_all rfl)
def kS(xs:List V)(lo hi:Option Int):List V:=(xs.drop (HT.sIx xs.length 0 lo)).take (HT.sIx xs.length xs.length hi-HT.sIx xs.length 0 lo)
theorem tK(xs:List V)(lo hi:Option Int):(kS xs lo hi).length≤xs.length:=by
 unfold kS;rw[A2,Bl];omega
end
def ixN(n:Nat)(i:Int):Option Nat:=if 0≤i then (if i<n then some i.toNat else none) else if -(n:Int)≤i then some (i+n).toNat else none
def atI{α:Type}(xs:List α)(i:Int):Option α:=(ixN xs.length i).bind fun j=>xs[j]?
theorem adD{n:Nat}{i:Int}{j:Nat}(h:ixN n i=some j):seqIndex? i n=some j∧j<n ∧ -(n:Int)≤i∧i<n:=by
 unfold ixN at h
 by_cases h0:0≤i
 ·rw[Ag h0] at h
  by_cases h1:i<n
  ·rw[Ag h1] at h
   have e:i.toNat=j:=Ac h;exact⟨by rw[seqIndex_of h0 h1,e],by omega,by omega,h1⟩
  ·rw[Ad h1] at h;cases h
 ·rw[Ad h0] at h
  by_cases h1 : -(n:Int)≤i
  ·rw[Ag h1] at h
   have e:(i+n).toNat=j:=Ac h;exact⟨by rw[seqIndex_neg (by omega) h1,e],by omega,h1,by omega⟩
  ·rw[Ad h1] at h;cases h
theorem yO{α:Type}{xs:List α}{i:Int}{v:α}(h:atI xs i=some v):∃j,seqIndex? i xs.length=some j∧xs[j]? = some v∧j<xs.length ∧ -(xs.length:Int)≤i∧i<xs.length:=by
 unfold atI at h;cases e:ixN xs.length i with
 | none=>rw[e] at h;cases h
 | some j =>
  rw[e] at h;obtain⟨h1,h2,h3,h4⟩:=adD e;exact⟨j,h1,h,h2,h3,h4⟩
theorem aM{α:Type}{xs:List α}{j:Nat}{v:α}(h:xs[j]? = some v):atI xs (j:Int)=some v:=by
 have hj:j<xs.length:=(List.getElem?_eq_some_iff.mp h).1;have e:ixN xs.length (j:Int)=some j:=by
  unfold ixN;rw[Ag (by omega),Ag (by omega)];simp
 unfold atI;rw[e];exact h
def tu(b:Expr):Prop:=∀o i,subscripted b false o i=operate [o,i] (getItem o i)
def IxR(X:Cx)(r:R2):Prop :=
 ∀(value slice:Expr) (pins:List (Addr×Obj)) (s:Shared) (σ:St) (H:Hp) (x y:V) (v u:Value) (Q:VK),Inv X pins σ H s→RelV x v→RelV y u→r x y H Q →
  subscripted slice false v u=operate [v,u] (getItem v u)→wpAny (model X.prog X.w) X.A (subscriptTail value slice v u) (EP X pins σ Q) X.xe s
def MtR(X:Cx)(id:String)(r:V→List V→Hp→VK→Prop):Prop :=
 ∀(pins:List (Addr×Obj)) (s:Shared) (σ:St) (H:Hp) (x:V) (xs:List V) (v:Value) (us:List Value) (Q:VK),Inv X pins σ H s→RelV x v→Vals xs us→r x xs H Q →
  wpAny (model X.prog X.w) X.A (call (.builtin id) (v::us)) (EP X pins σ Q) X.xe s
section
variable {X:Cx}{a b:Expr}{ta tb:TE}{pos:Pos}
theorem sS{r:R2}(hr:IxR X r)(ha:PE X a ta)(hb:PE X b tb)(hs:tu b):PE X (.Subscript a b pos) (tOp r ta tb):=by
 intro pins s σ H Q I h;exact Subscript_ (ahM ha hb I h fun v u s2 x y H2 I2 rx ry q=>hr a b pins s2 σ H2 x y v u Q I2 rx ry q (hs _ _))
inductive aic(K:DG)(x y:V)(H:Hp)(Q:VK):Prop
 | mk (p:Addr) (xs:List V) (i:Int) (v:V) (h1:x=.ref p) (h2:y=.int i) (h3:SqL K H p xs) (h4:atI xs i=some v) (q:Q v H):aic K x y H Q
def af5(K:DG):R2:=fun x y H Q=>aic K x y H Q
inductive aif(K:DG)(x y:V)(H:Hp)(Q:VK):Prop
 | mk (p:Addr) (xs:List V) (i:Int) (v:V) (h1:x=.ref p) (h2:y=.int i) (h3:SqT K H p xs) (h4:atI xs i=some v) (q:Q v H):aif K x y H Q
def agD(K:DG):R2:=fun x y H Q=>aif K x y H Q
theorem zm:IxR X (af5 X.K):=by
 intro value slice pins s σ H x y v u Q I rx ry h hs;obtain⟨p,xs,i,z,rfl,rfl,hq,he,q⟩:=h;cases rx
 obtain⟨t,rfl⟩:=ry;obtain⟨its,r,pl,hz⟩:=I.list hq;obtain⟨j,h1,h2,h3,h4,h5⟩:=yO he;obtain⟨w,ew,rw'⟩:=r.get h2;have hl:=r.length;have hn:=u7;have fin:EP X pins σ Q w s:=⟨z,H,I,rw',q⟩
 by_cases h0:0≤i
 ·have hj:i.toNat=j:=by
   rw[seqIndex_of h0 h5] at h1;exact Ac h1
  exact item_listR pl.isList h0 (by omega) (by rw[hj];simpa using ew) fin hs
 ·have hj:(i+(its.toArray.size:Int)).toNat=j:=by
   rw[seqIndex_neg (by omega) h4] at h1;rw[Ay,← hl];exact Ac h1
  exact subscriptTail_builtinR (x:=w) pl.isList.typeIs slot_list_getitem.lookup
   (wpAny_getItem_list_neg (Q:=fun r s'=>r=w∧EP X pins σ Q r s') pl.isList (by omega) (by rw[Ay] <;> omega) (by omega) (by rw[hj];simpa using ew) ⟨rfl,fin⟩) hs
theorem acz:IxR X (agD X.K):=by
 intro value slice pins s σ H x y v u Q I rx ry h hs;obtain⟨p,xs,i,z,rfl,rfl,hq,he,q⟩:=h;cases rx
 obtain⟨t,rfl⟩:=ry;obtain⟨its,r,pl,hz⟩:=I.tuple hq;obtain⟨j,h1,h2,h3,h4,h5⟩:=yO he;obtain⟨w,ew,rw'⟩:=r.get h2;have hl:=r.length;have hn:=u7;have fin:EP X pins σ Q w s:=⟨z,H,I,rw',q⟩;exact subscriptTail_builtinR (x:=w) pl.typeIs slot_tuple_getitem.lookup
  (getItem_tuple (j:=j) (Q:=fun r s'=>r=w∧EP X pins σ Q r s') pl (by omega) (by omega) (by rw[Ay,← hl];exact h1) (by simpa using ew) ⟨rfl,fin⟩) hs
theorem rJ(lo hi:Option Int)(n:Nat):(sliceBounds lo hi none n).1=((HT.sIx n 0 lo:Nat):Int)∧(sliceBounds lo hi none n).2.1=((HT.sIx n n hi:Nat):Int)∧(sliceBounds lo hi none n).2.2=1:=by
 refine⟨?_,?_,rfl⟩
 ·cases lo with
  | none=>simp[sliceBounds,HT.sIx]
  | some i =>
   simp only[sliceBounds,HT.sIx,Option.getD_none,show(1:Int)>0 by decide,CU]
   by_cases h:i<0
   ·simp only[h,CU] <;> omega
   ·simp only[h,Cq] <;> omega
 ·cases hi with
  | none=>simp[sliceBounds,HT.sIx]
  | some i =>
   simp only[sliceBounds,HT.sIx,Option.getD_none,show(1:Int)>0 by decide,CU]
   by_cases h:i<0
   ·simp only[h,CU] <;> omega
   ·simp only[h,Cq] <;> omega
theorem pV(its:List Value)(lo hi:Option Int):slicePick its.toArray lo hi none=((its.drop (HT.sIx its.length 0 lo)).take (HT.sIx its.length its.length hi-HT.sIx its.length 0 lo)).toArray:=by
 obtain⟨h1,h2,h3⟩:=rJ lo hi its.toArray.size;unfold slicePick;rw[h1,h2,h3];simp only[sliceRange_one,pick_run,Ay] <;> rfl
def aiT(K:DG):V→Option Int→Option Int→Hp→VK→Prop:=fun x lo hi H Q=>∃a xs,x=.ref a∧SqL K H a xs∧∀p,H p=none→Q (.ref p) (upd H p (.lst (kS xs lo hi)))
theorem iV:SlR X (aiT X.K):=by
 intro pins s σ H x v vl vu lo hi sl Q I rx hs pl pu h;obtain⟨a,xs,rfl,hx,q⟩:=h;cases rx
 obtain⟨its,r,ht,hz⟩:=I.list hx;have hlen:=r.length;refine⟨"list",_,slot_list_getitem.lookup,ht.isList.typeIs,?_⟩;refine wpAny_getItem_list_slice ht.isList hs pl pu .none (by simp) ?_ (by rw[Ay] <;> omega);rw[pV,← hlen];refine⟨.ref s.heap.objs.size,_,I.laid (t':=s.toks) (o:=.lst (kS xs lo hi)) (fun b ob q=>Heap.get?_push_of_some _ q) (Ae _) ?_,rfl,q _ (I.hok.fresh (Ae _))⟩;exact⟨AS (tK xs lo hi) hz,_,0,(r.drop (HT.sIx xs.length 0 lo)).take (HT.sIx xs.length xs.length hi-HT.sIx xs.length 0 lo),Heap.get?_push_size _ rfl⟩
inductive ahG(K:DG)(xs:List V)(H:Hp)(Q:VK):Prop
 | mk (p:Addr) (ys:List V) (h1:xs=[.ref p]) (h2:SqL K H p ys∨SqT K H p ys) (q:Q (.int ys.length) H):ahG K xs H Q
theorem qd:nD X (.builtin "len") (fun xs H Q=>ahG X.K xs H Q):=by
 intro pins s σ H xs us Q I r h;obtain⟨p,ys,rfl,hq,q⟩:=h;obtain⟨u,rfl,rx⟩:=vals1 r;cases rx
 have hn:=u7;rcases hq with hq|hq
 ·obtain⟨its,r',pl,hz⟩:=I.list hq
  have hlen:=r'.length;exact Calls.call_len_list pl.isList (by simp only[Ay] <;> omega) ⟨.int ys.length,H,I.tok _,⟨s.toks+1,by rw[Ay,hlen]⟩,q⟩
 ·obtain⟨its,r',pl,hz⟩:=I.tuple hq
  have hlen:=r'.length;exact len_tuple pl (by simp only[Ay] <;> omega) ⟨.int ys.length,H,I.tok _,⟨s.toks+1,by rw[Ay,hlen]⟩,q⟩
theorem pH:nD X (.type "tuple") (fun xs H Q=>∃p ys,xs=[.ref p]∧((SqL X.K H p ys∧∀l,H l=none→Q (.ref l) (upd H l (.tup ys)))∨(SqT X.K H p ys∧Q (.ref p) H))):=by
 intro pins s σ H xs us Q I r h;obtain⟨p,ys,rfl,h⟩:=h;obtain⟨u,rfl,rx⟩:=vals1 r;cases rx
 rcases h with⟨hq,q⟩|⟨hq,q⟩
 ·obtain⟨its,r',pl,hz⟩:=I.list hq
  have hlen:=r'.length;refine call_tuple_list pl.isList (fun h' kp => ?_) (by simp only[Ay] <;> omega);have I1:Inv X pins σ H { s with heap:=h' }:=I.kept (t':=s.toks) kp;have I2:Inv X pins σ (upd H h'.objs.size (.tup ys)) { s with heap:=h'.push { cls:=.type "tuple",data:=.seq its.toArray } } :=
   I1.laid (t':=s.toks) (fun b o e=>Heap.get?_push_of_some _ e) (Ae _) (show cJ X.prog X.w _ _ _ (.tup ys) from⟨hz,its,r',IsTup.new _ _⟩)
  exact⟨.ref h'.objs.size,_,I2,rfl,q _ (I1.hok.fresh (Ae _))⟩
 ·obtain⟨its,r',pl,hz⟩:=I.tuple hq
  exact call_tuple_same pl ⟨.ref p,H,I,rfl,q⟩
def tyV(K:DG)(T:String)(x:V)(H:Hp):Prop:=match x with
 | .str _=>T = "str"
 | .int _=>T = "int"
 | .ref p=>(T = "list" ∧ ∃xs,SqL K H p xs)∨(T = "tuple" ∧ ∃o,K.lookup p=some o∧o.cls=.type "tuple" ∧ o.dict=none) ∨
   (T = "dict" ∧ ((∃kvs,H p=some (.dK kvs))∨∃kvs,H p=some (.dT kvs)))∨(T = "set" ∧ ∃S n,H p=some (.set S n))
 | _=>False
theorem abV{pins:List (Addr×Obj)}{σ:St}{H:Hp}{s:Shared}{T:String}{x:V}{v:Value}(I:Inv X pins σ H s)(r:RelV x v)(ty:tyV X.K T x H) :
  s.TypeIs v T∧∀a,v=.ref a→∃ob,s.heap.get? a=some ob∧ob.dict=none:=by
 cases x with
 | str z =>
  obtain⟨t,rfl⟩:=r;cases(show T = "str" from ty)
  exact⟨typeIs_str s z t,fun _ e=>nomatch e⟩
 | int i =>
  obtain⟨t,rfl⟩:=r;cases(show T = "int" from ty)
  exact⟨typeIs_int s i t,fun _ e=>nomatch e⟩
 | ref p =>
  cases r
  rcases ty with⟨rfl,xs,hq⟩|⟨rfl,o,hk,hc,hd⟩|⟨rfl,hk⟩|⟨rfl,S,n,hk⟩
  ·obtain⟨its,_,pl,_⟩:=I.list hq
   refine⟨pl.isList.typeIs,fun a e => ?_⟩;cases e
   obtain⟨o,n,e,c,hd,_⟩:=pl;exact⟨o,e,hd⟩
  ·refine⟨⟨o,I.kIn p o hk,hc⟩,fun a e => ?_⟩
   cases e
   exact⟨o,I.kIn _ o hk,hd⟩
  ·have z:∃o,s.heap.get? p=some o∧o.ExactDict:=by
    rcases hk with⟨kvs,hk⟩|⟨kvs,hk⟩
    ·obtain⟨_,_,_,_,o,_,_,e,ex,_⟩:=I.hok p _ hk
     exact⟨o,e,ex⟩
    ·obtain⟨_,_,_,_,o,_,_,e,ex,_⟩:=I.hok p _ hk
     exact⟨o,e,ex⟩
   obtain⟨o,e,ex⟩:=z;refine⟨⟨o,e,ex.1⟩,fun a e2 => ?_⟩;cases e2
   exact⟨o,e,ex.2.1⟩
  ·obtain⟨o,_,_,_,e,ex,_⟩:=I.hok p _ hk
   refine⟨⟨o,e,ex.1⟩,fun a e2 => ?_⟩;cases e2
   exact⟨o,e,ex.2.1⟩
 | _=>exact False.elim ty
def ai6(K:DG)(T:String)(r:V→List V→Hp→VK→Prop)(to:TE):TE:=fun σ H Q=>to σ H fun x H1=>tyV K T x H1∧r x [] H1 Q
def tBM(K:DG)(T:String)(r:V→List V→Hp→VK→Prop)(to:TE)(t:TA):TE:=fun σ H Q=>to σ H fun x H1=>tyV K T x H1∧t σ H1 fun xs H2=>r x xs H2 Q
variable {o e:Expr}{es:List Expr}{to:TE}{t:TA}{name:Str}{apos cpos:Pos}{T id:String}{r:V→List V→Hp→VK→Prop}
theorem acO(pa:PlainAttrs T)(slot:Slot T name id)(hty:typeOf (.builtin id)=pure (.type "method_descriptor"))(hm:MtR X id r)(ho:PE X o to)
  (tZ:attributeBase o name X.env (eval o X.env)=eval o X.env:=by rfl) (t6:(apos.endLine==cpos.line)=true:=by rfl):PE X (.Call (.Attribute o name apos) [] [] cpos) (ai6 X.K T r to):=by
 intro pins s σ H Q I h;refine wpAny_Call_method0_late tZ t6 (thn (ho pins s σ H _ I h) fun v s1 ⟨x,H1,I1,r1,ty,q1⟩ => ?_);obtain⟨h1,h2⟩:=abV I1 r1 ty;exact⟨T,id,pa,slot,hty,h1,h2,Calls.callWith_builtin rfl (PySem.evalArgs_none (hm pins s1 σ H1 x [] v [] Q I1 r1 .nil q1))⟩
theorem agF(pa:PlainAttrs T)(slot:Slot T name id)(hty:typeOf (.builtin id)=pure (.type "method_descriptor"))(hm:MtR X id r)(ho:PE X o to)(ha:PA X (e::es) t)
  (tZ:attributeBase o name X.env (eval o X.env)=eval o X.env:=by rfl)
  (agX:((backTo cpos (starEach (e::es) X.env)).all (fun x => !x.1)&&(backToKw cpos (keywordEach [] X.env)).all (fun x=>x.1.isSome)
   && decide ((e::es).length+([]:List Keyword).length+(if ([]:List Keyword).isEmpty then 0 else 1)<30))=true:=by rfl)
  (t6:(apos.endLine==cpos.line)=true:=by rfl) (hs:starEach (e::es) X.env=(false,eval e X.env)::starEach es X.env:=by rfl) (aai:(backTo cpos (starEach es X.env)).any (·.1)=false:=by rfl) :
  PE X (.Call (.Attribute o name apos) (e::es) [] cpos) (tBM X.K T r to t):=by
 intro pins s σ H Q I h;refine wpAny_Call_method_late tZ agX t6 rfl (thn (ho pins s σ H _ I h) fun v s1 ⟨x,H1,I1,r1,ty,q1⟩ => ?_);obtain⟨h1,h2⟩:=abV I1 r1 ty;refine⟨T,id,pa,slot,hty,h1,h2,?_⟩;have hA:=ha cpos pins s1 σ H1 _ I1 q1;rw[hs] at hA ⊢;refine Calls.callWith_builtin (by show(false||(backTo cpos (starEach es X.env)).any (·.1))=false;rw[aai] <;> rfl) (Calls.evalArgs_plain ?_);exact thn hA fun us s2 ⟨vs,H2,I2,r2,q2⟩=>hm pins s2 σ H2 x vs v us Q I2 r1 r2 q2
end
def MtM(X:Cx)(id:String)(r:V→List V→Hp→VK→Prop):Prop :=
 ∀(pins:List (Addr×Obj)) (s:Shared) (σ:St) (H:Hp) (x:V) (xs:List V) (v:Value) (us:List Value) (Q:VK),Inv X pins σ H s→RelV x v→Vals xs us→r x xs H Q →
  wpAny (model X.prog X.w) X.A (call (.builtin id) (v::us)) (EP X pins σ Q) X.xe s
theorem Vals.one:∀{x:V} {us:List Value},Vals [x] us→∃u,us=[u]∧RelV x u
 | _,_,.cons r .nil=>⟨_,rfl,r⟩
theorem Vals.zero:∀{us:List Value},Vals [] us→us=[]
 | _,.nil=>rfl
theorem Vals.dropLast{xs:List V}{us:List Value}(h:Vals xs us):Vals xs.dropLast us.dropLast:=by
 induction h with
 | nil=>exact .nil
 | cons r t ih =>
  cases t with
  | nil=>exact .nil
  | cons q t'=>exact .cons r ih
theorem wc{α:Type}(l:List α):l.eraseIdx (l.length-1)=l.dropLast:=by
 induction l with
 | nil=>rfl
 | cons a r ih =>
  cases r with
  | nil=>rfl
  | cons b r =>
   have e:(a::b::r).length-1=((b::r).length-1)+1:=by
    have h1:(a::b::r).length=r.length+2:=rfl;have h2:(b::r).length=r.length+1:=rfl;omega
   rw[e,List.eraseIdx_cons_succ,ih]
   all_goals rfl
section
variable {X:Cx}{pins:List (Addr×Obj)}{σ:St}{H:Hp}{s:Shared}{l b:Addr}{xs ys zs:List V}
theorem Inv.ag0{its its':List Value}{n:Nat}{f:Array Value→Array Value}{t':Nat}(I:Inv X pins σ H s)(hH:H l=some (.lst xs))
  (e:s.heap.get? l=some { cls:=.type "list",data:=.seq its.toArray n }) (hf:f its.toArray=its'.toArray) (hv:Vals ys its') (hz:ys.length≤sizeLine) :
  Inv X pins σ (upd H l (.lst ys)) { s with heap:=s.heap.update l (Obj.mapSeq f),toks:=t' }:=by
 have q:=PySem.IsL.update e f;rw[hf] at q;refine I.write (x:=l) (e:=l) (by rw[hH];exact trivial) (.inl rfl) (fun b' u hb hu=>(Heap.get?_update_other s.heap (Obj.mapSeq f) (Ne.symm hb)).trans hu) ⟨_,q⟩ ?_;exact⟨hz,its',_,hv,q⟩
theorem Inv.ajj{its:List Value}{t':Nat}(I:Inv X pins σ H s)(hv:Vals ys its)(hz:ys.length≤sizeLine) :
  Inv X pins σ (upd H s.heap.objs.size (.lst ys)) { s with heap:=s.heap.push { cls:=.type "list",data:=.seq its.toArray },toks:=t' } :=
 I.laid (fun _ _ q=>Heap.get?_push_of_some _ q) (Ae _) ⟨hz,its,0,hv,Heap.get?_push_size _ rfl⟩
theorem Inv.fresh(I:Inv X pins σ H s):H s.heap.objs.size=none:=I.hok.fresh (Ae _)
theorem Inv.ac1(I:Inv X pins σ H s)(hH:H l=some (.lst xs)):xs.length≤sizeLine∧∃(its:List Value) (n:Nat),Vals xs its∧xs.length=its.length∧s.heap.get? l=some { cls:=.type "list",data:=.seq its.toArray n }:=by
 obtain⟨z,its,n,r,e⟩:=I.hok l _ hH;exact⟨z,its,n,r,r.length,e⟩
theorem abz{n:Nat}(h:n≤sizeLine):Builtin.List.listTooLong n=false:=by
 unfold Builtin.List.listTooLong;exact Ax (by omega)
end
section
variable {X:Cx}
inductive tE:V→List V→Hp→VK→Prop
 | mk {x vs H Q} (l:Addr) (xs:List V) (y:V) (h1:x=.ref l) (h2:vs=[y]) (h3:H l=some (.lst xs)) (h4:xs.length<sizeLine) (q:Q .non (upd H l (.lst (xs++[y])))):tE x vs H Q
theorem zJ:MtM X "list.append" tE:=by
 intro pins s σ H x vs v us Q I rx rv h;obtain⟨l,xs,y,rfl,rfl,hH,hz,q⟩:=h;cases rx
 obtain⟨u,rfl,ru⟩:=rv.one;obtain⟨z,its,n,r,hl,e⟩:=I.ac1 hH;refine call_meets F.slot_list_append ⟨_,e,rfl⟩ F.entry_list_append (F.args_list_append_2 _ _) (PySem.list_append l its.toArray n u (by rw[Ay];omega)) ⟨e,?_⟩;refine⟨.non,_,I.ag0 (its':=its++[u]) hH e (by simp) (r.append (.cons ru .nil)) ?_,rfl,q⟩;rw[Ai,List.length_singleton];omega
def xZ:V→List V→Hp→VK→Prop:=fun x vs H Q=>∃l b xs zs,x=.ref l∧vs=[.ref b]∧H l=some (.lst xs)∧H b=some (.lst zs)∧xs.length+zs.length≤sizeLine∧Q .non (upd H l (.lst (xs++zs)))
theorem yL:MtM X "list.extend" xZ:=by
 intro pins s σ H x vs v us Q I rx rv h;obtain⟨l,b,xs,zs,rfl,rfl,hH,hB,hz,q⟩:=h;cases rx
 obtain⟨u,rfl,ru⟩:=rv.one;cases ru
 obtain⟨z,its,n,r,hl,e⟩:=I.ac1 hH;obtain⟨z2,its2,n2,r2,hl2,e2⟩:=I.ac1 hB;have hsz:its.toArray.size+its2.toArray.size≤sizeLine:=by rw[Ay,Ay];omega
 have hlong:¬(!its.toArray.isEmpty&&Builtin.List.listTooLong (its.toArray.size+its2.toArray.size))=true:=by
  rw[abz hsz,Cr];exact Az
 refine call_meets F.slot_list_extend ⟨_,e,rfl⟩ F.entry_list_extend (F.args_list_extend_2 _ _)
  (AutoSeq1.list_extend_list_list_0 l its.toArray n b its2.toArray n2 hlong (by rw[Ay];omega) (by omega)) ⟨e,e2,?_⟩
 refine⟨.non,_,I.ag0 (its':=its++its2) hH e (by simp) (r.append r2) ?_,rfl,q⟩;rw[Ai];omega
def ai4:V→List V→Hp→VK→Prop:=fun x vs H Q=>∃l xs y,x=.ref l∧vs=[]∧H l=some (.lst xs)∧xs[xs.length-1]? = some y∧Q y (upd H l (.lst xs.dropLast))
theorem acF:MtM X "list.pop" ai4:=by
 intro pins s σ H x vs v us Q I rx rv h;obtain⟨l,xs,y,rfl,rfl,hH,hy,q⟩:=h;cases rx
 have hus:=rv.zero;subst hus;obtain⟨z,its,n,r,hl,e⟩:=I.ac1 hH;obtain⟨u,hu,ru⟩:=r.get hy;have hy':its.toArray[its.toArray.size-1]? = some u:=by
  show its.toArray[its.length-1]? = some u;rw[← Array.getElem?_toList,← hl];exact hu
 refine call_meets F.slot_list_pop ⟨_,e,rfl⟩ F.entry_list_pop (F.args_list_pop_1 _) (MeetsSeq.list_pop_last l its.toArray n u hy' (by rw[Ay];omega)) ⟨e,?_⟩;refine⟨y,_,I.ag0 (its':=its.dropLast) hH e ?_ r.dropLast ?_,ru,q⟩
 ·show its.toArray.eraseIdxIfInBounds (its.toArray.size-1)=its.dropLast.toArray
  rw[Ay,List.eraseIdxIfInBounds_toArray,wc]
 ·rw[List.length_dropLast]
  omega
def ai2:R2:=fun x y H Q=>∃l b xs zs,x=.ref l∧y=.ref b∧H l=some (.lst xs)∧H b=some (.lst zs)∧xs.length+zs.length≤sizeLine∧∀p,H p=none→Q (.ref p) (upd H p (.lst (xs++zs)))
theorem qN:OpR X (binaryOp .Add) ai2:=by
 intro pins s σ H x y v u Q I rx ry h;obtain⟨l,b,xs,zs,rfl,rfl,hH,hB,hz,q⟩:=h;cases rx
 cases ry
 obtain⟨z,its,n,r,hl,e⟩:=I.ac1 hH;obtain⟨z2,its2,n2,r2,hl2,e2⟩:=I.ac1 hB;refine PySem.P.add_list e e2 ?_ (by rw[Ay,Ay];omega);have ea:its.toArray++its2.toArray=(its++its2).toArray:=by simp
 rw[ea];exact⟨.ref _,_,I.ajj (t':=s.toks) (r.append r2) (by rw[Ai];omega),rfl,q _ I.fresh⟩
end
section
variable {prog:Program}{w:World}{A:Around}{E:Value→Shared→Prop}{s:Shared}
set_option maxRecDepth 100000 in
end
theorem Vals.ints:∀{ns:List Int} {us:List Value},Vals (ns.map V.int) us→IntsAre us ns
 | [],us,h=>by
  rw[Cs] at h;cases h
  exact IntsAre.nil
 | n::ns,us,h=>by
  rw[A3] at h;cases h with
  | cons r t =>
   obtain⟨k,rfl⟩:=r;exact IntsAre.cons n k (Vals.ints t)
theorem Vals.aiu{a:Addr}{us:List Value}(r:Vals [V.ref a] us):us=[Value.ref a]:=by
 cases r with
 | cons r t =>
  cases t
  cases r
  rfl
section
variable {prog:Program}{w:World}{A:Around}{E:Value→Shared→Prop}{s:Shared}{l:Addr}{its:List Value}{ns:List Int}{Q:Value→Shared→Prop}
theorem aeB(hh:A.handled=none)(hl:s.heap.IsList l its.toArray)(hi:IntsAre its ns)(hne:0<ns.length)
  (h:∀h' tk M t',(∀b o,s.heap.get? b=some o→h'.get? b=some o)→M∈ns→(∀a,a∈ns→a≤M)→Q (.int M t') { s with heap:=h',toks:=tk }):wpAny (model prog w) A (call (.builtin "max") [.ref l]) Q E s:=by
 obtain⟨xs,e⟩:=hi.allInts.items;have hn:numsOf (intItems xs).toList=ns:=by rw[← e];exact hi.numsOf
 rw[nums_intItems] at hn;subst hn;rw[e] at hl;have hsz:0<xs.size:=by simpa using hne
 refine PySem.max_intList hh hl hsz fun v h' tk hv hk => ?_;obtain⟨t,rfl⟩:=intItems_at hv;obtain⟨h1,h2⟩:=argBest_gt (numAt xs) (xs.size-1);refine h h' tk _ t hk ?_ fun a ha => ?_
 ·rw[numAt_eq];exact PySem.getD_mem (by rw[Ab,B3];omega)
 ·obtain⟨j,hj,rfl⟩:=mem_getD ha
  rw[Ab,B3] at hj;rw[← numAt_eq];exact h2 j (by omega)
theorem adY(hh:A.handled=none)(hl:s.heap.IsList l its.toArray)(hi:IntsAre its ns)(hne:0<ns.length)
  (h:∀h' tk M t',(∀b o,s.heap.get? b=some o→h'.get? b=some o)→M∈ns→(∀a,a∈ns→M≤a)→Q (.int M t') { s with heap:=h',toks:=tk }):wpAny (model prog w) A (call (.builtin "min") [.ref l]) Q E s:=by
 obtain⟨xs,e⟩:=hi.allInts.items;have hn:numsOf (intItems xs).toList=ns:=by rw[← e];exact hi.numsOf
 rw[nums_intItems] at hn;subst hn;rw[e] at hl;have hsz:0<xs.size:=by simpa using hne
 refine PySem.min_intList hh hl hsz fun v h' tk hv hk => ?_;obtain⟨t,rfl⟩:=intItems_at hv;obtain⟨h1,h2⟩:=argBest_lt (numAt xs) (xs.size-1);refine h h' tk _ t hk ?_ fun a ha => ?_
 ·rw[numAt_eq];exact PySem.getD_mem (by rw[Ab,B3];omega)
 ·obtain⟨j,hj,rfl⟩:=mem_getD ha
  rw[Ab,B3] at hj;rw[← numAt_eq];exact h2 j (by omega)
end
section
variable {X:Cx}
def ai1(K:DG):List V→Hp→VK→Prop:=fun vs H Q=>∃(a:Addr) (ns:List Int),vs=[V.ref a]∧SqL K H a (ns.map V.int)∧0<ns.length∧∀m,m∈ns→(∀y,y∈ns→y≤m)→Q (.int m) H
def ajc(K:DG):List V→Hp→VK→Prop:=fun vs H Q=>∃(a:Addr) (ns:List Int),vs=[V.ref a]∧SqL K H a (ns.map V.int)∧0<ns.length∧∀m,m∈ns→(∀y,y∈ns→m≤y)→Q (.int m) H
theorem acw(hc:X.calm=true):nD X (.builtin "max") (ai1 X.K):=by
 intro pins s σ H vs us Q I r h;obtain⟨a,ns,rfl,hs,hne,q⟩:=h;obtain⟨its,rv,hl,_⟩:=I.list hs;rw[Vals.aiu r];exact aeB (I.ok.hd hc) hl.isList rv.ints hne fun h' tk m t' hk h1 h2=>⟨.int _,H,I.kept hk,⟨_,rfl⟩,q m h1 h2⟩
theorem abR(hc:X.calm=true):nD X (.builtin "min") (ajc X.K):=by
 intro pins s σ H vs us Q I r h;obtain⟨a,ns,rfl,hs,hne,q⟩:=h;obtain⟨its,rv,hl,_⟩:=I.list hs;rw[Vals.aiu r];exact adY (I.ok.hd hc) hl.isList rv.ints hne fun h' tk m t' hk h1 h2=>⟨.int _,H,I.kept hk,⟨_,rfl⟩,q m h1 h2⟩
end
mutual
inductive Dp(K:DG)(H:Hp):V→PyData→Prop
 | non:Dp K H .non .none
 | bl (b:Bool):Dp K H (.bl b) (.bool b)
 | int (i:Int):Dp K H (.int i) (.int i)
 | str (x:Str):Dp K H (.str x) (.str x)
 | lst {a:Addr} {xs:List V} {ds:List PyData}:SqL K H a xs→tH K H xs ds→Dp K H (.ref a) (.list ds)
 | tup {a:Addr} {xs:List V} {ds:List PyData}:SqT K H a xs→tH K H xs ds→Dp K H (.ref a) (.tuple ds)
inductive tH(K:DG)(H:Hp):List V→List PyData→Prop
 | nil:tH K H [] []
 | cons {v:V} {vs:List V} {d:PyData} {ds:List PyData}:Dp K H v d→tH K H vs ds→tH K H (v::vs) (d::ds)
end
section
variable {X:Cx}{pins:List (Addr×Obj)}{σ:St}{H:Hp}{s:Shared}
mutual
theorem Dp.reads(I:Inv X pins σ H s):∀(d:PyData) (v:V) (u:Value),Dp X.K H v d→RelV v u→∃as,Reads s.heap u d as
 | .none,_,_,h,r=>by
  cases h
  cases r
  exact⟨_,Reads.none⟩
 | .bool b,_,_,h,r=>by
  cases h
  cases r
  exact⟨_,Reads.bool b⟩
 | .int i,_,_,h,r=>by
  cases h
  obtain⟨t,rfl⟩:=r;exact⟨_,Reads.int i t⟩
 | .str x,_,_,h,r=>by
  cases h
  obtain⟨t,rfl⟩:=r;exact⟨_,Reads.str x t⟩
 | .list ds,_,_,h,r=>by
  cases h with
  | lst hs ha =>
   cases r
   obtain⟨its,rv,⟨o,n,ho,hc,_,hd⟩,_⟩:=I.list hs;obtain⟨as,hr⟩:=Dp.readsAll I ds _ its ha rv;exact⟨_,Reads.list ho hc hd hr⟩
 | .tuple ds,_,_,h,r=>by
  cases h with
  | tup hs ha =>
   cases r
   obtain⟨its,rv,⟨o,ho,hc,n,hd⟩,_⟩:=I.tuple hs;obtain⟨as,hr⟩:=Dp.readsAll I ds _ its ha rv;exact⟨_,Reads.tuple ho hc hd hr⟩
 | .dict _,_,_,h,_=>by cases h
theorem Dp.readsAll(I:Inv X pins σ H s):∀(ds:List PyData) (vs:List V) (us:List Value),tH X.K H vs ds→Vals vs us→∃as,ReadsAll s.heap us ds as
 | [],_,_,h,r=>by
  cases h
  cases r
  exact⟨_,ReadsAll.nil⟩
 | d::ds,_,_,h,r=>by
  cases h with
  | cons h1 h2 =>
   cases r with
   | cons r1 r2 =>
    obtain⟨as,q1⟩:=Dp.reads I d _ _ h1 r1;obtain⟨bs,q2⟩:=Dp.readsAll I ds _ _ h2 r2;exact⟨_,ReadsAll.cons q1 q2⟩
end
end
section
variable {X:Cx}
def aiS(K:DG):R2:=fun x y H Q=>∃d e,Dp K H x d∧Dp K H y e∧SeqAt.shaped d=true∧SeqAt.shaped e=true∧Q (.bl (!PyData.eqv d e)) H
theorem agy(hu:X.A.units+64<cLine):OpR X (compareOp .NotEq) (aiS X.K):=by
 intro pins s σ H x y v u Q I rx ry h;obtain⟨d,e,hd,he,sd,se,q⟩:=h;obtain⟨as,r1⟩:=Dp.reads I d x v hd rx;obtain⟨bs,r2⟩:=Dp.reads I e y u he ry;exact SeqAt.compareNe_shaped r1 r2 sd se hu ⟨.bl _,H,I,rfl,q⟩
end
abbrev acn(h:Heap)(c:Addr)(v:Option Value):Prop:=h.IsCell c v
def aiZ(scope sc:Scope):Scope :=
 { scope with names:=scope.names.map fun(n,k)=>if (k==.free&&sc.kind==.function&&sc.names.lookup n==some .cell) then (n,.cell) else (n,k) }
def bA(cells:List (Str×Addr)):List (Str×NameKind)→List (Str×Addr)→List (Str×Addr)
 | [],acc=>acc
 | (n,k)::r,acc=>if k==.free then bA cells r ((n,(cells.lookup n).getD 0)::acc) else bA cells r acc
theorem kQ(env:Env)(f:Str×NameKind→List (Str×Addr)→Sem (ForInStep (List (Str×Addr))))
  (hf:∀n k c,f (n,k) c=if k==.free then (do let a ← cellOf env n;pure (.yield ((n,a)::c))) else pure (.yield c)) :
  ∀(names:List (Str×NameKind)) (acc:List (Str×Addr)),(∀y∈names,y.2=.free→∃c,env.cells.lookup y.1=some c)→forIn names acc f=pure (bA env.cells names acc)
 | [],acc,_=>by rw[Ca];rfl
 | (n,k)::r,acc,h=>by
  rw[Ck,hf];have ih:=fun acc=>kQ env f hf r acc fun y hy=>h y (Af _ hy);unfold bA
  by_cases hk:(k==NameKind.free)=true
  ·rw[Ag hk,Ag hk]
   obtain⟨c,hc⟩:=h (n,k) Ah (by simpa using hk);have e:cellOf env n=pure c:=by unfold cellOf;rw[hc]
   rw[e];have e2:(env.cells.lookup n).getD 0=c:=by rw[hc];rfl
   rw[e2];exact ih _
  ·rw[Ad hk,Ad hk]
   exact ih _
theorem vI{scope:Scope}{env:Env}(h:∀y∈scope.names,y.2=.free→∃c,env.cells.lookup y.1=some c):closureFor scope env=pure (bA env.cells scope.names []):=by
 simp only[closureFor];rw[kQ env _ (fun n k c=>rfl) scope.names [] h];rfl
theorem mem_lookup{α:Type}:∀{l:List (Str×α)} {n:Str} {c:α},(n,c)∈l→∃c',l.lookup n=some c'
 | (k,v)::r,n,c,h=>by
  rw[B8];cases hb:n==k with
  | true=>exact⟨_,rfl⟩
  | false =>
   rcases List.mem_cons.mp h with e|h
   ·cases e;simp at hb
   ·exact mem_lookup h
theorem fz{cells:List (Str×Addr)}:∀{names:List (Str×NameKind)} {acc:List (Str×Addr)} {n:Str} {c:Addr},(n,c)∈bA cells names acc→(n,c)∈acc∨((n,.free)∈names∧c=(cells.lookup n).getD 0)
 | [],_,_,_,h=>.inl h
 | (m,k)::r,acc,n,c,h=>by
  unfold bA at h
  split at h
  ·rename_i hk
   have hk:k=.free:=by simpa using hk
   rcases fz h with h|⟨h1,h2⟩
   ·rcases List.mem_cons.mp h with e|h
    ·cases e;exact .inr ⟨hk▸Ah,rfl⟩
    ·exact .inl h
   ·exact .inr ⟨Af _ h1,h2⟩
  ·rcases fz h with h|⟨h1,h2⟩
   ·exact .inl h
   ·exact .inr ⟨Af _ h1,h2⟩
theorem iY{cells:List (Str×Addr)}:∀{names:List (Str×NameKind)} {acc:List (Str×Addr)} {p:Str×Addr},p∈acc→p∈bA cells names acc
 | [],_,_,h=>h
 | (m,k)::r,acc,p,h=>by
  unfold bA
  split
  ·exact iY (Af _ h)
  ·exact iY h
theorem iR{cells:List (Str×Addr)}:∀{names:List (Str×NameKind)} {acc:List (Str×Addr)} {n:Str},(n,.free)∈names→(n,(cells.lookup n).getD 0)∈bA cells names acc
 | (m,k)::r,acc,n,h=>by
  unfold bA;rcases List.mem_cons.mp h with e|h
  ·cases e
   exact iY Ah
  ·split
   ·exact iR h
   ·exact iR h
theorem gg:∀{names:List (Str×NameKind)} {h:Heap} {acc:List (Str×Addr)} {x:Str} {c:Addr},(x,c)∈cellsFrom h.objs.size names acc →
  (x,c)∈acc∨((x,.cell)∈names∧h.objs.size≤c∧acn (pushCells h names) c none)
 | [],_,_,_,_,h=>.inl h
 | (n,k)::r,h,acc,x,c,hm=>by
  unfold cellsFrom at hm;unfold pushCells
  split at hm
  ·rename_i hk
   rw[Ag hk];have hk:k=.cell:=by simpa using hk
   rw[← Heap.size_push h { cls:=.type "cell",data:=.cell none }] at hm;rcases gg hm with hm|⟨h1,h2,h3⟩
   ·rcases List.mem_cons.mp hm with e|hm
    ·cases e
     exact .inr ⟨hk▸Ah,Ae _,_,pushCells_keeps r _ _ _ (Heap.get?_push_size _ rfl),rfl⟩
    ·exact .inl hm
   ·rw[Heap.size_push] at h2
    exact .inr ⟨Af _ h1,Ct h2,h3⟩
  ·rename_i hk
   rw[Ad hk];rcases gg hm with hm|⟨h1,h2,h3⟩
   ·exact .inl hm
   ·exact .inr ⟨Af _ h1,h2,h3⟩
theorem jn:∀{names:List (Str×NameKind)} {n:Nat} {acc:List (Str×Addr)} {p:Str×Addr},p∈acc→p∈cellsFrom n names acc
 | [],_,_,_,h=>h
 | (m,k)::r,n,acc,p,h=>by
  unfold cellsFrom
  split
  ·exact jn (Af _ h)
  ·exact jn h
theorem mM:∀{names:List (Str×NameKind)} {n:Nat} {acc:List (Str×Addr)} {x:Str},(x,.cell)∈names→∃c,(x,c)∈cellsFrom n names acc
 | (m,k)::r,n,acc,x,h=>by
  unfold cellsFrom;rcases List.mem_cons.mp h with e|h
  ·cases e
   exact⟨n,jn Ah⟩
  ·split
   ·exact mM h
   ·exact mM h
theorem mB:∀{names:List (Str×NameKind)} {h:Heap} {acc:List (Str×Addr)} {x y:Str} {c:Addr},(∀p∈acc,p.2<h.objs.size)→(∀x y c,(x,c)∈acc→(y,c)∈acc→x=y) →
  (x,c)∈cellsFrom h.objs.size names acc→(y,c)∈cellsFrom h.objs.size names acc→x=y
 | [],_,_,_,_,_,_,hi,h1,h2=>hi _ _ _ h1 h2
 | (n,k)::r,h,acc,x,y,c,hl,hi,h1,h2=>by
  unfold cellsFrom at h1 h2
  split at h1
  ·rename_i hk
   rw[Ag hk] at h2;rw[← Heap.size_push h { cls:=.type "cell",data:=.cell none }] at h1 h2;refine mB (h:=h.push _) (fun p hp => ?_) (fun x y c a b => ?_) h1 h2
   ·rw[Heap.size_push]
    rcases List.mem_cons.mp hp with rfl|hp
    ·exact Dg _
    ·exact Cu (hl p hp)
   ·rcases List.mem_cons.mp a with e|a <;> rcases List.mem_cons.mp b with e'|b
    ·cases e;cases e';rfl
    ·cases e;exact absurd (hl _ b) (Bh _)
    ·cases e';exact absurd (hl _ a) (Bh _)
    ·exact hi _ _ _ a b
  ·rename_i hk
   rw[Ad hk] at h2;exact mB hl hi h1 h2
theorem rZ{M:Model}{A:Around}{E:Value→Shared→Prop}{s:Shared}{scope:Scope}{globals:Addr}{closure:List (Str×Addr)}{qual:Str}{func:Option Addr}{code:Value}{around:Env}{builtins:Addr}{Q:Env→Shared→Prop}
  (h:Q (newEnv scope s.heap.objs.size globals (cellsFrom (s.heap.objs.size+1) scope.names closure) qual func code (some around) builtins)
   { s with heap:=pushCells (s.heap.push { cls:=.type "dict",data:=.dict #[] }) scope.names }) :
  wpAny M A (newFunctionEnv scope globals closure [] qual func code (some around) builtins) Q E s:=by
 simp only[newFunctionEnv,Option.isSome_some,CU];refine wpAny_bind (wpAny_alloc ?_);refine wpAny_bind (wpAny_layCells _ (fun n k c=>rfl) scope.names closure _ _ ?_);rw[show({ s with heap:=s.heap.push { cls:=.type "dict",data:=.dict #[] } }:Shared).heap.objs.size=s.heap.objs.size+1 from Heap.size_push ..];rw[Ca];exact wpAny_bind (wpAny_pure (wpAny_pure h))
theorem iX{sc:Scope}:∀{names:List (Str×NameKind)} {x:Str} {k:NameKind},
  (names.map fun(n,k)=>if (k==NameKind.free&&sc.kind==.function&&sc.names.lookup n==some .cell) then (n,NameKind.cell) else (n,k)).lookup x=some k →
  ∃k',names.lookup x=some k'∧(k=k'∨(k'=.free∧k=.cell))
 | [],_,_,h=>by simp at h
 | (n,k₀)::r,x,k,h=>by
  have ih:=@iX sc r x k;have h':List.lookup x ((if (k₀==NameKind.free&&sc.kind==.function&&sc.names.lookup n==some .cell)=true then (n,NameKind.cell) else (n,k₀))::(r.map _))=some k:=h;cases hx:x==n with
  | true =>
   simp only[B8,hx]
   by_cases hc:(k₀==NameKind.free&&sc.kind==.function&&sc.names.lookup n==some .cell)=true
   ·rw[Ag hc] at h'
    simp only[B8,hx] at h';cases h'
    simp only[Ar,Cm] at hc;exact⟨k₀,rfl,.inr ⟨hc.1.1,rfl⟩⟩
   ·rw[Ad hc] at h'
    simp only[B8,hx] at h';cases h'
    exact⟨_,rfl,.inl rfl⟩
  | false =>
   simp only[B8,hx]
   by_cases hc:(k₀==NameKind.free&&sc.kind==.function&&sc.names.lookup n==some .cell)=true
   ·rw[Ag hc] at h'
    simp only[B8,hx] at h';exact ih h'
   ·rw[Ad hc] at h'
    simp only[B8,hx] at h';exact ih h'
structure w6(N:List Str)(sc scope:Scope)(own:List (Str×Nat)):Prop where
 kind:scope.kind=.function
 uniq:∀y∈scope.names,scope.names.lookup y.1=some y.2
 ix:∀p∈own,N[p.2]? = some p.1
 free:∀y∈scope.names,y.2=.free→sc.names.lookup y.1=some .cell∨sc.names.lookup y.1=some .free
 own:∀y∈scope.names,y.2=.local∨y.2=.cell→y.1∈own.map (·.1)∨y.1 ∉ N
def wipe(σ:St):List Nat→St
 | []=>σ
 | v::vs=>(wipe σ vs).set v none
theorem iU(σ:St):∀vs:List Nat,(wipe σ vs).length=σ.length
 | []=>rfl
 | v::vs=>by unfold wipe;rw[BF,iU σ vs]
theorem lY{σ:St}{i:Nat}{x:V}:∀{vs:List Nat},(wipe σ vs)[i]? = some (some x)→σ[i]? = some (some x)∧i ∉ vs
 | [],h=>⟨h,by simp⟩
 | v::vs,h=>by
  unfold wipe at h
  by_cases hi:v=i
  ·subst hi
   by_cases hv:v<(wipe σ vs).length
   ·rw[Bs hv] at h;cases h
   ·rw[AA (by simpa using hv)] at h;cases h
  ·rw[Bp hi] at h
   obtain⟨h1,h2⟩:=lY h;exact⟨h1,by simp only[D8,not_or];exact⟨fun e=>hi e.symm,h2⟩⟩
abbrev Cx.blk(X:Cx)(s:Shared)(H:Hp)(scope:Scope)(cenv:Env)(fp:List Addr):Cx:={ X with s_0:=s,H_0:=H,env:=cenv,outer:=X.stack,ex:=fp,fn:=fun x=>scope.names.lookup x==some .cell,pn := [],xe:=fun _ _=>False }
section
variable {X:Cx}{pins:List (Addr×Obj)}{σ:St}{H:Hp}{s:Shared}
theorem tT{scope:Scope}{own:List (Str×Nat)}{fp:List Addr}(I:Inv X pins σ H s)(ok:w6 X.N X.env.scope scope own)(hN:X.N.Nodup)(hfp:∀b∈fp,p9 X pins H b∧b<s.heap.objs.size) :
  Inv (X.blk s H scope (compEnvC scope (cellsFrom (s.heap.objs.size+1) scope.names (bA X.env.cells scope.names [])) s.heap.objs.size X.env) fp) [] (wipe σ (own.map (·.2))) H { s with heap:=pushCells (s.heap.push { cls:=.type "dict",data:=.dict #[] }) scope.names }:=by
 have hfree:∀y∈scope.names,y.2=.free→∃c,X.env.cells.lookup y.1=some c:=fun y hy e=>by
  rcases ok.free y hy e with k|k
  ·exact I.ok.has _ (.inl k)
  ·exact I.ok.has _ (.inr k)
 generalize hcenv:compEnvC scope (cellsFrom (s.heap.objs.size+1) scope.names (bA X.env.cells scope.names [])) s.heap.objs.size X.env=cenv;have kp:∀b o,s.heap.get? b=some o→(pushCells (s.heap.push { cls:=.type "dict",data:=.dict #[] }) scope.names).get? b=some o:=fun b o e=>pushCells_keeps _ _ _ _ (Heap.get?_push_of_some _ e);have hL:cenv.locals=s.heap.objs.size:=by rw[← hcenv];rfl
 have hcl:cenv.cells=cellsFrom (s.heap.objs.size+1) scope.names (bA X.env.cells scope.names []):=by rw[← hcenv];rfl
 have hsc:cenv.scope=aiZ scope X.env.scope:=by rw[← hcenv];rfl
 rw[← Heap.size_push s.heap { cls:=.type "dict",data:=.dict #[] }] at hcl;have cm:∀{y c},(y,c)∈bA X.env.cells scope.names []→X.env.cells.lookup y=some c∧c<s.heap.objs.size:=fun{y c} hm=>by
  rcases fz hm with hm|⟨h1,rfl⟩
  ·cases hm
  ·obtain⟨c,hc⟩:=hfree _ h1 rfl
   rw[hc];obtain⟨w,z⟩:=I.cell _ _ hc;exact⟨rfl,z.lt⟩
 have mem:∀{y c},cenv.cells.lookup y=some c→(X.env.cells.lookup y=some c∧c<s.heap.objs.size)∨(s.heap.objs.size+1≤c∧acn (pushCells (s.heap.push { cls:=.type "dict",data:=.dict #[] }) scope.names) c none):=fun{y c} e=>by
  rw[hcl] at e;rcases gg (PySem.mem_of_lookup e) with hm|⟨_,h2,h3⟩
  ·exact .inl (cm hm)
  ·rw[Heap.size_push] at h2;exact .inr ⟨h2,h3⟩
 have look:∀{y},scope.names.lookup y=some .free→∃c,cenv.cells.lookup y=some c∧X.env.cells.lookup y=some c:=fun{y} hl=>by
  have hy:(y,NameKind.free)∈scope.names:=PySem.mem_of_lookup hl;obtain⟨c',e'⟩:=mem_lookup (jn (names:=scope.names) (n:=(s.heap.push { cls:=.type "dict",data:=.dict #[] }).objs.size) (iR (cells:=X.env.cells) (acc := []) hy));rw[← hcl] at e';refine⟨c',e',?_⟩;rw[hcl] at e';rcases gg (PySem.mem_of_lookup e') with hm|⟨h1,_,_⟩
  ·exact(cm hm).1
  ·have:=ok.uniq _ h1
   rw[hl] at this;cases this
 have okB:(X.blk s H scope cenv fp).Ok:=by
  refine⟨I.ok.mod,by show cenv.scope.kind=_;rw[hsc];exact ok.kind,by show cenv.globals=_;rw[← hcenv];exact I.ok.glob,by show cenv.builtins=_;rw[← hcenv];exact I.ok.blt,by show s.heap.objs.size≤cenv.locals;rw[hL];exact Ae _,
   fun y z c e1 e2 => ?_,fun y hy => ?_,fun y c z e => ?_,I.ok.hd,I.ok.frames,.inl rfl,fun b hb=>⟨?_,fun y c e z => ?_⟩,I.bs,AS I.ok.bsz I.sz,fun b o e hb => ?_,fun b hb z => ?_,I.stack,I.zt⟩
  ·have e1:cenv.cells.lookup y=some c:=e1
   have e2:cenv.cells.lookup z=some c:=e2;rw[hcl] at e1 e2;refine mB (fun p hp => ?_) (fun y z c a b=>I.ok.inj y z c (cm a).1 (cm b).1) (PySem.mem_of_lookup e1) (PySem.mem_of_lookup e2);rw[Heap.size_push];exact Cu (cm (y:=p.1) (c:=p.2) hp).2
  ·show ∃c,cenv.cells.lookup y=some c
   have key:∀k,cenv.kindOf y=some k→(k=.cell∨k=.free)→∃c,cenv.cells.lookup y=some c:=fun k hk hk'=>by
    unfold Env.kindOf at hk;rw[hsc] at hk;obtain⟨k',e,r⟩:=iX hk;have:k'=.cell∨k'=.free:=by
     rcases r with rfl|⟨rfl,_⟩
     ·exact hk'
     ·exact .inr rfl
    rcases this with rfl|rfl
    ·obtain⟨c,hm⟩:=mM (n:=(s.heap.push { cls:=.type "dict",data:=.dict #[] }).objs.size) (acc:=bA X.env.cells scope.names []) (PySem.mem_of_lookup e)
     obtain⟨c',e'⟩:=mem_lookup hm;exact⟨c',by rw[hcl];exact e'⟩
    ·obtain⟨c,h1,_⟩:=look e
     exact⟨c,h1⟩
   rcases hy with hy|hy
   ·exact key _ hy (.inl rfl)
   ·exact key _ hy (.inr rfl)
  ·have z:(scope.names.lookup y==some NameKind.cell)=true:=z
   have z:scope.names.lookup y=some .cell:=by simpa using z
   have e:cenv.cells.lookup y=some c:=e;rw[hcl] at e;rcases gg (PySem.mem_of_lookup e) with hm|⟨_,h2,_⟩
   ·rcases fz hm with hm|⟨h1,_⟩
    ·cases hm
    ·have q:=ok.uniq _ h1
     rw[z] at q;cases q
   ·rw[Heap.size_push] at h2
    exact Ct h2
  ·show b≠cenv.locals
   rw[hL];exact AG (hfp b hb).2
  ·have e:cenv.cells.lookup y=some c:=e
   rcases mem e with⟨h1,_⟩|⟨h1,_⟩
   ·exact(hfp b hb).1.2.2.2.2.1 y c h1 z
   ·have h2:s.heap.objs.size+1≤b:=by rw[← z];exact h1
    exact absurd (A7 (hfp b hb).2 (Ct h2)) (Bh _)
  ·rcases(hfp b hb).1.2.2.2.1 with z|z
   ·exact I.ok.noex b o e z
   ·exact absurd (A7 (Heap.lt_size e) (AS I.ok.bsz z)) (Bh _)
  ·rcases List.mem_cons.mp (I.yl b z) with z|z
   ·exact(hfp b hb).1.2.1 z
   ·exact(hfp b hb).1.2.2.1 z
 refine⟨okB,rfl,I.bare,Un.kept kp,⟨fun _=>none,?_,fun i y av e1 e2 e3 => ?_⟩,fun y c e => ?_,?_,fun y c e => ?_,fun p hp => ?_,I.hok.kept kp,by rw[iU];exact I.len⟩
 ·show Heap.Ns _ cenv.locals _
  rw[hL];exact Heap.Ns.keeps (Heap.Ns.new ..) fun b o e=>pushCells_keeps _ _ _ _ e
 ·obtain⟨e2,hne⟩:=lY e2
  have hfr:scope.names.lookup y=some .free∧(cenv.kindOf y=some .cell∨cenv.kindOf y=some .free):=by
   have key:∀k,cenv.scope.names.lookup y=some k→k=.local∨k=.cell∨k=.free→scope.names.lookup y=some .free∧(cenv.kindOf y=some .cell∨cenv.kindOf y=some .free):=fun k hk hk'=>by
    have hk0:=hk;rw[hsc] at hk;obtain⟨k',e,r⟩:=iX hk;have no:¬(k'=.local∨k'=.cell):=fun hh=>by
     rcases ok.own _ (PySem.mem_of_lookup e) hh with e'|e'
     ·obtain⟨p,hp,hpy⟩:=List.mem_map.mp e'
      have e3:=ok.ix p hp;have:p.1=y:=hpy;rw[this] at e3;exact hne (List.mem_map.mpr ⟨p,hp,oZ hN e3 e1⟩)
     ·exact e' (A4 e1)
    rcases r with rfl|⟨rfl,rfl⟩
    ·rcases hk' with rfl|rfl|rfl
     ·exact absurd (.inl rfl) no
     ·exact absurd (.inr rfl) no
     ·exact⟨e,.inr hk0⟩
    ·exact⟨e,.inl hk0⟩
   have e3:Vis cenv.scope y:=e3;rcases e3 with e3|e3|e3
   ·exact key _ e3 (.inl rfl)
   ·exact key _ e3 (.inr (.inl rfl))
   ·exact key _ e3 (.inr (.inr rfl))
  obtain⟨m,hn,hl⟩:=I.loc;have hvis:Vis X.env.scope y:=(ok.free _ (PySem.mem_of_lookup hfr.1) rfl).elim (fun k=>.inr (.inl k)) (fun k=>.inr (.inr k));obtain⟨w,r,q⟩:=hl i y av e1 e2 hvis;refine⟨w,r,.inr ⟨hfr.2,?_⟩⟩;obtain⟨c,h1,h2⟩:=look hfr.1;rcases q with⟨k,_⟩|⟨_,c',e',z⟩
  ·have k:X.env.scope.names.lookup y=some .local:=k
   rcases ok.free _ (PySem.mem_of_lookup hfr.1) rfl with k'|k' <;> rw[show X.env.scope.names.lookup y=_ from k'] at k <;> cases k
  ·rw[h2] at e';cases e'
   exact⟨c,h1,z.keeps kp⟩
 ·have e:cenv.cells.lookup y=some c:=e
  rcases mem e with⟨h1,_⟩|⟨_,z⟩
  ·obtain⟨w,z⟩:=I.cell y c h1
   exact⟨w,z.keeps kp⟩
  ·exact⟨_,z⟩
 ·show H cenv.locals=none
  rw[hL];exact I.hok.fresh (Ae _)
 ·have e:cenv.cells.lookup y=some c:=e
  rcases mem e with⟨h1,_⟩|⟨h1,_⟩
  ·exact I.freeC y c h1
  ·exact I.hok.fresh (Ct h1)
 ·exact absurd (show p∈([]:List (Addr×Obj))++[] from hp) (by simp)
theorem agh{E:Value→Shared→Prop}{D:Addr}{xs:List V}{y:V}{v:Value}{Q:Value→Shared→Prop}(I:Inv X pins σ H s)(hD:H D=some (.lst xs))(hz:xs.length<sizeLine)(r:RelV y v)
  (h:∀s',Inv X pins σ (upd H D (.lst (xs++[y]))) s'→Q .none s'):wpAny (model X.prog X.w) X.A (call (.builtin "list.append") [.ref D,v]) Q E s:=by
 obtain⟨hz',its,n,ri,e⟩:=I.hok D _ hD;have hl:=ri.length;refine append_at (hsz:=by rw[Ay];omega) e fun h' sb ho' => ?_;refine h { s with heap:=h' } (I.write (t':=s.toks) (by rw[hD];trivial) (.inl rfl) (fun b u hb q=>(sb.2 b hb).trans q) ⟨_,ho'⟩ ⟨by rw[Ai];exact hz,its++[v],n+1,ri.append (.cons r .nil),?_⟩);rw[ho'];simp
def PTs(X:Cx)(ifs:List Expr)(t:TT):Prop :=
 ∀(pins:List (Addr×Obj)) (s:Shared) (σ:St) (H:Hp) (Q:Bool→Hp→Prop),Inv X pins σ H s→t σ H Q →
  wpAny (model X.prog X.w) X.A (forIn ifs true fun c r=>if r=true then do let ok ← isTrue c X.env (eval c X.env);pure (ForInStep.yield ok) else pure (ForInStep.yield r)) (TP X pins σ Q) X.xe s
def aib:TT:=fun _ H Q=>Q true H
theorem dh:PTs X [] aib:=fun _ _ _ H _ I h=>wpAny_tests_nil ⟨H,I,h⟩
theorem aeD{c:Expr}{t:TT}(h:PT X c t):PTs X [c] t:=fun pins s σ H Q I hw=>wpAny_tests_one (h pins s σ H Q I hw)
end
theorem aeQ{α:Type}{t:Sem α}{Q Q':α→Shared→Prop}{M:Model}{A:Around}{E:Value→Shared→Prop}{s:Shared}(h:wpAny M A t Q (fun _ _=>False) s)(hQ:∀a s,Q a s→Q' a s):wpAny M A t Q' E s:=wpAny_mono h hQ fun _ _ z=>False.elim z
theorem rB{prog:Program}{w:World}{A:Around}{R:Result→Shared→Prop}{s:Shared}{elt target iter:Expr}{ifs:List Expr}{scope:Scope}{pos:Pos}{it acc:Value}{env:Env}(I:Nat→Shared→Prop)
  (turn:∀n s,I n s→wpAny (model prog w) A (pyNext it) (fun r s₁=>match r with
   | none=>R (.ok .next) s₁
   | some v=>wpAny (model prog w) A (letOwnedTupleGo target it v) (fun _ s₁'=>wpAny (model prog w) A (assign target env v) (fun _ s₂ =>
     wpAny (model prog w) A (forIn ifs true fun c r=>if r=true then do let ok ← isTrue c env (eval c env);pure (ForInStep.yield ok) else pure (ForInStep.yield r)) (fun ok s₃ =>
      if ok=true then wpAny (model prog w) A (eval elt env) (fun x s₄ =>
       wpAny (model prog w) A (call (.builtin "list.append") [acc,x]) (fun _ s₅=>∃m,m<n∧I m s₅) (notedBy (model prog w) A env fun e s'=>R (.error e) s') s₄) (notedBy (model prog w) A env fun e s'=>R (.error e) s') s₃
      else ∃m,m<n∧I m s₃) (notedBy (model prog w) A env fun e s'=>R (.error e) s') s₂) (notedBy (model prog w) A env fun e s'=>R (.error e) s') s₁') (notedBy (model prog w) A env fun e s'=>R (.error e) s') s₁) (notedBy (model prog w) A env fun e s'=>R (.error e) s') s)
  (n:Nat) (h:I n s) :
  codeAny (model prog w) A (.compLoop (.ListComp elt [⟨target,iter,ifs,0⟩] scope pos) 0 it acc env) R s:=by
 refine codeAny_loop rfl I (fun n s hI => ?_) n h;show wpAny _ A ((compTurn (.ListComp elt [⟨target,iter,ifs,0⟩] scope pos) 0 it acc env).onRaise (fun x=>do noteFrame x env;theTreesLotGoes x)) _ _ s;refine wpAny_noted ?_;rw[compTurn_list];refine wpAny_bind (wpAny_standAt (wpAny_bind (wpAny_mono (turn n s hI) (fun r s₁ h₁ => ?_) fun _ _ h'=>h')));cases r with
 | none=>exact wpAny_pure h₁
 | some v =>
  refine wpAny_bind (wpAny_mono h₁ (fun _ s₁' h₁' => ?_) fun _ _ h'=>h');refine wpAny_bind (wpAny_mono h₁' (fun _ s₂ h₂=>wpAny_bind (wpAny_mono h₂ (fun ok s₃ h₃ => ?_) fun _ _ h'=>h')) fun _ _ h'=>h');cases ok with
  | false=>exact wpAny_pure ⟨rfl,h₃⟩
  | true =>
   exact wpAny_bind (wpAny_bind (wpAny_mono h₃ (fun x s₄ h₄=>wpAny_bind (wpAny_mono h₄ (fun _ s₅ h₅=>wpAny_pure (wpAny_pure ⟨rfl,h₅⟩)) fun _ _ h'=>h')) fun _ _ h'=>h'))
section
variable {X:Cx}
def tLc(wi:TI)(g:TG)(tt:TT)(te:TE)(vs:List Nat):TE:=fun σ H Q=>wi σ H fun J H1=>∀D,H1 D=none→∃W:Nat→Nat→Hp→Prop,(∃m,W 0 m (upd H1 D (.lst [])))∧∀i m H,W i m H →
 (J.stop i H∧Q (.ref D) H)∨(J.go i H∧∃Nx:Hp→Prop,(∀H',Nx H'→∃m',m'<m∧W (i+1) m' H')∧∀x H',J.yld i H x H'→g x (wipe σ vs) H' fun σ2 H2=>wipe σ2 vs=wipe σ vs∧tt σ2 H2 fun b H3 =>
  if b=true then te σ2 H3 fun y H4=>∃acc,H4 D=some (.lst acc)∧acc.length<sizeLine∧Nx (upd H4 D (.lst (acc++[y]))) else Nx H3)
theorem xc{pins:List (Addr×Obj)}{s:Shared}{σ:St}{H:Hp}{Q:VK}{elt tg iter:Expr}{ifs:List Expr}{scope:Scope}{own:List (Str×Nat)}{pos pos':Pos}{wi:TI}{g:TG}{tt:TT}{te:TE}{use:Option (Value→Sem Unit)}{Qf:Value→Shared→Prop}
  (hc:X.calm=true) (hN:X.N.Nodup) (I:Inv X pins σ H s) (hi:PI X tg iter wi) (ok:w6 X.N X.env.scope scope own)
  (hg:∀(s:Shared) (H:Hp) (C:Addr) (cl:List (Str×Addr)) (fp:List Addr),PG (X.blk s H scope (compEnvC scope cl C X.env) fp) tg g) (ht:∀(s:Shared) (H:Hp) (C:Addr) (cl:List (Str×Addr)) (fp:List Addr),PTs (X.blk s H scope (compEnvC scope cl C X.env) fp) ifs tt)
  (he:∀(s:Shared) (H:Hp) (C:Addr) (cl:List (Str×Addr)) (fp:List Addr),PE (X.blk s H scope (compEnvC scope cl C X.env) fp) elt te) (hs:∀x,foldedSetIterable iter X.env x=pure x)
  (h:tLc wi g tt te (own.map (·.2)) σ H Q)
  (hRR:∀D C s' m H',Inv X pins σ H' s'→Q (.ref D) H'→s'.heap.Ns C m→p9 X pins H' C→compPost (model X.prog X.w) X.A X.xe use Qf (.ref D) C (.ok .next) s') :
  wpAny (model X.prog X.w) X.A (comprehension (.ListComp elt [⟨tg,iter,ifs,0⟩] scope pos) scope X.env pos' (newList []) false (eval iter X.env) use) Qf X.xe s:=by
 have hfree:∀y∈scope.names,y.2=.free→∃c,X.env.cells.lookup y.1=some c:=fun y hy e=>by
  rcases ok.free y hy e with k|k
  ·exact I.ok.has _ (.inl k)
  ·exact I.ok.has _ (.inr k)
 refine wpAny_comprehension_free (use:=use) rfl hs (vI hfree) ok.kind (fun y hy e=>by rw[ok.uniq y hy,e])
  (thn (hi pins s σ H _ I h) fun xv s1 hx=>thn hx fun itv s2 h2 => ?_)
 obtain⟨it,fp,tn,J,H2,e,I2,T,st2,f2,q⟩:=h2;subst e;refine wpAny_newObj_type (rZ ?_) (by show 0≤sizeLine;decide);generalize hD:s2.heap.objs.size=D;have hDn:H2 D=none:=I2.hok.fresh (Dt hD);obtain⟨W,⟨m0,w0⟩,turn⟩:=q D hDn;generalize hs3:({ s2 with heap:=s2.heap.push { cls:=.type "list",data:=.seq ([]:List Value).toArray } }:Shared)=s3;have I3:Inv X pins σ (upd H2 D (.lst [])) s3:=by
  rw[← hs3];refine I2.laid (t':=s2.toks) (fun b o e=>Heap.get?_push_of_some _ e) (Dt hD) ⟨Av _,[],0,.nil,?_⟩;rw[← hD];exact Heap.get?_push_size _ rfl
 have h3:s3.heap=s2.heap.push { cls:=.type "list",data:=.seq ([]:List Value).toArray }:=by rw[← hs3]
 have sz:∀b∈fp,b<s2.heap.objs.size:=fun b hb=>by
  obtain⟨o,e,_⟩:=T.obj _ _ st2 b hb;exact Heap.lt_size e
 have f3:∀b∈fp,p9 X pins (upd H2 D (.lst [])) b∧b<s3.heap.objs.size:=fun b hb=>by
  have hlt:=sz b hb;refine⟨⟨?_,(f2 b hb).2⟩,by rw[h3,Heap.size_push];exact Cu hlt⟩;rw[az (by rw[← hD];exact AG hlt)];exact(f2 b hb).1
 have st3:tn 0 s3.heap:=T.keep _ _ _ st2 fun b _ o e=>by rw[h3];exact Heap.get?_push_of_some _ e
 have I4:=tT I3 ok hN f3;have pg:=hg s3 (upd H2 D (.lst [])) s3.heap.objs.size (cellsFrom (s3.heap.objs.size+1) scope.names (bA X.env.cells scope.names [])) fp;have pt:=ht s3 (upd H2 D (.lst [])) s3.heap.objs.size (cellsFrom (s3.heap.objs.size+1) scope.names (bA X.env.cells scope.names [])) fp;have pe:=he s3 (upd H2 D (.lst [])) s3.heap.objs.size (cellsFrom (s3.heap.objs.size+1) scope.names (bA X.env.cells scope.names [])) fp;show codeAny _ _ (.compStart (.ListComp elt [⟨tg,iter,ifs,0⟩] scope pos) 0 (.ref it) (.ref D) (compEnvC scope (cellsFrom (s3.heap.objs.size+1) scope.names (bA X.env.cells scope.names [])) s3.heap.objs.size X.env)) (compPost (model X.prog X.w) X.A X.xe use Qf (.ref D) s3.heap.objs.size) { s3 with heap:=pushCells (s3.heap.push { cls:=.type "dict",data:=.dict #[] }) scope.names };have nfp:∀b∈fp,(upd H2 D (.lst [])) b=none:=fun b hb=>(f3 b hb).1.1;generalize hce:compEnvC scope (cellsFrom (s3.heap.objs.size+1) scope.names (bA X.env.cells scope.names [])) s3.heap.objs.size X.env=ce at I4 pg pt pe ⊢;have cL:ce.locals=s3.heap.objs.size:=by subst hce;rfl
 generalize hH3:upd H2 D (.lst [])=H3 at I3 I4 pg pt pe w0 nfp f3;generalize hs4:({ s3 with heap:=pushCells (s3.heap.push { cls:=.type "dict",data:=.dict #[] }) scope.names }:Shared)=s4 at I4 ⊢;have st4:tn 0 s4.heap:=T.keep _ _ _ st3 fun b _ o e=>by rw[← hs4];exact pushCells_keeps _ _ _ _ (Heap.get?_push_of_some _ e)
 have stat:∀{σ':St} {H':Hp} {s':Shared},Inv (X.blk s3 H3 scope ce fp) [] σ' H' s'→(∀b∈fp,H' b=none)→∀b∈fp,p9 (X.blk s3 H3 scope ce fp) [] H' b:=fun{σ' H' s'} I' hn b hb =>
  ⟨hn b hb,(I'.ok.exf b hb).1,I'.ok.exfs b hb,.inl hb,fun x c e=>(I'.ok.exf b hb).2 x c e,fun p hp=>absurd (show p∈([]:List (Addr×Obj))++[] from hp) (by simp)⟩
 have loop:codeAny (model X.prog X.w) X.A (.compLoop (.ListComp elt [⟨tg,iter,ifs,0⟩] scope pos) 0 (.ref it) (.ref D) ce) (compPost (model X.prog X.w) X.A X.xe use Qf (.ref D) s3.heap.objs.size) s4:=by
  refine rB (fun n s'=>∃i H',Inv (X.blk s3 H3 scope ce fp) [] (wipe σ (own.map (·.2))) H' s'∧tn i s'.heap∧(∀b∈fp,H' b=none)∧W i n H') ?_ m0 ⟨0,H3,I4,st4,nfp,w0⟩;rintro n s5 ⟨i,H5,I5,st5,n5,w5⟩;rcases turn i n H5 w5 with⟨stop,qq⟩|⟨go,Nx,hNx,step⟩
  ·have td:=T.done (X.blk s3 H3 scope ce fp) rfl rfl rfl hc i [] s5 _ H5 (fun _ _=>False) I5 (stat I5 n5) st5 stop
   refine aeQ td fun r s6 ⟨hr,I6⟩ => ?_;subst hr;have I7:Inv X pins σ H5 s6:=I3.ahk (ch:=fp) I6.os I6.base I6.hok I6.bare fun b hb=>⟨(f3 b hb).1.2.2.2.1,(f3 b hb).1.2.1,(f3 b hb).1.2.2.2.2.1,(f3 b hb).1.2.2.2.2.2⟩;have nC:H5 s3.heap.objs.size=none:=by
    have z:H5 ce.locals=none:=I6.free;rw[cL] at z;exact z
   obtain⟨m,hn,_⟩:=I6.loc;have hn:s6.heap.Ns ce.locals m:=hn;rw[cL] at hn;exact hRR D s3.heap.objs.size s6 m H5 I7 qq hn (I3.aa1 (Ae _) nC)
  ·have ti:=T.item (X.blk s3 H3 scope ce fp) rfl rfl rfl hc i [] s5 _ H5 (fun _ _=>False) I5 (stat I5 n5) st5 go
   refine aeQ ti fun r s6 ⟨u,hr,h6⟩ => ?_;subst hr;refine aeQ h6 fun _ s7 ⟨x,H7,I7,r7,y7,st7,n7⟩ => ?_;have I7':=I7.pinned (stat I7 n7) (T.obj _ _ st7);refine aeQ (pg _ s7 _ H7 x u _ I7' r7 (step x H7 y7)) fun _ s8 ⟨σ8,H8,I8,hw8,q8⟩ => ?_;refine aeQ (pt _ s8 σ8 H8 _ I8 q8) fun b s9 ⟨H9,I9,q9⟩ => ?_;have fin:∀{s':Shared} {H':Hp},Inv (X.blk s3 H3 scope ce fp) ([]++qu fp s7.heap) σ8 H' s'→Nx H'→∃m,m<n∧∃i H',Inv (X.blk s3 H3 scope ce fp) [] (wipe σ (own.map (·.2))) H' s'∧tn i s'.heap∧(∀b∈fp,H' b=none)∧W i m H':=fun{s' H'} I' nx=>by
    obtain⟨m',hm,w'⟩:=hNx H' nx;have pin':∀b∈fp,∀o,s7.heap.get? b=some o→s'.heap.get? b=some o∧H' b=none:=fun b hb o e =>
     let z:=I'.pin (b,o) (AL _ (AL _ (j7 hb e)))
     ⟨z.1,z.2.1⟩
    have hl:(wipe σ (own.map (·.2))).length=σ8.length:=by rw[← hw8,iU]
    refine⟨m',hm,i+1,H',(I'.lF (pins := [])).weak hl (fun j v e => ?_),T.keep _ _ _ st7 fun b hb o e=>(pin' b hb o e).1,fun b hb => ?_,w'⟩
    ·rw[← hw8] at e
     exact(lY e).1
    ·obtain⟨o,e,_⟩:=T.obj _ _ st7 b hb
     exact(pin' b hb o e).2
   cases b with
   | false =>
    simp only[BA,Cq] at q9 ⊢;exact fin I9 q9
   | true =>
    simp only[CU] at q9 ⊢;refine aeQ (pe _ s9 σ8 H9 _ I9 q9) fun z s10 ⟨yv,H10,I10,r10,acc,hD10,hz10,nx⟩ => ?_;exact agh (X:=X.blk s3 H3 scope ce fp) I10 hD10 hz10 r10 fun s11 I11=>fin I11 nx
 exact codeAny_compStart_list loop (T.self X.A 0 _ _ _ st4 loop)
theorem aaG{elt tg iter:Expr}{ifs:List Expr}{scope:Scope}{own:List (Str×Nat)}{pos:Pos}{wi:TI}{g:TG}{tt:TT}{te:TE}(hc:X.calm=true)(hN:X.N.Nodup)(hi:PI X tg iter wi)(ok:w6 X.N X.env.scope scope own)
  (hg:∀(s:Shared) (H:Hp) (C:Addr) (cl:List (Str×Addr)) (fp:List Addr),PG (X.blk s H scope (compEnvC scope cl C X.env) fp) tg g) (ht:∀(s:Shared) (H:Hp) (C:Addr) (cl:List (Str×Addr)) (fp:List Addr),PTs (X.blk s H scope (compEnvC scope cl C X.env) fp) ifs tt)
  (he:∀(s:Shared) (H:Hp) (C:Addr) (cl:List (Str×Addr)) (fp:List Addr),PE (X.blk s H scope (compEnvC scope cl C X.env) fp) elt te) (hs:∀x,foldedSetIterable iter X.env x=pure x:=by intro _;rfl) :
  PE X (.ListComp elt [⟨tg,iter,ifs,0⟩] scope pos) (tLc wi g tt te (own.map (·.2))):=by
 intro pins s σ H Q I h;rw[eval_ListComp];refine xc hc hN I hi ok hg ht he hs h fun D C s' m H' I' q hn f=>⟨m,hn,fun h'' sb => ?_⟩;obtain⟨f0,f1,f2,f3,f4,f5⟩:=f;exact⟨.ref D,H',I'.turned (t':=s'.toks) (fun b o hb e=>(sb.2 b hb).trans e) f0 f1 f3 f4 f5,rfl,q⟩
theorem dD{i:Nat}{y:Str}{py:Pos}{elt tg iter:Expr}{ifs:List Expr}{scope:Scope}{own:List (Str×Nat)}{pos spos:Pos}{wi:TI}{g:TG}{tt:TT}{te:TE}(hc:X.calm=true)(hN:X.N.Nodup)(hy:X.N[i]? = some y)(hyl:X.env.scope.names.lookup y=some .local)
  (hsw:swapsWith (.ListComp elt [⟨tg,iter,ifs,0⟩] scope pos) (some (.Name y py)) spos.line X.env=pure true) (hi:PI X tg iter wi) (ok:w6 X.N X.env.scope scope own)
  (hg:∀(s:Shared) (H:Hp) (C:Addr) (cl:List (Str×Addr)) (fp:List Addr),PG (X.blk s H scope (compEnvC scope cl C X.env) fp) tg g) (ht:∀(s:Shared) (H:Hp) (C:Addr) (cl:List (Str×Addr)) (fp:List Addr),PTs (X.blk s H scope (compEnvC scope cl C X.env) fp) ifs tt)
  (he:∀(s:Shared) (H:Hp) (C:Addr) (cl:List (Str×Addr)) (fp:List Addr),PE (X.blk s H scope (compEnvC scope cl C X.env) fp) elt te) (hs:∀x,foldedSetIterable iter X.env x=pure x:=by intro _;rfl) :
  PS X (.Assign [.Name y py] (.ListComp elt [⟨tg,iter,ifs,0⟩] scope pos) spos) (ahT (tLc wi g tt te (own.map (·.2))) (o8 i)):=by
 intro pins s σ H D I h;rw[exec_Assign_Name_used _ _ _ _ hsw];refine wpAny_bind (wpAny_standAt (wpAny_bind ?_));show wpAny _ X.A (do let _ ← comprehension (.ListComp elt [⟨tg,iter,ifs,0⟩] scope pos) scope X.env (firstIterPos [⟨tg,iter,ifs,0⟩] pos) (newList []) false (eval iter X.env) (some (assign (.Name y py) X.env))) _ _ s;have h:tLc wi g tt te (own.map (·.2)) σ H (fun x H1=>o8 i x σ H1 D.nx):=h;refine wpAny_bind (thn (xc (Qf:=fun _ s'=>SP X pins D .next s') hc hN I hi ok hg ht he hs h fun L C s' m H' I' q hn f => ?_) fun _ s' hq=>wpAny_pure (wpAny_pure hq));show wpAny _ _ (assign (.Name y py) X.env (.ref L)) _ _ _;refine wpAny_assign_Name (rh (v:=V.ref L) I' hN hy (.inl hyl) rfl (fun s2 I2 ⟨a,sb,ha⟩ => ?_) (.inr hyl));obtain⟨f0,f1,f2,f3,f4,f5⟩:=f;have haC:C≠a:=by
  rcases ha with z|z
  ·rw[z];exact f1
  ·exact fun e=>f4 y a z e.symm
 refine⟨m,hn.sameBut sb haC,fun h3 sb3 => ?_⟩;exact⟨_,H',I2.turned (t':=s2.toks) (fun b o hb e=>(sb3.2 b hb).trans e) f0 f1 f3 f4 f5,q⟩
end
section
variable {κ:Type}[DecidableEq κ]
def i5(kvs:List (κ×V))(k:κ):Option V:=(kvs.find? fun kv=>decide (kv.1=k)).map (·.2)
def putK(kvs:List (κ×V))(k:κ)(v:V):List (κ×V) :=
 if (kvs.any fun kv=>decide (kv.1=k))=true then kvs.map (fun kv=>if kv.1=k then (kv.1,v) else kv) else kvs++[(k,v)]
theorem aaK{k:κ}:i5 ([]:List (κ×V)) k=none:=rfl
theorem bY{p:κ×V}{r:List (κ×V)}{k:κ}(e:p.1=k):i5 (p::r) k=some p.2:=by simp[i5,Bu,e]
theorem bZ{p:κ×V}{r:List (κ×V)}{k:κ}(e:¬p.1=k):i5 (p::r) k=i5 r k:=by simp[i5,Bu,e]
theorem jB(k:κ):∀kvs:List (κ×V),(kvs.any fun kv=>decide (kv.1=k))=(i5 kvs k).isSome
 | []=>rfl
 | p::r=>by
  rw[D9]
  by_cases e:p.1=k
  ·simp only[bY e,Ak e,CG,Option.isSome_some]
  ·rw[bZ e,Ax e,C6];exact jB k r
theorem uV(k j:κ)(y:V):∀kvs:List (κ×V),i5 (kvs.map fun kv=>if kv.1=k then (kv.1,y) else kv) j=(i5 kvs j).map fun x=>if j=k then y else x
 | []=>rfl
 | p::r=>by
  have ih:=uV k j y r;rw[A3]
  by_cases h:p.1=k
  ·rw[Ag h]
   by_cases e:p.1=j
   ·rw[bY (p:=(p.1,y)) e,bY e,CB,Ag (e.symm.trans h)]
   ·rw[bZ (p:=(p.1,y)) e,bZ e,ih]
  ·rw[Ad h]
   by_cases e:p.1=j
   ·rw[bY (p:=p) e,bY e,CB,Ad (fun z=>h (e.trans z))]
   ·rw[bZ (p:=p) e,bZ e,ih]
theorem qe(k j:κ)(y:V):∀kvs:List (κ×V),i5 kvs k=none→i5 (kvs++[(k,y)]) j=if j=k then some y else i5 kvs j
 | [],_=>by
  by_cases e:k=j
  ·rw[Ag e.symm];exact bY (p:=(k,y)) e
  ·rw[Ad (fun z=>e z.symm)];exact bZ (p:=(k,y)) e
 | p::r,hn=>by
  rw[C3];have hk:¬p.1=k:=fun z=>by rw[bY z] at hn;cases hn
  rw[bZ hk] at hn;have ih:=qe k j y r hn
  by_cases e:p.1=j
  ·rw[bY e,bY e,Ad (fun z=>hk (e.trans z))]
  ·rw[bZ e,bZ e,ih]
theorem aba(kvs:List (κ×V))(k j:κ)(y:V):i5 (putK kvs k y) j=if j=k then some y else i5 kvs j:=by
 unfold putK
 by_cases a:(kvs.any fun kv=>decide (kv.1=k))=true
 ·rw[Ag a,uV]
  rw[jB] at a
  by_cases e:j=k
  ·obtain⟨x,hx⟩:=Option.isSome_iff_exists.mp a
   rw[Ag e,e,hx,CB,Ag rfl]
  ·rw[Ad e]
   cases i5 kvs j with
   | none=>rfl
   | some x=>rw[CB,Ad e]
 ·rw[Ad a]
  refine qe k j y kvs ?_;rw[jB] at a;cases q:i5 kvs k with
  | none=>rfl
  | some x=>rw[q] at a;exact(a rfl).elim
theorem dH(kvs:List (κ×V))(k:κ)(v:V):(putK kvs k v).length≤kvs.length+1:=by
 unfold putK
 split
 ·rw[Ab];omega
 ·rw[Ai,Aq,B1];omega
theorem uz{kvs:List (κ×V)}{k:κ}(v:V)(h:i5 kvs k=none):putK kvs k v=kvs++[(k,v)]:=by
 unfold putK;rw[jB,h];exact Ad (by decide)
theorem uA.gc{o:Option V}{u:Option Value}(r:uA o u):o.isSome=u.isSome:=by
 cases o with
 | none=>cases u with
  | none=>rfl
  | some _=>exact(show False from r).elim
 | some _=>cases u with
  | none=>exact(show False from r).elim
  | some _=>rfl
theorem KV.val{kvs:List (κ×V)}{vs:List (κ×Value)}(r:KV kvs vs)(k:κ):uA (i5 kvs k) (valueAt vs k):=by
 unfold KV at r
 induction r with
 | nil=>exact True.intro
 | @cons p q ps qs h t ih =>
  obtain⟨h1,h2⟩:=h
  by_cases e:p.1=k
  ·have e':q.1=k:=h1.symm.trans e
   have b:valueAt (q::qs) k=some q.2:=by simp[valueAt,Bu,e']
   rw[bY e,b];exact h2
  ·have e':¬q.1=k:=fun z=>e (h1.trans z)
   have b:valueAt (q::qs) k=valueAt qs k:=by simp[valueAt,Bu,e']
   rw[bZ e,b];exact ih
theorem KV.any{kvs:List (κ×V)}{vs:List (κ×Value)}(r:KV kvs vs)(k:κ):(kvs.any fun kv=>decide (kv.1=k))=vs.any fun kv=>decide (kv.1=k):=by
 unfold KV at r
 induction r with
 | nil=>rfl
 | cons h t ih=>rw[D9,D9,ih,h.1]
theorem KV.ah2{kvs:List (κ×V)}{vs:List (κ×Value)}(r:KV kvs vs)(k:κ){y:V}{u:Value}(ry:RelV y u) :
  KV (kvs.map fun kv=>if kv.1=k then (kv.1,y) else kv) (vs.map fun kv=>if kv.1=k then (kv.1,u) else kv):=by
 unfold KV at r ⊢
 induction r with
 | nil=>exact .nil
 | @cons p q ps qs h t ih =>
  rw[A3,A3];refine .cons ?_ ih;obtain⟨h1,h2⟩:=h
  by_cases e:p.1=k
  ·rw[Ag e,Ag (h1.symm.trans e)];exact⟨h1,ry⟩
  ·rw[Ad e,Ad (fun z=>e (h1.trans z))];exact⟨h1,h2⟩
theorem KV.put{kvs:List (κ×V)}{vs:List (κ×Value)}(r:KV kvs vs)(k:κ){y:V}{u:Value}(ry:RelV y u):KV (putK kvs k y) (stored vs k u):=by
 unfold putK stored;rw[r.any k]
 by_cases e:(vs.any fun kv=>decide (kv.1=k))=true
 ·rw[Ag e,Ag e];exact r.ah2 k ry
 ·rw[Ad e,Ad e];exact Paired.snoc r ⟨rfl,ry⟩
theorem KV.length{kvs:List (κ×V)}{vs:List (κ×Value)}(r:KV kvs vs):kvs.length=vs.length:=Paired.length r
end
theorem x3{P:Program}{w:World}{k:Key}{u:Value}(r:RelV (kV k) u):(bR P w).is k u=true:=by
 cases k with
 | inl i=>obtain⟨t,e⟩:=(show ∃t,u=Value.int i t from r);subst e;exact sr P w i t
 | inr x=>obtain⟨t,e⟩:=(show ∃t,u=Value.str x t from r);subst e;exact tX P w x t
theorem qS{P:Program}{w:World}:∀{ks:List Key} {us:List Value},Vals (ks.map kV) us→ItemsAre (bR P w) ks us
 | [],_,r=>by rw[Cs] at r;cases r;exact .nil
 | k::ks,_,r=>by
  rw[A3] at r;cases r with
  | cons h t=>exact .cons (x3 h) (qS t)
abbrev KT(H:Hp):List (List Key×V)→List (List Key×Addr×Value)→Prop:=Paired fun p q=>p.1=q.1∧H q.2.1=some (.tup (p.1.map kV))∧RelV p.2 q.2.2
theorem KT.val{H:Hp}{kvs:List (List Key×V)}{xs:List (List Key×Addr×Value)}(r:KT H kvs xs)(k:List Key):uA (i5 kvs k) ((atKey xs k).map (·.2)):=by
 induction r with
 | nil=>exact True.intro
 | @cons p q ps qs h t ih =>
  obtain⟨h1,_,h2⟩:=h
  by_cases e:p.1=k
  ·have e':q.1=k:=h1.symm.trans e
   have b:atKey (q::qs) k=some q.2:=by simp[atKey,Bu,e']
   rw[bY e,b];exact h2
  ·have e':¬q.1=k:=fun z=>e (h1.trans z)
   have b:atKey (q::qs) k=atKey qs k:=by simp[atKey,Bu,e']
   rw[bZ e,b];exact ih
theorem KT.ah2{H:Hp}{kvs:List (List Key×V)}{xs:List (List Key×Addr×Value)}(r:KT H kvs xs)(k:List Key){y:V}{u:Value}(ry:RelV y u) :
  KT H (kvs.map fun kv=>if kv.1=k then (kv.1,y) else kv) (xs.map (putAt k u)):=by
 induction r with
 | nil=>exact .nil
 | @cons p q ps qs h t ih =>
  rw[A3,A3];refine .cons ?_ ih;obtain⟨h1,h2,h3⟩:=h;unfold putAt
  by_cases e:p.1=k
  ·rw[Ag e,Ag (h1.symm.trans e)];exact⟨h1,h2,ry⟩
  ·rw[Ad e,Ad (fun z=>e (h1.trans z))];exact⟨h1,h2,h3⟩
theorem KT.put{H:Hp}{kvs:List (List Key×V)}{xs:List (List Key×Addr×Value)}(r:KT H kvs xs)(k:List Key){b:Addr}{y:V}{u:Value}(hb:H b=some (.tup (k.map kV)))(ry:RelV y u) :
  KT H (putK kvs k y) (storedH xs k b u):=by
 have e:(kvs.any fun kv=>decide (kv.1=k))=(atKey xs k).isSome:=by
  rw[jB,(r.val k).gc,CV]
 unfold putK storedH;rw[e]
 by_cases q:(atKey xs k).isSome=true
 ·rw[Ag q,Ag q];exact r.ah2 k ry
 ·rw[Ad q,Ad q];exact Paired.snoc r ⟨rfl,hb,ry⟩
theorem KT.keeps{H H':Hp}{kvs:List (List Key×V)}{xs:List (List Key×Addr×Value)}(r:KT H kvs xs)(ht:∀b ys,H b=some (.tup ys)→H' b=some (.tup ys)):KT H' kvs xs :=
 Paired.ahc r fun _ _ z=>⟨z.1,ht _ _ z.2.1,z.2.2⟩
section
variable {P:Program}{w:World}{H:Hp}{h:Heap}{a:Addr}
theorem afy{u:HO}(ok:HOk P w H h)(e:Rd H a u):cJ P w H h a u:=e.ok ok
theorem aaV{kvs:List (Key×V)}(ok:HOk P w H h)(e:Rd H a (.dK kvs)):kvs.length≤sizeLine∧(a==sysModules)=false∧∃vs,KV kvs vs∧h.DictOf (bR P w) a vs :=
 show cJ P w H h a (.dK kvs) from afy ok e
theorem agM{kvs:List (Key×V)}(ok:HOk P w H h)(e:H a=some (.dK kvs)):kvs.length≤sizeLine∧(a==sysModules)=false∧∃vs,KV kvs vs∧h.DictOf (bR P w) a vs:=aaV ok (.inl e)
theorem qP{ks:List Key}(ok:HOk P w H h)(e:H a=some (.tup (ks.map kV))):(tupleKind (bR P w)).is h ks a:=by
 obtain⟨_,its,r,o,h1,h2,n,h3⟩:=(show cJ P w H h a (.tup (ks.map kV)) from ok a _ e);exact⟨o,its.toArray,n,h1,h2,h3,by simpa using qS r⟩
theorem adA{kvs:List (List Key×V)}(ok:HOk P w H h)(e:Rd H a (.dT kvs)):kvs.length≤sizeLine∧(a==sysModules)=false ∧
  ∃xs,KT H kvs xs∧h.DictOfH (tupleKind (bR P w)) a xs:=by
 obtain⟨z,y,xs,r,o,es,ep,h1,h2,h3,h4,h5⟩:=(show cJ P w H h a (.dT kvs) from afy ok e);refine⟨z,y,xs,r,o,es,ep,h1,h2,h3,h4,fun x hx => ?_,h5⟩;have all:∀{l:List (List Key×V)} {m:List (List Key×Addr×Value)},KT H l m→∀x∈m,(tupleKind (bR P w)).is h x.1 x.2.1:=by
  intro l m q
  induction q with
  | nil=>intro x hx;exact nomatch hx
  | @cons p q ps qs hq t ih =>
   intro x hx;rcases List.mem_cons.mp hx with e|hx
   ·subst e
    exact qP ok (by rw[← hq.1];exact hq.2.1)
   ·exact ih x hx
 exact all r x hx
theorem agA{kvs:List (List Key×V)}(ok:HOk P w H h)(e:H a=some (.dT kvs)):kvs.length≤sizeLine∧(a==sysModules)=false ∧
  ∃xs,KT H kvs xs∧h.DictOfH (tupleKind (bR P w)) a xs:=adA ok (.inl e)
end
def sO(H:Hp)(a:Addr)(y:V)(r:Option V):Prop :=
 (∃kvs k,Rd H a (.dK kvs)∧y=kV k∧r=i5 kvs k)∨∃kvs k b,Rd H a (.dT kvs)∧y=.ref b∧H b=some (.tup (k.map kV))∧r=i5 kvs k
def aaB(H:Hp)(a:Addr)(y v:V)(H':Hp):Prop :=
 (∃kvs k,H a=some (.dK kvs)∧y=kV k∧kvs.length<sizeLine∧H'=upd H a (.dK (putK kvs k v))) ∨
 ∃kvs k b,H a=some (.dT kvs)∧y=.ref b∧H b=some (.tup (k.map kV))∧kvs.length<sizeLine∧H'=upd H a (.dT (putK kvs k v))
theorem sO.k{H:Hp}{a:Addr}{kvs:List (Key×V)}{k:Key}(e:H a=some (.dK kvs)):sO H a (kV k) (i5 kvs k):=.inl ⟨kvs,k,.inl e,rfl,rfl⟩
theorem sO.t{H:Hp}{a b:Addr}{kvs:List (List Key×V)}{k:List Key}(e:H a=some (.dT kvs))(eb:H b=some (.tup (k.map kV))):sO H a (.ref b) (i5 kvs k):=.inr ⟨kvs,k,b,.inl e,rfl,eb,rfl⟩
theorem aaB.k{H:Hp}{a:Addr}{kvs:List (Key×V)}{k:Key}{v:V}(e:H a=some (.dK kvs))(hl:kvs.length<sizeLine):aaB H a (kV k) v (upd H a (.dK (putK kvs k v))):=.inl ⟨kvs,k,e,rfl,hl,rfl⟩
theorem aaB.t{H:Hp}{a b:Addr}{kvs:List (List Key×V)}{k:List Key}{v:V}(e:H a=some (.dT kvs))(eb:H b=some (.tup (k.map kV)))(hl:kvs.length<sizeLine) :
  aaB H a (.ref b) v (upd H a (.dT (putK kvs k v))):=.inr ⟨kvs,k,b,e,rfl,eb,hl,rfl⟩
section
variable {X:Cx}{pins:List (Addr×Obj)}{σ:St}{H:Hp}{s:Shared}{a:Addr}{y v:V}{u r:Value}{o:Option V}{A:Around}{E:Value→Shared→Prop}
theorem Inv.big(I:Inv X pins σ H s):sysModules<s.heap.objs.size:=by
 have h:mainGlobals<s.heap.objs.size:=(I.mod.glob.keeps I.bk).lt;exact Nat.lt_trans (by decide) h
theorem aiY{Q:Value→Shared→Prop}(hu:A.units+1<cLine)(I:Inv X pins σ H s)(g:sO H a y o)(ry:RelV y u)(h:∀s',Inv X pins σ H s'→Q (.bool o.isSome) s') :
  wpAny (model X.prog X.w) A (compareOp .In u (.ref a)) Q E s:=by
 rcases g with⟨kvs,k,e,ey,l⟩|⟨kvs,k,b,e,ey,eb,l⟩
 ·subst ey
  obtain⟨z,hd,vs,rel,dd⟩:=aaV I.hok e;refine wpAny_in_of (x3 ry) hd dd.mapOf ?_;rw[← (rel.val k).gc,← l];exact h _ (I.tok _)
 ·subst ey
  cases(show u=Value.ref b from ry)
  obtain⟨z,hd,xs,rel,dd⟩:=adA I.hok e;refine wpAny_in_heap (tupleKind_room_in1 hu) (qP I.hok eb) hd dd ?_;have q:=(rel.val k).gc;rw[CV] at q;rw[← q,← l];exact h _ (I.tok _)
theorem adZ{Q:Value→Shared→Prop}(hu:A.units+1<cLine)(I:Inv X pins σ H s)(g:sO H a y o)(ry:RelV y u)(h:∀s',Inv X pins σ H s'→Q (.bool (!o.isSome)) s') :
  wpAny (model X.prog X.w) A (compareOp .NotIn u (.ref a)) Q E s:=by
 rcases g with⟨kvs,k,e,ey,l⟩|⟨kvs,k,b,e,ey,eb,l⟩
 ·subst ey
  obtain⟨z,hd,vs,rel,dd⟩:=aaV I.hok e;refine wpAny_notIn_of (x3 ry) hd dd.mapOf ?_;rw[← (rel.val k).gc,← l];exact h _ (I.tok _)
 ·subst ey
  cases(show u=Value.ref b from ry)
  obtain⟨z,hd,xs,rel,dd⟩:=adA I.hok e;refine wpAny_notIn_heap (tupleKind_room_in1 hu) (qP I.hok eb) hd dd ?_;have q:=(rel.val k).gc;rw[CV] at q;rw[← q,← l];exact h _ (I.tok _)
theorem oO{h':Heap}{t':Nat}{ob:HO}(I:Inv X pins σ H s)(mu:Mut (H a))(hs:Heap.SameBut a s.heap h')(he:∃q,h'.get? a=some q)(new:cJ X.prog X.w (upd H a ob) h' a ob) :
  Inv X pins σ (upd H a ob) { s with heap:=h',toks:=t' } :=
 I.write (x:=a) (e:=a) mu (.inl rfl) (fun b q hb z=>(hs.2 b hb).trans z) he new
theorem ab1{P:Program}{w:World}{H':Hp}{h':Heap}{kvs:List (Key×V)}{vs:List (Key×Value)}(z:kvs.length≤sizeLine)(hd:(a==sysModules)=false)(rel:KV kvs vs)(dd:h'.DictOf (bR P w) a vs) :
  cJ P w H' h' a (.dK kvs):=⟨z,hd,vs,rel,dd⟩
theorem wW{H':Hp}{Q:Unit→Shared→Prop}(hu:A.units+1<cLine)(I:Inv X pins σ H s)(g:aaB H a y v H')(ry:RelV y u)(rv:RelV v r)(h:∀s',Inv X pins σ H' s'→Q () s') :
  wpAny (model X.prog X.w) A (setItem (.ref a) u r) Q E s:=by
 rcases g with⟨kvs,k,e,ey,l,eH⟩|⟨kvs,k,b,e,ey,eb,l,eH⟩
 ·subst ey eH
  obtain⟨z,hd,vs,rel,dd⟩:=agM I.hok e;have hz:vs.length≤sizeLine:=by rw[← rel.length];exact z
  have hl:(putK kvs k v).length≤sizeLine:=by have:=dH kvs k v;omega
  refine wpAny_setItem_pairs (hsz:=hz) (x3 ry) dd fun h' dd' hs=>h _ ?_;have he:∃q,h'.get? a=some q:=let ⟨q,_,_,hq,_⟩:=dd';⟨q,hq⟩
  exact oO I (by rw[e];exact True.intro) hs he (ab1 hl hd (rel.put k rv) dd')
 ·subst ey eH
  cases(show u=Value.ref b from ry)
  obtain⟨z,hd,xs,rel,dd⟩:=agA I.hok e;have hz:xs.length≤sizeLine:=by rw[← Paired.length rel];exact z
  have hl:(putK kvs k v).length≤sizeLine:=by have:=dH kvs k v;omega
  refine wpAny_setItem_heap (hsz:=hz) (tupleKind_room_in1 hu) (qP I.hok eb) dd fun h' dd' hs=>h _ ?_;obtain⟨q,es,ep,hq,h2,h3,h4,_,h5⟩:=dd';refine oO I (by rw[e];exact True.intro) hs ⟨q,hq⟩ ⟨hl,hd,_,(rel.put k eb rv).keeps fun c ys ec => ?_,q,es,ep,hq,h2,h3,h4,h5⟩;rw[az (sV ec e (fun z=>nomatch z))];exact ec
end
section
variable {X:Cx}{pins:List (Addr×Obj)}{σ:St}{H:Hp}{s:Shared}{a:Addr}{kvs:List (Key×V)}{k:Key}{u:Value}{A:Around}{E:Value→Shared→Prop}
theorem ahW{Q:Value→Shared→Prop}(I:Inv X pins σ H s)(e:Rd H a (.dK kvs))(h:∀t s',Inv X pins σ H s'→Q (.int kvs.length t) s'):wpAny (model X.prog X.w) A (call (.builtin "len") [.ref a]) Q E s:=by
 obtain⟨z,hd,vs,rel,dd⟩:=aaV I.hok e;refine call_len_dict hd dd (by rw[← rel.length];rw[sizeLine_eq] at z;omega) ?_;rw[← rel.length];exact h _ _ (I.tok _)
end
def ajf(ty td:TE):TE:=fun σ H Q=>ty σ H fun y H1=>td σ H1 fun x H2=>∃a o,x=.ref a∧sO H2 a y o∧Q (.bl o.isSome) H2
def ac5(ty td:TE):TE:=fun σ H Q=>ty σ H fun y H1=>td σ H1 fun x H2=>∃a o,x=.ref a∧sO H2 a y o∧Q (.bl (!o.isSome)) H2
def ahJ(td ty tv:TE):TS:=fun D σ H=>tv σ H fun v H1=>td σ H1 fun x H2=>ty σ H2 fun y H3=>∃a H4,x=.ref a∧aaB H3 a y v H4∧D.nx σ H4
section
variable {X:Cx}{o i e value:Expr}{pos pos' tpos:Pos}{td ty tv:TE}
theorem ab7(hu:X.A.units+1<cLine)(hi:PE X i ty)(ho:PE X o td):PC X .In i o (ajf ty td):=by
 intro pins s σ H Q I h;refine thn (hi pins s σ H _ I h) fun iv s1 ⟨y,H1,I1,ry,q1⟩=>thn (ho pins s1 σ H1 _ I1 q1) fun u s2 ⟨x,H2,I2,rx,a,ov,ex,g,q2⟩ => ?_;subst ex;obtain rfl:u=Value.ref a:=rx;exact aiY hu I2 g ry fun s3 I3=>⟨.bl ov.isSome,H2,I3,rfl,q2⟩
theorem gk(hu:X.A.units+1<cLine)(hi:PE X i ty)(ho:PE X o td):PC X .NotIn i o (ac5 ty td):=by
 intro pins s σ H Q I h;refine thn (hi pins s σ H _ I h) fun iv s1 ⟨y,H1,I1,ry,q1⟩=>thn (ho pins s1 σ H1 _ I1 q1) fun u s2 ⟨x,H2,I2,rx,a,ov,ex,g,q2⟩ => ?_;subst ex;obtain rfl:u=Value.ref a:=rx;exact adZ hu I2 g ry fun s3 I3=>⟨.bl (!ov.isSome),H2,I3,rfl,q2⟩
theorem pJ(hu:X.A.units+1<cLine)(ho:PE X o td)(hi:PE X i ty)(hv:PE X value tv)(hs:swapsWith value (some (.Subscript o i pos')) pos.line X.env=pure false) :
  PS X (.Assign [.Subscript o i pos'] value pos) (ahJ td ty tv):=by
 intro pins s σ H D I h;refine wpAny_Assign_Subscript (thn (hv pins s σ H _ I h) fun r s1 ⟨v,H1,I1,rv,q1⟩=>thn (ho pins s1 σ H1 _ I1 q1) fun u s2 ⟨x,H2,I2,rx,q2⟩=>thn (hi pins s2 σ H2 _ I2 q2) fun iv s3 ⟨y,H3,I3,ry,a,H4,ex,g,q3⟩ => ?_) hs;subst ex;obtain rfl:u=Value.ref a:=rx;exact wW hu I3 g ry rv fun s4 I4=>⟨σ,H4,I4,q3⟩
end
theorem uS{P:Program}{w:World}{H:Hp}(h:Heap)(hb:sysModules<h.objs.size):cJ P w H (h.push { cls:=.type "dict",data:=.dict #[] }) h.objs.size (.dK []) :=
 ⟨Av _,beq_eq_false_iff_ne.mpr (Ne.symm (AG hb)),[],.nil,Heap.DictOf.new h⟩
theorem vm{P:Program}{w:World}{H:Hp}(h:Heap)(hb:sysModules<h.objs.size):cJ P w H (h.push { cls:=.type "dict",data:=.dict #[] }) h.objs.size (.dT []) :=
 ⟨Av _,beq_eq_false_iff_ne.mpr (Ne.symm (AG hb)),[],.nil,_,#[],0,Heap.get?_push_size _ rfl,⟨rfl,rfl,rfl⟩,rfl,rfl,CK⟩
def agW:TE:=fun _ H Q=>∀p,H p=none→Q (.ref p) (upd H p (.dK []))
def ae2:TE:=fun _ H Q=>∀p,H p=none→Q (.ref p) (upd H p (.dT []))
section
variable {X:Cx}{pos:Pos}
theorem u0:PE X (.Dict [] [] pos) agW:=fun pins s σ H Q I h =>
 wpAny_Dict_empty ⟨.ref s.heap.objs.size,_,I.laid (a:=s.heap.objs.size) (o:=.dK []) (t':=s.toks) (fun _ _ q=>Heap.get?_push_of_some _ q) (Ae _) (uS s.heap I.big),rfl,h _ (I.hok.fresh (Ae _))⟩
theorem aaZ:PE X (.Dict [] [] pos) ae2:=fun pins s σ H Q I h =>
 wpAny_Dict_empty ⟨.ref s.heap.objs.size,_,I.laid (a:=s.heap.objs.size) (o:=.dT []) (t':=s.toks) (fun _ _ q=>Heap.get?_push_of_some _ q) (Ae _) (vm s.heap I.big),rfl,h _ (I.hok.fresh (Ae _))⟩
end
def xH:List (TE×TE)→St→Hp→(List (V×V)→Hp→Prop)→Prop
 | [],_,H,Q=>Q [] H
 | (tk,tv)::r,σ,H,Q=>tk σ H fun x H1=>tv σ H1 fun y H2=>xH r σ H2 fun ps H3=>Q ((x,y)::ps) H3
abbrev VV:List (V×V)→List (Value×Value)→Prop:=Paired fun p q=>RelV p.1 q.1∧RelV p.2 q.2
def PPs(X:Cx)(pos:Pos)(keys:List (Option Expr))(values:List Expr)(trs:List (TE×TE)):Prop :=
 ∀(pins:List (Addr×Obj)) (s:Shared) (σ:St) (H:Hp) (Q:List (V×V)→Hp→Prop),Inv X pins σ H s→xH trs σ H Q →
  wpAny (model X.prog X.w) X.A (evalPairs (pairTrees keys values X.env pos)) (fun vs s'=>∃ps H',Inv X pins σ H' s'∧VV ps vs∧Q ps H') X.xe s
theorem aee{X:Cx}{pos:Pos}:PPs X pos [] [] []:=fun pins s σ H Q I h=>pairTrees_nil_walk ⟨[],H,I,.nil,h⟩
theorem aa3{X:Cx}{pos:Pos}{k v:Expr}{ks:List (Option Expr)}{vs:List Expr}{tk tv:TE}{trs:List (TE×TE)}(hk:PE X k tk)(hv:PE X v tv)(hr:PPs X pos ks vs trs) :
  PPs X pos (some k::ks) (v::vs) ((tk,tv)::trs):=fun pins s σ H Q I h =>
 pairTrees_cons_walk (thn (hk pins s σ H _ I h) fun u s1 ⟨x,H1,I1,rx,q1⟩=>thn (hv pins s1 σ H1 _ I1 q1) fun w2 s2 ⟨y,H2,I2,ry,q2⟩ =>
  thn (hr pins s2 σ H2 _ I2 q2) fun ws s3 ⟨ps,H3,I3,rel,q3⟩=>⟨(x,y)::ps,H3,I3,.cons ⟨rx,ry⟩ rel,q3⟩)
def n9(kvs more:List (Key×V)):List (Key×V):=more.foldl (fun acc kv=>putK acc kv.1 kv.2) kvs
theorem KV.merge:∀{more:List (Key×V)} {rs:List (Key×Value)} {kvs:List (Key×V)} {vs:List (Key×Value)},KV more rs→KV kvs vs→KV (n9 kvs more) (merged vs rs):=by
 intro more rs kvs vs r;unfold KV at r
 induction r generalizing kvs vs with
 | nil=>intro q;exact q
 | @cons p q ps qs h t ih =>
  intro r0;have e:KV (putK kvs p.1 p.2) (stored vs q.1 q.2):=by
   have:=r0.put p.1 h.2;rw[← h.1];exact this
  exact ih e
theorem jw:∀(more kvs:List (Key×V)),(n9 kvs more).length≤kvs.length+more.length
 | [],kvs=>by show kvs.length≤kvs.length+0;omega
 | p::r,kvs=>by
  have h1:=jw r (putK kvs p.1 p.2);have h2:=dH kvs p.1 p.2;show(n9 (putK kvs p.1 p.2) r).length≤_;rw[Aq];omega
theorem oj{P:Program}{w:World}:∀{kvs:List (Key×V)} {ws:List (Value×Value)},VV (kvs.map fun kv=>(kV kv.1,kv.2)) ws→∃rs,Carries (bR P w) ws rs∧KV kvs rs
 | [],_,r=>by rw[Cs] at r;cases r;exact⟨[],True.intro,.nil⟩
 | p::kvs,_,r=>by
  rw[A3] at r;cases r with
  | @cons a b as bs h t =>
   obtain⟨rs,c,q⟩:=oj (P:=P) (w:=w) t;obtain⟨b1,b2⟩:=b;exact⟨(p.1,b2)::rs,⟨x3 h.1,rfl,c⟩,.cons ⟨rfl,h.2⟩ q⟩
def ahb(trs:List (TE×TE)):TE:=fun σ H Q=>∀p,H p=none→xH trs σ (upd H p (.dK [])) fun ps H2=>H2 p=some (.dK [])∧∃kvs:List (Key×V),ps=kvs.map (fun kv=>(kV kv.1,kv.2))∧kvs.length≤15∧Q (.ref p) (upd H2 p (.dK (n9 [] kvs)))
theorem aeh{X:Cx}{pos:Pos}{keys:List (Option Expr)}{values:List Expr}{trs:List (TE×TE)}(h:PPs X pos keys values trs)(hall:keys.all (·.isSome)=true)(hl:keys.length=values.length)(h0:keys≠[])
  (h15:keys.length≤15):PE X (.Dict keys values pos) (ahb trs):=by
 intro pins s σ H Q I q;have hn:=I.hok.fresh (Ae s.heap.objs.size);have I1:=I.laid (a:=s.heap.objs.size) (o:=.dK []) (h':=s.heap.push { cls:=.type "dict",data:=.dict #[] }) (t':=s.toks) (fun _ _ q=>Heap.get?_push_of_some _ q) (Ae _) (uS s.heap I.big);refine wpAny_Dict_walk (knd:=bR X.prog X.w) hall hl h0 h15 (thn (h pins _ σ _ _ I1 (q _ hn)) fun ws s2 ⟨ps,H2,I2,rel,e,kvs,ep,lk,q2⟩ => ?_);subst ep;obtain⟨rs,c,rk⟩:=oj (P:=X.prog) (w:=X.w) rel;obtain⟨z,hd,vs0,r0,dd⟩:=agM I2.hok e;cases r0
 refine⟨rs,c,dd,fun h' dd' hs=>⟨.ref s.heap.objs.size,_,?_,rfl,q2⟩⟩;have hz:(n9 [] kvs).length≤sizeLine:=by
  have h1:=jw kvs [];rw[B1] at h1;rw[sizeLine_eq];omega
 have he:∃q,h'.get? s.heap.objs.size=some q:=let ⟨q,_,_,hq,_⟩:=dd';⟨q,hq⟩
 exact oO I2 (by rw[e];exact True.intro) hs he (ab1 hz hd (rk.merge .nil) dd')
theorem nJ:typeLookup (.type "list") "keys" = pure none:=am_miss_of_fast (by first|decide +kernel|rfl)
theorem uZ:entryFor table "dict.update.loop" = some Builtin.«dict.update.loop» := entryFor_of_tree (by kernel_rfl)
theorem jq:plainId "dict.update.loop" = true:=by decide +kernel
section
variable {prog:Program}{w:World}{A:Around}{E:Value→Shared→Prop}
theorem xo{s:Shared}{a:Addr}{o:Obj}{xs:Array Value}{k:Nat}{Q:Option Value→Shared→Prop}(hx:s.heap.get? a=some o)(hc:o.cls=.type "list")(hdat:o.data=.seq xs k)(hd:o.dict=none)(hA:A.handled=none)
  (h:∀h' tk,(∀b ob,s.heap.get? b=some ob→h'.get? b=some ob)→Q none { s with heap:=h',toks:=tk }):wpAny (model prog w) A (getAttr? (.ref a) "keys") Q E s:=by
 obtain⟨c,dct,dat,sl⟩:=o;simp only at hc hdat hd;subst hc hdat hd;obtain⟨hp,g,d,tk,os⟩:=s;have hT:∀tk',(⟨hp,g,d,tk',os⟩:Shared).TypeIs (.ref a) "list" := fun _=>⟨_,hx,rfl⟩;have hmiss:=nJ;have hname:(["__module__","__name__","__qualname__","__doc__","__annotations__"]:List Str).contains "keys" = false:=by decide +kernel
 have hsz:("keys" : Str).length+100≤sizeLine:=by first|size_fits|decide +kernel
 have f1:=sub_AttributeError;have f3:=PySem.F.slot_list_getattribute.lookup;have f4:=PySem.F.slot_list_getattribute.bind (.ref a);have f5:=am_list_getattr_none;unfold getAttr? getAttrBy? getAttrBy
 repeat (any_goals (first|assumption|exact hT _|((with_reducible show wpAny _ _ (call (Value.builtin "list.__getattribute__") _ _) _ _ _);refine call_meets PySem.F.slot_list_getattribute (hT _) am_entry_list_getattribute (PySem.F.args_list_getattribute_2 _ _) (meets_getattribute_miss_list a xs k sl "keys" _ hmiss hname hsz) ⟨hx,hA,fun h' tk' e hx' => ?_⟩)|wp_step))
 obtain⟨t',u',he⟩:=hx'.there;show wpAny _ _ (getattributeRaised _ _ _ _ _ _ _) _ _ _;unfold getattributeRaised
 repeat (any_goals (first|assumption|wp_step))
 all_goals first|exact h _ _ hx'.keeps|(dsimp only;repeat (any_goals (first|assumption|exact h _ _ hx'.keeps|wp_step)))
end
section
variable {X:Cx}
theorem sy:∀{ps:List Addr} {us:List Value},Vals (ps.map V.ref) us→us=ps.map Value.ref
 | [],us,r=>by
  rw[Cs] at r;cases r
  rfl
 | p::ps,us,r=>by
  rw[A3] at r;cases r with
  | cons h t =>
   cases h
   rw[A3,← sy t]
end
theorem nH:bootBuiltins "reversed" = some (.type "reversed"):=by decide +kernel
section
variable {X:Cx}{pins:List (Addr×Obj)}{σ:St}{H:Hp}{s:Shared}{h':Heap}
theorem Inv.aex{t':Nat}{ch:List Addr}(I:Inv X pins σ H s)(k:∀b o,b ∉ ch→s.heap.get? b=some o→h'.get? b=some o)(hf:∀b∈ch,p9 X pins H b):Inv X pins σ H { s with heap:=h',toks:=t' }:=by
 have nit:∀b u,H b=some u→b ∉ ch:=fun b u e z=>by
  have q:=(hf b z).1;rw[q] at e;cases e
 refine I.step (g':=s.gens) (d':=s.drawn) (ch:=ch) (fun b hb=>⟨(hf b hb).2.2.2.1,(hf b hb).2.1,(hf b hb).2.2.2.2.1,(hf b hb).2.2.2.2.2⟩) (fun b o _ _ hc e _=>k b o hc e) (fun b o _ _ hc e _=>⟨o.slots,k b o hc e⟩)
  (fun _ _ _ _ n=>n) (fun b o hc e=>⟨o,k b o hc e⟩) (fun _ _ e=>e) (fun _ _ _ e=>e) (fun b ps e=>⟨#[],by rw[e];simp⟩) (fun m hm => ?_) (fun b u e => ?_) I.bare
 ·obtain⟨o,es,ep,ho,r⟩:=hm
  exact⟨o,es,ep,k _ o (fun z=>(hf _ z).2.1 rfl) ho,r⟩
 ·refine(I.hok b u e).ad7 (fun c v hc q=>k c v ?_ q) (fun _ q=>q) fun _ _ q=>q
  rcases hc with z|z
  ·rw[z];exact nit b u e
  ·exact nit c _ z
theorem Inv.mF{t':Nat}{ch:List Addr}{T:Addr}{ob:HO}(I:Inv X pins σ H s)(k:∀b o,b ∉ ch→s.heap.get? b=some o→h'.get? b=some o)(hf:∀b∈ch,p9 X pins H b)(hT:s.heap.objs.size≤T)
  (new:cJ X.prog X.w (upd H T ob) h' T ob):Inv X pins σ (upd H T ob) { s with heap:=h',toks:=t' }:=by
 have hn:H T=none:=I.hok.fresh hT;have nit:∀b u,H b=some u→b ∉ ch:=fun b u e z=>by
  have q:=(hf b z).1;rw[q] at e;cases e
 refine I.step (g':=s.gens) (d':=s.drawn) (ch:=ch) (fun b hb=>⟨(hf b hb).2.2.2.1,(hf b hb).2.1,(hf b hb).2.2.2.2.1,(hf b hb).2.2.2.2.2⟩) (fun b o _ _ hc e _=>k b o hc e) (fun b o _ _ hc e _=>⟨o.slots,k b o hc e⟩)
  (fun b o _ e n => ?_) (fun b o hc e=>⟨o,k b o hc e⟩) (fun b xs e => ?_) (fun b o u e => ?_) (fun b ps e=>⟨#[],?_⟩) (fun m hm => ?_) (fun b u e => ?_) I.bare
 ·rw[az (AG (A7 (Heap.lt_size e) hT))];exact n
 ·rw[az (aN e hn)];exact e
 ·rw[az (aN e hn)];exact e
 ·rw[az (aN e hn),e];simp
 ·obtain⟨o,es,ep,ho,r⟩:=hm
  exact⟨o,es,ep,k _ o (fun z=>(hf _ z).2.1 rfl) ho,r⟩
 ·by_cases hb:b=T
  ·subst hb
   rw[ag] at e;cases e
   exact new
  ·rw[az hb] at e
   refine(I.hok b u e).ad7 (fun c v hc q=>k c v ?_ q) (fun c q=>by rw[az (aN q hn)];exact q) fun c xs q=>by rw[az (aN q hn)];exact q
   rcases hc with z|z
   ·rw[z];exact nit b u e
   ·exact nit c _ z
end
section
variable {X:Cx}
theorem acN{tg:Expr}{pins:List (Addr×Obj)}{σ:St}{H:Hp}{s:Shared}{R:It→Hp→Prop}{J:It}{tn:Nat→Heap→Prop}{tk:Nat}(I:Inv X pins σ H s)(o:Obj)
  (T:Turn X.prog X.w X.K tg J [s.heap.objs.size] s.heap.objs.size tn) (st:tn 0 (s.heap.push o)) (q:R J H):PIE X pins σ tg R (.ref s.heap.objs.size) { s with heap:=s.heap.push o,toks:=tk }:=by
 refine⟨s.heap.objs.size,[s.heap.objs.size],tn,J,H,rfl,I.kept fun b ob e=>Heap.get?_push_of_some _ e,T,st,fun b hb => ?_,q⟩;have e:b=s.heap.objs.size:=by simpa using hb
 subst e;exact I.aa1 (Ae _) (I.hok.fresh (Ae _))
end
def Itc(lo c:Int)(n:Nat):It:=⟨fun i _=>i<n,fun i H x H'=>H'=H∧x=.int (lo+(i:Nat)*c),fun i _=>n≤i⟩
theorem tj{P:Program}{w:World}{K:DG}{tg:Expr}(it:Addr)(lo c:Int)(n:Nat):Turn P w K tg (Itc lo c n) [it] it (fun i h=>IsRangeIter h it (lo+(i:Nat)*c) ((n:Int)-(i:Nat)) c) where
 mem:=by simp
 obj:=fun i h st b hb=>by
  have e:b=it:=by simpa using hb
  subst e;exact⟨_,st,fun v z=>nomatch z⟩
 keep:=fun i h h' st k=>k it (by simp) _ st
 item:=by
  intro X hP hw hK hc i pins s σ H E I hf st hg;subst hP hw hK;obtain⟨f0,f1,f2,f3,f4,f5⟩:=hf it (by simp);have W:=Walks.range (prog:=X.prog) (w:=X.w) (I.ok.hd hc) it lo c n;refine W.item i s _ _ hg st fun v h' tk hv st' kk => ?_;obtain⟨t,rfl⟩:=hv;have I1:Inv X pins σ H { s with heap:=h',toks:=tk }:=I.turned (fun b o hb e=>kk b o (by simpa using hb) e) f0 f1 f3 f4 f5;exact⟨_,rfl,y6 (s:={ s with heap:=h',toks:=tk }) (n := "range_iterator") st' rfl rfl (by decide) ⟨.int (lo+(i:Nat)*c),H,I1,⟨t,rfl⟩,⟨rfl,rfl⟩,st',fun b hb=>(hf b hb).1⟩⟩
 done:=by
  intro X hP hw hK hc i pins s σ H E I hf st hg;subst hP hw hK;obtain⟨f0,f1,f2,f3,f4,f5⟩:=hf it (by simp);exact wpAny_pyNext_range_end (I.ok.hd hc) st (by have:n≤i:=hg;omega) fun h' eb=>⟨rfl,I.turned (t':=s.toks) (fun b o hb e=>eb b o hb e) f0 f1 f3 f4 f5⟩
 self:=fun A i s Q E st h=>wpAny_pyIter_rangeiter st h
def RgC(i j c:Int)(n:Nat):Prop:=c≠0∧c.natAbs<1073741824∧Builtin.Range.small i j c=true∧Builtin.Range.rangeSize i j c=n
def ahX(ta:TA):TI:=fun σ H R=>ta σ H fun vs H1=>∃(i j c:Int) (n:Nat),vs=[.int i,.int j,.int c]∧RgC i j c n∧R (Itc i c n) H1
section
variable {X:Cx}{tg:Expr}
theorem js{a b c:Expr}{ta:TA}{p pos:Pos}(hg:Gl X "range")(hm:X.mg "range" = none)(ha:PA X [a,b,c] ta)
  (hs:starEach [a,b,c] X.env=(false,eval a X.env)::starEach [b,c] X.env:=by rfl) (hpl:(backTo pos (starEach [b,c] X.env)).any (·.1)=false:=by rfl) :
  PI X tg (.Call (.Name "range" p) [a,b,c] [] pos) (ahX ta):=by
 intro pins s σ H R I h;refine Call_ (iz I hg hm boot_range (PyProof.Rows.callWith_type1 (thn (ha pos pins s σ H _ I h) fun us s1 ⟨vs,H1,I1,r1,q1⟩ => ?_) hs hpl));obtain⟨i,j,k,n,e,⟨c0,c1,c2,c3⟩,q⟩:=q1;subst e;cases r1 with
 | cons r rr =>
  cases rr with
  | cons r' rr =>
   cases rr with
   | cons r'' rr =>
    cases rr
    obtain⟨t,rfl⟩:=r;obtain⟨t',rfl⟩:=r';obtain⟨t'',rfl⟩:=r'';refine call_range_3 c0 ?_ (.inl (PyProof.noPylong_small c1));refine wpAny_pyIter_range (IsRange.new ..) c2 ?_;have I2:Inv X pins σ H1 { s1 with heap:=s1.heap.push { cls:=.type "range",data:=.fields #[.int i t,.int j t',.int k t''] } }:=I1.kept (t':=s1.toks) fun b o e=>Heap.get?_push_of_some _ e;refine acN (tk:=s1.toks) I2 _ (tj _ i k n) ?_ q;have e1:i+((0:Nat):Int)*k=i:=by simp
    have e2:(n:Int)-((0:Nat):Int)=Builtin.Range.rangeSize i j k:=by rw[c3];simp
    show IsRangeIter _ _ (i+((0:Nat):Int)*k) ((n:Int)-((0:Nat):Int)) k;rw[e1,e2];exact Heap.get?_push_size _ rfl
end
def Itv(K:DG)(a:Addr)(n:Nat):It :=
 ⟨fun i H=>i<n∧∃(xs:List V) (x:V),SqL K H a xs∧xs[n-1-i]? = some x,fun i H x H'=>H'=H∧∀xs,SqL K H a xs→xs[n-1-i]? = some x,fun i _=>n≤i⟩
theorem aaP{P:Program}{w:World}{K:DG}{tg:Expr}(a it:Addr)(n:Nat):Turn P w K tg (Itv K a n) [it] it (fun i h=>i≤n∧h.IsRevIter it a ((n:Int)-1-(i:Nat))) where
 mem:=by simp
 obj:=fun i h st b hb=>by
  have e:b=it:=by simpa using hb
  subst e;obtain⟨_,o,e,c,d⟩:=st;exact⟨o,e,fun v z=>by rw[d] at z;cases z⟩
 keep:=fun i h h' st k=>⟨st.1,st.2.at fun o e=>k it (by simp) o e⟩
 item:=by
  intro X hP hw hK hc i pins s σ H E I hf st hg;subst hP hw hK;obtain⟨hin,xs,x,hq,hx⟩:=hg;obtain⟨its,rv,p,hz⟩:=I.list hq;obtain⟨u,hu,ru⟩:=rv.get hx;obtain⟨f0,f1,f2,f3,f4,f5⟩:=hf it (by simp);obtain⟨_,hit⟩:=st;have e1:(n:Int)-1-((i:Nat):Int)=((n-1-i:Nat):Int):=by omega
  rw[e1] at hit;refine wpAny_pyNext_rev_item hit p.isList (x:=u) (by simpa using hu) fun h' st' sb => ?_;have e2:((n-1-i:Nat):Int)-1=(n:Int)-1-((i+1:Nat):Int):=by omega
  rw[e2] at st';have I1:Inv X pins σ H { s with heap:=h' }:=I.turned (t':=s.toks) (fun b o hb e=>(sb.2 b hb).trans e) f0 f1 f3 f4 f5;obtain⟨o,e,c,d⟩:=id st';exact⟨u,rfl,y6 (s:={ s with heap:=h' }) e c d (by decide) ⟨x,H,I1,ru,⟨rfl,fun ys hy=>by rw[I.jy hy hq];exact hx⟩,⟨hin,st'⟩,fun b hb=>(hf b hb).1⟩⟩
 done:=by
  intro X hP hw hK hc i pins s σ H E I hf st hg;subst hP hw hK;obtain⟨f0,f1,f2,f3,f4,f5⟩:=hf it (by simp);obtain⟨hin,hit⟩:=st;have hge:n≤i:=hg;have e1:(n:Int)-1-((i:Nat):Int) = -1:=by omega
  rw[e1] at hit;exact wpAny_pyNext_rev_end (I.ok.hd hc) hit fun h' eb=>⟨rfl,I.turned (t':=s.toks) (fun b o hb e=>eb b o hb e) f0 f1 f3 f4 f5⟩
 self:=fun A i s Q E st h=>wpAny_pyIter_revIter st.2 h
def ajb(K:DG)(ta:TA):TI:=fun σ H R=>ta σ H fun vs H1=>∃(a:Addr) (xs:List V),vs=[.ref a]∧SqL K H1 a xs∧R (Itv K a xs.length) H1
section
variable {X:Cx}{tg:Expr}
theorem sW{e:Expr}{ta:TA}{p pos:Pos}(hg:Gl X "reversed")(hm:X.mg "reversed" = none)(ha:PA X [e] ta)(hs:starEach [e] X.env=[(false,eval e X.env)]:=by rfl):PI X tg (.Call (.Name "reversed" p) [e] [] pos) (ajb X.K ta):=by
 intro pins s σ H R I h;refine Call_ (iz I hg hm nH (PyProof.Rows.callWith_type1 (thn (ha pos pins s σ H _ I h) fun us s1 ⟨vs,H1,I1,r1,q1⟩ => ?_) hs rfl));obtain⟨a,xs,e,hq,q⟩:=q1;subst e;cases r1 with
 | cons r rr =>
  cases rr
  cases r
  obtain⟨its,rv,p',hz⟩:=I1.list hq;have hl:=rv.length;have e1:((its.toArray.size:Nat):Int)-1=(xs.length:Int)-1-((0:Nat):Int):=by simp only[Ay];omega
  refine call_reversed_list p'.isList (wpAny_pyIter_revIter (l:=a) (i:=((its.toArray.size:Nat):Int)-1) ⟨_,Heap.get?_push_size _ rfl,rfl,rfl⟩ ?_);refine acN (tk:=s1.toks) I1 _ (aaP a _ xs.length) ⟨Av _,?_⟩ q;rw[← e1];exact⟨_,Heap.get?_push_size _ rfl,rfl,rfl⟩
end
def Ite(K:DG)(a:Addr):It :=
 ⟨fun i H=>∃(xs:List V) (x:V),SqL K H a xs∧xs[i]? = some x,fun i H v H'=>∃T x,v=.ref T∧H T=none∧H'=upd H T (.tup [.int (i:Nat),x])∧∀xs,SqL K H a xs→xs[i]? = some x,fun i H=>∃xs:List V,SqL K H a xs∧xs.length≤i⟩
theorem zw{P:Program}{w:World}{K:DG}{elts:List Expr}{kk:Nat}{tpos:Pos}(a e it:Addr) :
  Turn P w K (.Tuple elts kk tpos) (Ite K a) [e,it] e (fun i h=>(∃old,IsEnum h e it ((i:Nat):Int) old)∧h.IsListIter it a i∧e≠it) where
 mem:=by simp
 obj:=fun i h st b hb=>by
  obtain⟨⟨old,he⟩,⟨o,ho,hc,hd⟩,_⟩:=st;have e':b=e∨b=it:=by simpa using hb
  rcases e' with z|z
  ·rw[z];exact⟨_,he,fun v q=>nomatch q⟩
  ·rw[z];exact⟨o,ho,fun v q=>by rw[hd] at q;cases q⟩
 keep:=fun i h h' st k=>let ⟨⟨old,he⟩,hi,hne⟩:=st;⟨⟨old,k e (by simp) _ he⟩,hi.at fun o q=>k it (by simp) o q,hne⟩
 item:=by
  intro X hP hw hK hc i pins s σ H E I hf st hg;subst hP hw hK;obtain⟨⟨old,he⟩,hit,hne⟩:=st;obtain⟨xs,x,hq,hx⟩:=hg;obtain⟨its,rv,p,hz⟩:=I.list hq;obtain⟨u,hu,ru⟩:=rv.get hx;have hel:e<s.heap.objs.size:=Heap.lt_size he;have hil:it<s.heap.objs.size:=by obtain⟨_,q,_⟩:=hit;exact Heap.lt_size q
  refine wpAny_pyNext_enum_item he hit p.isList (x:=u) (by simpa using hu) hne fun h' ho hit' hT hsz hk => ?_;refine⟨_,rfl,wpAny_letOwnedTupleGo_enum (s:={ s with heap:=h',toks:=s.toks+1 }) ho fun h'' he' sb => ?_⟩;have hT2:h''.get? s.heap.objs.size=some { cls:=.type "tuple",data:=.seq #[.int i s.toks,u] }:=(sb.2 _ (BG hel)).trans hT;have new:cJ X.prog X.w (upd H s.heap.objs.size (.tup [.int (i:Nat),x])) h'' s.heap.objs.size (.tup [.int (i:Nat),x]) :=
   ⟨by show 2≤sizeLine;decide,[.int i s.toks,u],.cons ⟨_,rfl⟩ (.cons ru .nil),⟨_,hT2,rfl,_,rfl⟩⟩
  have I1:Inv X pins σ (upd H s.heap.objs.size (.tup [.int (i:Nat),x])) { s with heap:=h'',toks:=s.toks+1 } :=
   I.mF (ch := [e,it]) (fun b ob hb q=>(sb.2 b (fun z=>hb (by simp[z]))).trans (hk b ob (fun z=>hb (by simp[z])) (fun z=>hb (by simp[z])) q)) hf (Ae _) new
  refine⟨.ref s.heap.objs.size,_,I1,rfl,⟨_,x,rfl,I.hok.fresh (Ae _),rfl,fun ys hy=>by rw[I.jy hy hq];exact hx⟩,⟨⟨u,?_⟩,hit'.at fun o q=>(sb.2 it (Ne.symm hne)).trans q,hne⟩,fun b hb => ?_⟩
  ·have e1:((i+1:Nat):Int)=(i:Int)+1:=by omega
   rw[e1];exact he'
  ·have hb':b<s.heap.objs.size:=by
    have e':b=e∨b=it:=by simpa using hb
    rcases e' with z|z
    ·rw[z];exact hel
    ·rw[z];exact hil
   rw[az (AG hb')];exact(hf b hb).1
 done:=by
  intro X hP hw hK hc i pins s σ H E I hf st hg;subst hP hw hK;obtain⟨⟨old,he⟩,hit,hne⟩:=st;obtain⟨xs,hq,hx⟩:=hg;obtain⟨its,rv,p,hz⟩:=I.list hq;obtain⟨f0,f1,f2,f3,f4,f5⟩:=hf it (by simp);have hl:=rv.length;exact wpAny_pyNext_enum_end (I.ok.hd hc) he hit p.isList (by simp;omega) fun h' eb=>⟨rfl,I.turned (t':=s.toks) (fun b o hb q=>eb b o hb q) f0 f1 f3 f4 f5⟩
 self:=fun A i s Q E st h=>let ⟨⟨_,he⟩,_⟩:=st;wpAny_pyIter_enum he h
inductive aio(K:DG)(vs:List V)(H:Hp)(R:It→Hp→Prop):Prop
 | mk (a:Addr) (xs:List V) (h1:vs=[.ref a]) (h2:SqL K H a xs) (q:R (Ite K a) H):aio K vs H R
def ahj(K:DG)(ta:TA):TI:=fun σ H R=>ta σ H fun vs H1=>aio K vs H1 R
theorem dP{X:Cx}{e:Expr}{ta:TA}{p pos tpos:Pos}{elts:List Expr}{kk:Nat}(hg:Gl X "enumerate")(hm:X.mg "enumerate" = none)(ha:PA X [e] ta)(hs:starEach [e] X.env=[(false,eval e X.env)]:=by rfl) :
  PI X (.Tuple elts kk tpos) (.Call (.Name "enumerate" p) [e] [] pos) (ahj X.K ta):=by
 intro pins s σ H R I h;refine Call_ (iz I hg hm boot_enumerate (PyProof.Rows.callWith_type1 (thn (ha pos pins s σ H _ I h) fun us s1 ⟨vs,H1,I1,r1,q1⟩ => ?_) hs rfl));obtain⟨a,xs,ex,hq,q⟩:=q1;subst ex;cases r1 with
 | cons r rr =>
  cases rr
  cases r
  obtain⟨its,rv,p',hz⟩:=I1.list hq;refine call_enumerate_list p'.isList fun h' he hit hsz hk=>wpAny_pyIter_enum he ?_;have I2:Inv X pins σ H1 { s1 with heap:=h' }:=I1.kept (t':=s1.toks) hk;refine⟨s1.heap.objs.size+1,[s1.heap.objs.size+1,s1.heap.objs.size],_,_,H1,rfl,I2,zw a (s1.heap.objs.size+1) s1.heap.objs.size,⟨⟨.none,he⟩,hit,Nat.succ_ne_self _⟩,fun b hb => ?_,q⟩;have e':b=s1.heap.objs.size+1∨b=s1.heap.objs.size:=by simpa using hb
  have hle:s1.heap.objs.size≤b:=by
   rcases e' with z|z
   ·rw[z];exact Dh _ _
   ·rw[z];exact Ae _
  exact I1.aa1 hle (I1.hok.fresh hle)
theorem yu:bootBuiltins "zip" = some (.type "zip"):=by decide +kernel
def Itz(K:DG)(a b:Addr):It :=
 ⟨fun i H=>∃(xs ys:List V) (x y:V),SqL K H a xs∧SqL K H b ys∧xs[i]? = some x∧ys[i]? = some y,
  fun i H v H'=>∃T x y,v=.ref T∧H T=none∧H'=upd H T (.tup [x,y])∧(∀xs,SqL K H a xs→xs[i]? = some x)∧∀ys,SqL K H b ys→ys[i]? = some y,
  fun i H=>∃xs ys:List V,SqL K H a xs∧SqL K H b ys∧(xs.length≤i∨ys.length≤i)⟩
def aiU(K:DG)(ta:TA):TI:=fun σ H R=>ta σ H fun vs H1=>∃a b xs ys,vs=[.ref a,.ref b]∧SqL K H1 a xs∧SqL K H1 b ys∧R (Itz K a b) H1
def inClass(s:Stmt)(j:Nat):Stmt:=match s with
 | .ClassDef _ _ _ body _ _ _ _ _ _ _=>body.getD j (.Pass ⟨0,0,0,0⟩)
 | _=>.Pass ⟨0,0,0,0⟩
def dJ(s:Stmt):Arguments:=match s with
 | .FunctionDef _ a _ _ _ _ _ _ _ _=>a
 | _=>{ posonlyargs := [],args := [],vararg:=none,kwonlyargs := [],kw_defaults := [],kwarg:=none,defaults := [] }
def bT(s:Stmt):List Stmt:=match s with
 | .FunctionDef _ _ b _ _ _ _ _ _ _=>b
 | _=>[]
def aE(s:Stmt):Scope:=match s with
 | .FunctionDef _ _ _ _ _ _ sc _ _ _=>sc
 | _=>{ kind:=.function,names := [],isGenerator:=false,isCoroutine:=false }
abbrev CX0:CXT:=fun _ _ _ _ _ _=>False
abbrev E0:XK:=fun _ _ _=>False
theorem tI{X:Cx}:Passes CX0 X E0:=fun _ _ _ _ _ _ _ h=>h.elim
structure Fun(K:DG)(x qual:Str)(st:Stmt)(f:Addr)(fd:FuncData):Prop where
 ex:∃(oc:Value) (od:Option Addr) (kV doc pm:Value) (an:Option Addr) (cdv ct:Value) (osl:Array (Option Value)),
  fd=PySem.W.fnOf x qual (dJ st) (bT st) (aE st) .none kV doc pm an cdv ct∧K.lookup f=some ⟨oc,od,.func fd,osl⟩∧PySem.W.codeIn K cdv qual=true
 kp:PySem.W.keepIn K (.ref f)=true
section
variable {P:Program}{w:World}{K:DG}{mg:DH}{base:Heap}
theorem Fun.ok{x qual:Str}{st:Stmt}{f:Addr}{fd:FuncData}{N ps:List Str}{k:Nat}{sp:Sp}(F:Fun K x qual st f fd)(S:bG N ps (aE st))(len:∀vs H Q E,sp vs H Q E→vs.length=ps.length)
  (i6:∀(cdv:Value) (A:Around) (outer:List Env) (s:Shared) (H:Hp) (vs:List V) (Q:VK) (E:XK),e6 k (A.deeper (envOfC qual (aE st) s.heap.objs.size f cdv))→sp vs H Q E →
   ∃t,PSs (wI CX0 P w K mg base N qual (aE st) f cdv A outer s H E).nox (bT st) t∧t { nx:=fun _ H'=>Q .non H',rt:=Q } (start N vs) H):nB P w K mg base CX0 (k+1) f fd ps sp:=by
 obtain⟨oc,od,kV,doc,pm,an,cdv,ct,osl,rfl,lk,hcd⟩:=F.ex;refine ah0 lk hcd S len fun A outer s H vs Q E hr hsp => ?_;obtain⟨t,h,q⟩:=i6 cdv A outer s H vs Q E hr hsp;exact⟨t,h.nox,q⟩
theorem Fun.binds{x qual:Str}{st:Stmt}{f:Addr}{fd:FuncData}{ps:List Str}(F:Fun K x qual st f fd)
  (h:∀(kV doc pm:Value) (an:Option Addr) (cdv ct:Value) (us:List Value),us.length=ps.length→bindArgs (PySem.W.fnOf x qual (dJ st) (bT st) (aE st) .none kV doc pm an cdv ct) ⟨us,[]⟩=pure (ps.zip us)):Binds K fd ps []:=by
 obtain⟨oc,od,kV,doc,pm,an,cdv,ct,osl,rfl,lk,hcd⟩:=F.ex;exact .all (h kV doc pm an cdv ct)
theorem l8{x qual:Str}{st:Stmt}{f:Addr}{oc:Value}{od an:Option Addr}{osl:Array (Option Value)}{kV doc pm cdv ct:Value}(l:K.lookup f=some ⟨oc,od,.func (PySem.W.fnOf x qual (dJ st) (bT st) (aE st) .none kV doc pm an cdv ct),osl⟩)
  (c:PySem.W.codeIn K cdv qual=true) (k:PySem.W.keepIn K (.ref f)=true):Fun K x qual st f (PySem.W.fnOf x qual (dJ st) (bT st) (aE st) .none kV doc pm an cdv ct):=⟨⟨oc,od,kV,doc,pm,an,cdv,ct,osl,rfl,l,c⟩,k⟩
end
theorem nI{A:Around}{k:Nat}(hr:e6 k A):A.units+1<cLine:=Nat.lt_of_le_of_lt (Nat.add_le_add_left (by decide:1≤64) _) hr.units
section
variable {X:Cx}
theorem pv(i:Nat){x:Str}{pos:Pos}(hN:X.N[i]? = some x:=by rfl)(hv:Vis X.env.scope x:=by first|exact Or.inl rfl|exact Or.inr (Or.inl rfl)|exact Or.inr (Or.inr rfl))(hd:(x==("__debug__" : Str))=false:=by decide)
  (hcd:(x==("__classdict__" : Str))=false:=by decide):PE X (.Name x pos) (acB i):=agN hN hv hd hcd
theorem mL:nD X (.builtin "len") (fun xs H Q=>∃a kvs,xs=[V.ref a]∧H a=some (.dK kvs)∧Q (.int kvs.length) H):=by
 intro pins s σ H xs us Q I r h;obtain⟨a,kvs,rfl,ha,q⟩:=h;obtain⟨u,rfl,ru⟩:=vals1 r;cases ru
 exact ahW I (.inl ha) fun t s' I'=>⟨.int kvs.length,H,I',⟨t,rfl⟩,q⟩
end
theorem fS{A B:Prop}(h:B):if false=true then A else B:=by
 rw[Ad Az];exact h
theorem f6{A B:Prop}(h:A):if true=true then A else B:=by
 rw[Ag rfl];exact h
theorem bJ{c A B:Prop}[Decidable c](h1:c→A)(h2:¬c→B):if c then A else B:=by
 by_cases h:c
 ·rw[Ag h]
  exact h1 h
 ·rw[Ad h]
  exact h2 h
def aL(H H':Hp):Prop:=∀b o,H b=some o→H' b=some o
theorem aL.refl(H:Hp):aL H H:=fun _ _ h=>h
theorem aL.trans{H H1 H2:Hp}(a:aL H H1)(b:aL H1 H2):aL H H2:=fun c o h=>b c o (a c o h)
theorem aL.free{H H':Hp}(e:aL H H'){l:Addr}(h:H' l=Option.none):H l=Option.none:=by
 cases q:H l with
 | none=>rfl
 | some o =>
  rw[e l o q] at h;cases h
theorem aL.seq{K:DG}{H H':Hp}{a:Addr}{xs:List V}(e:aL H H')(h:SqL K H a xs):SqL K H' a xs:=by
 rcases h with(h|⟨o,h⟩)|h
 ·exact .inl (.inl (e _ _ h))
 ·exact .inl (.inr ⟨o,e _ _ h⟩)
 ·exact .inr h
section
variable {κ:Type}[DecidableEq κ]
theorem tP:∀{l:List κ} {k:κ},l.Nodup→¬k∈l→(l++[k]).Nodup
 | [],k,_,_=>by simp
 | a::r,k,h,hk=>by
  obtain⟨h1,h2⟩:=List.nodup_cons.mp h;show(a::(r++[k])).Nodup;refine List.nodup_cons.mpr ⟨fun m => ?_,tP h2 fun m=>hk (List.mem_cons.mpr (Or.inr m))⟩;rcases List.mem_append.mp m with q|q
  ·exact h1 q
  ·exact hk (List.mem_cons.mpr (Or.inl (List.mem_singleton.mp q).symm))
end
theorem at_of{xs:List V}{z:Int}{j:Nat}{v:V}(e:z=(j:Int))(h:xs[j]? = some v):atI xs z=some v:=by
 rw[e];exact aM h
theorem ahr{α:Type}{l:List α}(hN:l.Nodup){i j:Nat}{x:α}(a:l[i]? = some x)(b:l[j]? = some x):i=j:=by
 obtain⟨h1,e1⟩:=List.getElem?_eq_some_iff.mp a;obtain⟨h2,e2⟩:=List.getElem?_eq_some_iff.mp b;exact(List.getElem_inj hN).mp (e1.trans e2.symm)
end L2
section
namespace L2
open PySem PySem.Spec PyProof.Rows
open PySem.W (WData Codec OpenSpec Well WellAll ReadsW ReadsAllW)
mutual
inductive Dw(K:DG)(H:Hp):V→WData→Prop
 | non:Dw K H .non .none
 | bl (b:Bool):Dw K H (.bl b) (.bool b)
 | int (i:Int):Dw K H (.int i) (.int i)
 | str (x:Str):Dw K H (.str x) (.str x)
 | byt (b:Array UInt8):Dw K H (.byt b) (.bytes b.toList)
 | lst {a:Addr} {xs:List V} {ds:List WData}:SqL K H a xs→lB K H xs ds→Dw K H (.ref a) (.list ds)
 | tup {a:Addr} {xs:List V} {ds:List WData}:SqT K H a xs→lB K H xs ds→Dw K H (.ref a) (.tuple ds)
inductive lB(K:DG)(H:Hp):List V→List WData→Prop
 | nil:lB K H [] []
 | cons {v:V} {vs:List V} {d:WData} {ds:List WData}:Dw K H v d→lB K H vs ds→lB K H (v::vs) (d::ds)
end
theorem wL{K:DG}{H:Hp}:∀ns:List Int,lB K H (ns.map V.int) (ns.map WData.int)
 | []=>.nil
 | n::r=>.cons (.int n) (wL r)
theorem pI{K:DG}{H:Hp}:∀(ns:List Int) (xs:List V),lB K H xs (ns.map WData.int)→xs=ns.map V.int
 | [],xs,h=>by
  cases h
  rfl
 | n::r,xs,h=>by
  cases h with
  | cons h1 h2 =>
   cases h1
   rw[pI r _ h2] <;> rfl
section
variable {P:Program}{w:World}{K:DG}{H:Hp}{h:Heap}{R:PySem.W.WRecords}{cl:Str→Option Addr}
theorem afP{a:Addr}{xs:List V}(hok:HOk P w H h)(KX:K.In h)(q:SqL K H a xs):∃(its:List Value) (o:Obj) (n:Nat),Vals xs its∧h.get? a=some o∧o.cls=.type "list" ∧ o.data=.seq its.toArray n:=by
 rcases q with q|⟨o,its,n,e,hc,_,hd,_,hv⟩
 ·obtain⟨_,its,n,hv,e⟩:=(show cJ P w H h a (.lst xs) from q.ok hok)
  exact⟨its,_,n,hv,e,rfl,rfl⟩
 ·exact⟨its.toList,o,n,hv,KX _ _ e,hc,by simp[hd]⟩
theorem afz{a:Addr}{xs:List V}(hok:HOk P w H h)(KX:K.In h)(q:SqT K H a xs):∃(its:List Value) (o:Obj) (n:Nat),Vals xs its∧h.get? a=some o∧o.cls=.type "tuple" ∧ o.data=.seq its.toArray n:=by
 rcases q with q|⟨o,its,n,e,hc,hd,_,hv⟩
 ·obtain⟨_,its,hv,o,e,hc,n,hd⟩:=(show cJ P w H h a (.tup xs) from q.ok hok)
  exact⟨its,o,n,hv,e,hc,hd⟩
 ·exact⟨its.toList,o,n,hv,KX _ _ e,hc,by simp[hd]⟩
mutual
theorem Dw.reads(hok:HOk P w H h)(KX:K.In h):∀(d:WData) (v:V) (u:Value),Dw K H v d→RelV v u→∃as,ReadsW R cl h u d as
 | .none,_,_,x,r=>by
  cases x
  cases r
  exact⟨_,ReadsW.none⟩
 | .bool b,_,_,x,r=>by
  cases x
  cases r
  exact⟨_,ReadsW.bool b⟩
 | .int i,_,_,x,r=>by
  cases x
  obtain⟨t,rfl⟩:=r;exact⟨_,ReadsW.int i t⟩
 | .str s,_,_,x,r=>by
  cases x
  obtain⟨t,rfl⟩:=r;exact⟨_,ReadsW.str s t⟩
 | .bytes b,_,_,x,r=>by
  cases x
  obtain⟨t,rfl⟩:=r;exact⟨_,ReadsW.bytes _ t⟩
 | .list ds,_,_,x,r=>by
  cases x with
  | lst hs ha =>
   cases r
   obtain⟨its,o,n,rv,ho,hc,hd⟩:=afP hok KX hs;obtain⟨as,hr⟩:=Dw.readsAll hok KX ds _ its ha rv;exact⟨_,ReadsW.list ho hc hd hr⟩
 | .tuple ds,_,_,x,r=>by
  cases x with
  | tup hs ha =>
   cases r
   obtain⟨its,o,n,rv,ho,hc,hd⟩:=afz hok KX hs;obtain⟨as,hr⟩:=Dw.readsAll hok KX ds _ its ha rv;exact⟨_,ReadsW.tuple ho hc hd hr⟩
 | .float _,_,_,x,_=>by cases x
 | .dict _,_,_,x,_=>by cases x
 | .bytearray _,_,_,x,_=>by cases x
 | .set _,_,_,x,_=>by cases x
 | .frozenset _,_,_,x,_=>by cases x
 | .obj _ _,_,_,x,_=>by cases x
theorem Dw.readsAll(hok:HOk P w H h)(KX:K.In h):∀(ds:List WData) (vs:List V) (us:List Value),lB K H vs ds→Vals vs us→∃as,ReadsAllW R cl h us ds as
 | [],_,_,x,r=>by
  cases x
  cases r
  exact⟨_,ReadsAllW.nil⟩
 | d::ds,_,_,x,r=>by
  cases x with
  | cons h1 h2 =>
   cases r with
   | cons r1 r2 =>
    obtain⟨as,q1⟩:=Dw.reads hok KX d _ _ h1 r1;obtain⟨bs,q2⟩:=Dw.readsAll hok KX ds _ _ h2 r2;exact⟨_,ReadsAllW.cons q1 q2⟩
end
end
mutual
def plW:WData→Bool
 | .none=>true
 | .bool _=>true
 | .int _=>true
 | .str _=>true
 | .bytes _=>true
 | .list xs=>wF xs
 | .tuple xs=>wF xs
 | _=>false
def wF:List WData→Bool
 | []=>true
 | x::r=>plW x&&wF r
end
theorem vo{α:Type}{f:α→WData}(h:∀a,plW (f a)=true):∀l:List α,wF (l.map f)=true
 | []=>rfl
 | x::r=>by
  show(plW (f x)&&wF (r.map f))=true;rw[h x,vo h r] <;> rfl
theorem kO:∀(c:Codec) (a:c.denote),plW (c.enc a)=true
 | .unit,_=>rfl
 | .bool,_=>rfl
 | .int _ _,_=>rfl
 | .nat _ _,_=>rfl
 | .u8,_=>rfl
 | .bytes _ _,_=>rfl
 | .text _ _ _ _,_=>rfl
 | .list _ _ c,a=>vo (fun x=>kO c x) a
 | .pair c d,a=>by
  show(plW (c.enc a.1)&&(plW (d.enc a.2)&&true))=true;rw[kO c a.1,kO d a.2] <;> rfl
 | .triple c d e,a=>by
  show(plW (c.enc a.1)&&(plW (d.enc a.2.1)&&(plW (e.enc a.2.2)&&true)))=true;rw[kO c a.1,kO d a.2.1,kO e a.2.2] <;> rfl
 | .option c,none=>rfl
 | .option c,some x=>kO c x
theorem qz:∀(cs:List Codec) (a:Codec.denoteAll cs),wF (Codec.encAll cs a)=true
 | [],_=>rfl
 | c::cs,a=>by
  show(plW (c.enc a.1)&&wF (Codec.encAll cs a.2))=true;rw[kO c a.1,qz cs a.2] <;> rfl
theorem kC:∀{xs:List WData} {d:WData},d∈xs→d.weight≤WData.weightAll xs
 | [],d,h=>absurd h (by simp)
 | x::r,d,h=>by
  show d.weight≤x.weight+1+WData.weightAll r;rcases List.mem_cons.mp h with e|m
  ·rw[e]
   omega
  ·have z:=kC m
   omega
def toV:Value→V
 | .none=>.non
 | .bool b=>.bl b
 | .int i _=>.int i
 | .str x _=>.str x
 | .bytes b _=>.byt b
 | .ref a=>.ref a
 | _=>.non
def OkU(A:List Addr):Value→Prop
 | .none=>True
 | .bool _=>True
 | .int _ _=>True
 | .str _ _=>True
 | .bytes _ _=>True
 | .ref a=>a∈A
 | _=>False
theorem OkU.mono{A B:List Addr}(h:∀a∈A,a∈B):∀{u:Value},OkU A u→OkU B u:=fun{u} x=>by
 cases u with
 | ref a=>exact h a x
 | none=>trivial
 | bool b=>trivial
 | int i t=>trivial
 | str s t=>trivial
 | bytes b t=>trivial
 | _=>exact False.elim x
theorem aaR{A:List Addr}{u:Value}(x:OkU A u):RelV (toV u) u:=by
 cases u with
 | ref a=>rfl
 | none=>rfl
 | bool b=>rfl
 | int i t=>exact⟨t,rfl⟩
 | str s t=>exact⟨t,rfl⟩
 | bytes b t=>exact⟨t,rfl⟩
 | _=>exact False.elim x
theorem hZ{A:List Addr}:∀{vs:List Value},(∀u∈vs,OkU A u)→Vals (vs.map toV) vs
 | [],_=>.nil
 | u::r,h=>.cons (aaR (h u (Ah ..))) (hZ fun x hx=>h x (Af _ hx))
def lu(h:Heap)(A:List Addr)(a:Addr):Prop:=∃vs:List Value,vs.length≤sizeLine∧(∀u∈vs,OkU A u) ∧
 (h.get? a=some { cls:=.type "list",data:=.seq vs.toArray }∨h.get? a=some { cls:=.type "tuple",data:=.seq vs.toArray })
theorem lu.mono{h:Heap}{A B:List Addr}{a:Addr}(k:∀a∈A,a∈B)(x:lu h A a):lu h B a:=by
 obtain⟨vs,h1,h2,h3⟩:=x;exact⟨vs,h1,fun u hu=>(h2 u hu).mono k,h3⟩
theorem fF{P:Params}{h:Heap}:∀{vs:List Value} {ds:List WData},WellAll P h vs ds→vs.length=ds.length
 | _,_,.nil=>rfl
 | _,_,.cons _ b=>by
  show _+1=_+1;rw[fF b]
theorem rq{P:Params}{h:Heap}{v:Value}{ds:List WData}(x:Well P h v (.list ds)):∃(a:Addr) (vs:List Value),v=.ref a∧h.get? a=some { cls:=.type "list",data:=.seq vs.toArray }∧WellAll P h vs ds:=by
 cases x with
 | list ho hall=>exact⟨_,_,rfl,ho,hall⟩
theorem oA{P:Params}{h:Heap}{v:Value}{ds:List WData}(x:Well P h v (.tuple ds)):∃(a:Addr) (vs:List Value),v=.ref a∧h.get? a=some { cls:=.type "tuple",data:=.seq vs.toArray }∧WellAll P h vs ds:=by
 cases x with
 | tuple ho hall=>exact⟨_,_,rfl,ho,hall⟩
theorem qR{P:Params}{h:Heap}{us:List Value}{d:WData}{ds:List WData}(x:WellAll P h us (d::ds)):∃(v:Value) (vs:List Value),us=v::vs∧Well P h v d∧WellAll P h vs ds:=by
 cases x with
 | cons a b=>exact⟨_,_,rfl,a,b⟩
theorem yw{n:Nat}(h:n≤1048576):n≤sizeLine:=AS h (by decide)
section
variable {P:Params}{h:Heap}
mutual
theorem abH:∀(d:WData) (v:Value),Well P h v d→plW d=true→d.weight≤1048576→∃A:List Addr,OkU A v∧∀a∈A,lu h A a
 | .none,_,x,_,_=>by
  cases x
  exact⟨[],trivial,fun a m=>absurd m (by simp)⟩
 | .bool b,_,x,_,_=>by
  cases x
  exact⟨[],trivial,fun a m=>absurd m (by simp)⟩
 | .int i,_,x,_,_=>by
  cases x
  exact⟨[],trivial,fun a m=>absurd m (by simp)⟩
 | .str s,_,x,_,_=>by
  cases x
  exact⟨[],trivial,fun a m=>absurd m (by simp)⟩
 | .bytes b,_,x,_,_=>by
  cases x
  exact⟨[],trivial,fun a m=>absurd m (by simp)⟩
 | .list ds,_,x,p,z=>by
  obtain⟨a,vs,rfl,ho,hall⟩:=rq x;have z2:WData.weightAll ds≤1048576:=z;obtain⟨A,h1,h2⟩:=lI ds _ hall p fun d hd=>AS (kC hd) z2;have k:∀b∈A,b∈a::A:=fun b hb=>Af _ hb;refine⟨a::A,Ah ..,fun b hb => ?_⟩;rcases List.mem_cons.mp hb with e|m
  ·rw[e]
   exact⟨vs,yw (by rw[fF hall];exact AS (PySem.W.length_le_weightAllW ds) z2),fun u hu=>(h1 u hu).mono k,.inl ho⟩
  ·exact(h2 b m).mono k
 | .tuple ds,_,x,p,z=>by
  obtain⟨a,vs,rfl,ho,hall⟩:=oA x;have z2:WData.weightAll ds≤1048576:=z;obtain⟨A,h1,h2⟩:=lI ds _ hall p fun d hd=>AS (kC hd) z2;have k:∀b∈A,b∈a::A:=fun b hb=>Af _ hb;refine⟨a::A,Ah ..,fun b hb => ?_⟩;rcases List.mem_cons.mp hb with e|m
  ·rw[e]
   exact⟨vs,yw (by rw[fF hall];exact AS (PySem.W.length_le_weightAllW ds) z2),fun u hu=>(h1 u hu).mono k,.inr ho⟩
  ·exact(h2 b m).mono k
 | .float _,_,_,p,_=>Bool.noConfusion (show false=true from p)
 | .dict _,_,_,p,_=>Bool.noConfusion (show false=true from p)
 | .bytearray _,_,_,p,_=>Bool.noConfusion (show false=true from p)
 | .set _,_,_,p,_=>Bool.noConfusion (show false=true from p)
 | .frozenset _,_,_,p,_=>Bool.noConfusion (show false=true from p)
 | .obj _ _,_,_,p,_=>Bool.noConfusion (show false=true from p)
theorem lI:∀(ds:List WData) (vs:List Value),WellAll P h vs ds→wF ds=true→(∀d∈ds,d.weight≤1048576)→∃A:List Addr,(∀u∈vs,OkU A u)∧∀a∈A,lu h A a
 | [],_,x,_,_=>by
  cases x
  exact⟨[],fun u m=>absurd m (by simp),fun a m=>absurd m (by simp)⟩
 | d::ds,_,x,p,z=>by
  obtain⟨v,vs,rfl,x1,x2⟩:=qR x;have q:plW d=true∧wF ds=true:=Bool.and_eq_true_iff.mp p;obtain⟨A,a1,a2⟩:=abH d v x1 q.1 (z d (Ah ..));obtain⟨B,b1,b2⟩:=lI ds vs x2 q.2 fun e he=>z e (Af _ he);have kA:∀b∈A,b∈A++B:=fun b hb=>List.mem_append.mpr (.inl hb);have kB:∀b∈B,b∈A++B:=fun b hb=>List.mem_append.mpr (.inr hb);refine⟨A++B,fun u hu => ?_,fun b hb => ?_⟩
  ·rcases List.mem_cons.mp hu with e|m
   ·rw[e]
    exact a1.mono kA
   ·exact(b1 u m).mono kB
  ·rcases List.mem_append.mp hb with m|m
   ·exact(a2 b m).mono kA
   ·exact(b2 b m).mono kB
end
end
def ag2(o:Obj):Option HO:=match o.data with
 | .seq vs _=>if (o.cls==Value.type "list")=true then some (.frz o (.lst (vs.toList.map toV))) else some (.frz o (.tup (vs.toList.map toV)))
 | _=>none
def pL(K:DG)(h:Heap)(A:List Addr):Hp:=fun b=>if b∈A then (if (K.lookup b).isNone=true then (h.get? b).bind ag2 else none) else none
def xQ(H:Hp):Prop:=∀b,H b=none∨∃o u,H b=some (.frz o u)
theorem vk(vs:List Value):ag2 { cls:=.type "list",data:=.seq vs.toArray }=some (.frz { cls:=.type "list",data:=.seq vs.toArray } (.lst (vs.map toV))):=by
 show(if (Value.type "list" == Value.type "list")=true then some (HO.frz { cls:=.type "list",data:=.seq vs.toArray } (.lst (vs.toArray.toList.map toV))) else some (HO.frz { cls:=.type "list",data:=.seq vs.toArray } (.tup (vs.toArray.toList.map toV))))=_;rw[Ag (Di _)]
theorem uD(vs:List Value):ag2 { cls:=.type "tuple",data:=.seq vs.toArray }=some (.frz { cls:=.type "tuple",data:=.seq vs.toArray } (.tup (vs.map toV))):=by
 show(if (Value.type "tuple" == Value.type "list")=true then some (HO.frz { cls:=.type "tuple",data:=.seq vs.toArray } (.lst (vs.toArray.toList.map toV))) else some (HO.frz { cls:=.type "tuple",data:=.seq vs.toArray } (.tup (vs.toArray.toList.map toV))))=_;rw[Ad (by decide)]
section
variable {P:Program}{w:World}{K:DG}{h:Heap}{A:List Addr}
theorem pf{b:Addr}{o:Obj}(hb:b∈A)(hk:K.lookup b=none)(e:h.get? b=some o):pL K h A b=ag2 o:=by
 unfold pL;rw[Ag hb,hk,Ag (show(none:Option Obj).isNone=true from rfl),e] <;> rfl
theorem aep{b:Addr}{u:HO}(q:pL K h A b=some u):b∈A∧K.lookup b=none:=by
 unfold pL at q
 by_cases hb:b∈A
 ·rw[Ag hb] at q
  cases hk:K.lookup b with
  | none=>exact⟨hb,rfl⟩
  | some o =>
   rw[hk,Ad (by simp)] at q;cases q
 ·rw[Ad hb] at q
  cases q
theorem pM(ar:∀a∈A,lu h A a){b:Addr}{u:HO}(q:pL K h A b=some u):K.lookup b=none∧∃vs:List Value,vs.length≤sizeLine∧(∀u∈vs,OkU A u) ∧
  ((h.get? b=some { cls:=.type "list",data:=.seq vs.toArray }∧u=.frz { cls:=.type "list",data:=.seq vs.toArray } (.lst (vs.map toV))) ∨
   (h.get? b=some { cls:=.type "tuple",data:=.seq vs.toArray }∧u=.frz { cls:=.type "tuple",data:=.seq vs.toArray } (.tup (vs.map toV)))):=by
 obtain⟨hb,hk⟩:=aep q;obtain⟨vs,h1,h2,h3⟩:=ar b hb;refine⟨hk,vs,h1,h2,?_⟩;rcases h3 with e|e
 ·rw[pf hb hk e,vk] at q
  exact .inl ⟨e,(Ac q).symm⟩
 ·rw[pf hb hk e,uD] at q
  exact .inr ⟨e,(Ac q).symm⟩
theorem yN(ar:∀a∈A,lu h A a):xQ (pL K h A):=fun b=>by
 cases q:pL K h A b with
 | none=>exact .inl rfl
 | some u =>
  obtain⟨_,vs,_,_,⟨_,e⟩|⟨_,e⟩⟩:=pM ar q
  ·exact .inr ⟨_,_,by rw[e]⟩
  ·exact .inr ⟨_,_,by rw[e]⟩
theorem aeo(ar:∀a∈A,lu h A a):HOk P w (pL K h A) h:=fun b u q=>by
 obtain⟨_,vs,h1,h2,⟨e,rfl⟩|⟨e,rfl⟩⟩:=pM ar q
 ·exact⟨e,by rw[Ab];exact h1,vs,_,hZ h2,e⟩
 ·exact⟨e,by rw[Ab];exact h1,vs,hZ h2,_,e,rfl,_,rfl⟩
theorem pD{c c':Value}{vs us:List Value}(e:(some { cls:=c,data:=.seq vs.toArray }:Option Obj)=some { cls:=c',data:=.seq us.toArray }):c=c'∧vs=us:=by
 have e1:=Ac e;have e2:c=c':=congrArg Obj.cls e1;have e3:Data.seq vs.toArray=Data.seq us.toArray:=congrArg Obj.data e1;injection e3 with e4
 refine⟨e2,?_⟩;have e5:=congrArg Array.toList e4
 simpa using e5
theorem ai0(KX:K.In h)(ar:∀a∈A,lu h A a){a:Addr}{vs:List Value}(ha:a∈A)(e:h.get? a=some { cls:=.type "list",data:=.seq vs.toArray }):(∀u∈vs,OkU A u)∧SqL K (pL K h A) a (vs.map toV):=by
 obtain⟨us,h1,h2,h3⟩:=ar a ha;have hu:us=vs:=by
  rcases h3 with q|q
  ·rw[e] at q
   exact(pD q).2.symm
  ·rw[e] at q
   exact absurd (Value.type.inj (pD q).1) (by decide)
 subst hu;refine⟨h2,?_⟩;cases hk:K.lookup a with
 | none=>exact .inl (.inr ⟨_,by rw[pf ha hk e,vk]⟩)
 | some o =>
  have e2:=KX a o hk;rw[e] at e2;obtain rfl:=Ac e2;exact .inr ⟨_,us.toArray,_,hk,rfl,rfl,rfl,by rw[Ay];exact h1,by simpa using hZ h2⟩
theorem aiR(KX:K.In h)(ar:∀a∈A,lu h A a){a:Addr}{vs:List Value}(ha:a∈A)(e:h.get? a=some { cls:=.type "tuple",data:=.seq vs.toArray }):(∀u∈vs,OkU A u)∧SqT K (pL K h A) a (vs.map toV):=by
 obtain⟨us,h1,h2,h3⟩:=ar a ha;have hu:us=vs:=by
  rcases h3 with q|q
  ·rw[e] at q
   exact absurd (Value.type.inj (pD q).1) (by decide)
  ·rw[e] at q
   exact(pD q).2.symm
 subst hu;refine⟨h2,?_⟩;cases hk:K.lookup a with
 | none=>exact .inl (.inr ⟨_,by rw[pf ha hk e,uD]⟩)
 | some o =>
  have e2:=KX a o hk;rw[e] at e2;obtain rfl:=Ac e2;exact .inr ⟨_,us.toArray,_,hk,rfl,rfl,by rw[Ay];exact h1,by simpa using hZ h2⟩
mutual
theorem afu{Pm:Params}(KX:K.In h)(ar:∀a∈A,lu h A a):∀(d:WData) (v:Value),Well Pm h v d→plW d=true→OkU A v→Dw K (pL K h A) (toV v) d
 | .none,_,x,_,_=>by
  cases x
  exact .non
 | .bool b,_,x,_,_=>by
  cases x
  exact .bl b
 | .int i,_,x,_,_=>by
  cases x
  exact .int i
 | .str s,_,x,_,_=>by
  cases x
  exact .str s
 | .bytes b,_,x,_,_=>by
  cases x
  have z:=Dw.byt (K:=K) (H:=pL K h A) b.toArray;exact z
 | .list ds,_,x,p,hu=>by
  obtain⟨a,vs,rfl,ho,hall⟩:=rq x;obtain⟨h2,hs⟩:=ai0 KX ar hu ho;exact .lst hs (uj KX ar ds _ hall p h2)
 | .tuple ds,_,x,p,hu=>by
  obtain⟨a,vs,rfl,ho,hall⟩:=oA x;obtain⟨h2,hs⟩:=aiR KX ar hu ho;exact .tup hs (uj KX ar ds _ hall p h2)
 | .float _,_,_,p,_=>Bool.noConfusion (show false=true from p)
 | .dict _,_,_,p,_=>Bool.noConfusion (show false=true from p)
 | .bytearray _,_,_,p,_=>Bool.noConfusion (show false=true from p)
 | .set _,_,_,p,_=>Bool.noConfusion (show false=true from p)
 | .frozenset _,_,_,p,_=>Bool.noConfusion (show false=true from p)
 | .obj _ _,_,_,p,_=>Bool.noConfusion (show false=true from p)
theorem uj{Pm:Params}(KX:K.In h)(ar:∀a∈A,lu h A a):∀(ds:List WData) (vs:List Value),WellAll Pm h vs ds→wF ds=true→(∀u∈vs,OkU A u)→lB K (pL K h A) (vs.map toV) ds
 | [],_,x,_,_=>by
  cases x
  exact .nil
 | d::ds,_,x,p,hu=>by
  obtain⟨v,vs,rfl,x1,x2⟩:=qR x;have q:plW d=true∧wF ds=true:=Bool.and_eq_true_iff.mp p;exact .cons (afu KX ar d v x1 q.1 (hu _ (Ah ..))) (uj KX ar ds vs x2 q.2 fun u m=>hu u (Af _ m))
end
end
theorem aae{P:Program}{w:World}{K:DG}{mg mb:Str→Option Value}{CX:CXT}{k:Nat}{fa:Addr}{fd:FuncData}{ps:List Str}{sp:Sp}{s₁:Shared}{vals:List Value}{ds:List WData}{R:PySem.W.WRecords}{cl:Str→Option Addr}{d0:WData}
  (KX:K.In s₁.heap) (hns:s₁.heap.Ns mainGlobals mg) (hb:s₁.heap.Ns builtinsNs mb) (hbb:∀x:Str,x ≠ "__name__" → mb x=bootBuiltins x) (hlim:s₁.heap.NoLimit) (hg:s₁.gens = #[])
  (hwl:WellAll w.params s₁.heap vals ds) (hpl:wF ds=true) (hwt:∀d∈ds,d.weight≤1048576) (hr:e6 k callerA)
  (F:∀base:Heap,K.In base→base.Ns mainGlobals mg→nB P w K mg base CX k fa fd ps sp) (hbind:∀(s:Shared) (us:List Value),us.length=ps.length→BindsTo s fd ⟨us,[]⟩ (ps.zip us)) (hlen:ds.length=ps.length)
  (hsp:∀(H:Hp) (xs:List V),xQ H→lB K H xs ds→sp xs H (fun v H'=>Dw K H' v d0) fun _ _ _=>False)
  (hCX:∀H e s',CX [] H s₁ (fun _ _ _=>False) e s'→False) :
  codeAny (model P w) callerA (.call (.ref fa) ⟨vals,[]⟩) (fun r s'=>∃u as,r=.ok (.ret u)∧ReadsW R cl s'.heap u d0 as∧OldK s₁.heap s'.heap∧s'.os=s₁.os∧AllBare s'.gens) s₁:=by
 obtain⟨A,ho,ar⟩:=lI ds vals hwl hpl hwt;have hO:xQ (pL K s₁.heap A):=yN ar;have hok:HOk P w (pL K s₁.heap A) s₁.heap:=aeo ar;have hS:=uj KX ar ds vals hwl hpl ho;have hV:=hZ ho;have hK:∀b u,pL K s₁.heap A b=some u→K.lookup b=none:=fun b u q=>(pM ar q).1;have noA:∀{b:Addr} {o:Obj} {es:Array DictEntry} {ep:Nat},s₁.heap.get? b=some o→o.data=.dict es ep→pL K s₁.heap A b=none:=fun{b o es ep} e d=>by
  cases q:pL K s₁.heap A b with
  | none=>rfl
  | some u =>
   obtain⟨_,vs,_,_,⟨e2,_⟩|⟨e2,_⟩⟩:=pM ar q
   ·rw[e2] at e
    cases e
    have d':Data.seq vs.toArray _=Data.dict es ep:=d;cases d'
   ·rw[e2] at e
    cases e
    have d':Data.seq vs.toArray _=Data.dict es ep:=d;cases d'
 generalize pL K s₁.heap A=H at hO hok hS hK noA;have base_of:∀{b:Addr} {o:Obj},s₁.heap.get? b=some o→H b=none→(abG s₁.heap H).get? b=some o:=fun e n=>abq e n;have nsK:∀{b:Addr} {m:Str→Option Value},s₁.heap.Ns b m→(abG s₁.heap H).Ns b m:=fun{b m} ⟨o,es,ep,e,d,r⟩=>⟨o,es,ep,base_of e (noA e d),d,r⟩;have nK:∀b o,K.lookup b=some o→H b=none:=fun b o e=>by
  cases q:H b with
  | none=>rfl
  | some u =>
   rw[hK b u q] at e;cases e
 have hKb:K.In (abG s₁.heap H):=fun b o e=>base_of (KX b o e) (nK b o e);have hM:Mod K mg (abG s₁.heap H):=⟨hKb,nsK hns,⟨mb,nsK hb,hbb⟩,let ⟨mc,h1,h2⟩:=hlim;⟨mc,nsK h1,h2⟩⟩;have e0:adS P w K mg (abG s₁.heap H) callerA [] s₁ H:=⟨rfl,hM,fun b o e=>ad1 e,Dt (zU _ _),trivial,fun b hb=>absurd (show b∈([]:List Addr) from hb) (by simp),hok,.of_eq hg⟩;have hl:vals.length=ps.length:=by rw[fF hwl];exact hlen
 refine codeAny_mono ((F _ hKb (nsK hns)).run callerA [] s₁ H ⟨vals,[]⟩ vals (vals.map toV) _ _ hr e0 (hbind s₁ vals hl) hV (hsp H _ hO hS)) fun r s' x => ?_;cases r with
 | error e=>exact(hCX H e s' x).elim
 | ok fl =>
  cases fl with
  | next=>exact False.elim x
  | brk=>exact False.elim x
  | cont=>exact False.elim x
  | ret u =>
   obtain⟨v,H',os,bare,un,hok',r',q⟩:=x;have kept:∀b o,s₁.heap.get? b=some o→s'.heap.get? b=some o:=fun b o e=>by
    cases q2:H b with
    | none=>exact un.keep b o e q2 (by intro z;exact absurd (show b∈([]:List Addr) from z) (by simp)) (by simp)
    | some u2 =>
     rcases hO b with z|⟨ob,u3,z⟩
     ·rw[q2] at z
      cases z
     ·have z2:=un.frzs b ob _ z
      obtain⟨e1,_⟩:=hok b _ z;obtain⟨e2,_⟩:=hok' b _ z2;rw[e] at e1;cases e1
      exact e2
   have KX':K.In s'.heap:=fun b o e=>kept b o (KX b o e);obtain⟨as,hrd⟩:=Dw.reads (R:=R) (cl:=cl) hok' KX' d0 v u q r';exact⟨u,as,rfl,hrd,OldK.of_keep kept,os,bare⟩
theorem nU{ds:List WData}(h:WData.layableAll ds=true):∀d∈ds,d.weight≤1048576:=fun d hd =>
 (PySem.W.layableW_iff.mp (List.all_eq_true.mp h d hd)).2.2
theorem nW:∀(cs:List Codec) (a:Codec.denoteAll cs),(Codec.encAll cs a).length=cs.length
 | [],_=>rfl
 | c::cs,a=>by
  show(Codec.encAll cs a.2).length+1=cs.length+1;rw[nW cs a.2]
theorem xJ{r:OpenSpec}{k:Nat}{q:Program}{loose:List Str}{XP:(Str→Option Value)→Heap→Prop}{YP:World→Heap→Prop}{d:DefRec}{K:Params→DG}{CX:World→CXT}{ps:List Str}{sp:World→Sp}
  (hwell:r.wellSaid=true) (hdf:d.params.defaults=[]) (hlen:r.args.length=ps.length) (hr:e6 k callerA)
  (hY:∀(w:World) (h:Heap),YP w h→(K w.params).In h)
  (F:∀(w:World) (mg:DH) (fa:Addr) (h:Heap),YP w h→(K w.params).In h→h.Ns mainGlobals mg→mg d.name=some (.ref fa) →
   ∃fd:FuncData,(∀(s:Shared) (us:List Value),us.length=ps.length→BindsTo s fd ⟨us,[]⟩ (ps.zip us)) ∧
    ∀base:Heap,(K w.params).In base→base.Ns mainGlobals mg→nB r.prog w (K w.params) mg base (CX w) k fa fd ps (sp w))
  (hsp:∀(w:World) (H:Hp) (xs:List V) (a:Codec.denoteAll r.args),xQ H→Codec.withinAll r.args a=true→Codec.app r.args r.asked a=true→lB (K w.params) H xs (Codec.encAll r.args a) →
   sp w xs H (fun v H'=>Dw (K w.params) H' v (r.ret.enc (Codec.app r.args r.f a))) fun _ _ _=>False)
  (hCX:∀(w:World) (H:Hp) (s:Shared) (e:Value) (s':Shared),CX w [] H s (fun _ _ _=>False) e s'→False) :
  PySem.W.WalkOS q loose XP YP r d [] (fun f vs=>PySem.call f vs):=by
 intro w s_0 s₁ mg mb G Y fa o pm cd doc dV kV ho hd hcd hD hmg hg args vals as hpre hlay hrd hwl hlo;obtain⟨a,e1,e2⟩:=PySem.W.os_pre_some hpre;obtain⟨e3,hwi⟩:=Codec.encAll_of_decAll r.args args a e1;subst e3;have KX:=hY w _ Y;obtain⟨fd,hb,hF⟩:=F w mg fa _ Y KX G.T.g hmg;refine PySem.W.enter_call (codeAny_mono (aae (R := []) (cl:=classAt s_0.heap) (d0:=r.ret.enc (Codec.app r.args r.f a)) KX G.T.g G.T.b G.T.builtins G.T.nolimit hg hwl (qz _ _) (nU hlay) hr hF hb (by rw[nW];exact hlen)
  (fun H xs hO hS=>hsp w H xs a hO hwi e2 hS) fun H e s'=>hCX w H s₁ e s') fun r' s' hq => ?_)
 obtain⟨u,as',rfl,h1,h2,h3,h4⟩:=hq;exact⟨.inl ⟨u,_,as',rfl,fun _=>rfl,h1,(OpenSpec.post_iff hwell hwi _ _).mpr rfl,fun z=>Bool.noConfusion (show false=true from z)⟩,h2,h3,h4⟩
theorem vF{r:OpenSpec}{k:Nat}{q:Program}{loose:List Str}{XP:(Str→Option Value)→Heap→Prop}{YP:World→Heap→Prop}{d:DefRec}{K:Params→DG}{CX:CXT}{ps:List Str}{sp:DG→Sp}
  (hwell:r.wellSaid=true) (hdf:d.params.defaults=[]) (hlen:r.args.length=ps.length) (hr:e6 k callerA)
  (hY:∀(w:World) (h:Heap),YP w h→(K w.params).In h)
  (F:∀(w:World) (mg:DH) (fa:Addr) (h:Heap),YP w h→(K w.params).In h→h.Ns mainGlobals mg→mg d.name=some (.ref fa) →
   ∃fd:FuncData,(∀(s:Shared) (us:List Value),us.length=ps.length→BindsTo s fd ⟨us,[]⟩ (ps.zip us)) ∧
    ∀base:Heap,(K w.params).In base→base.Ns mainGlobals mg→nB r.prog w (K w.params) mg base CX k fa fd ps (sp (K w.params)))
  (hsp:∀(K:DG) (H:Hp) (xs:List V) (a:Codec.denoteAll r.args),xQ H→Codec.withinAll r.args a=true→Codec.app r.args r.asked a=true→lB K H xs (Codec.encAll r.args a) →
   sp K xs H (fun v H'=>Dw K H' v (r.ret.enc (Codec.app r.args r.f a))) fun _ _ _=>False)
  (hCX:∀(H:Hp) (s:Shared) (e:Value) (s':Shared),CX [] H s (fun _ _ _=>False) e s'→False) :
  PySem.W.WalkOS q loose XP YP r d [] (fun f vs=>PySem.call f vs) :=
 xJ (K:=K) (CX:=fun _=>CX) (sp:=fun w=>sp (K w.params)) hwell hdf hlen hr hY F (fun w H xs a h1 h2 h3 h4=>hsp (K w.params) H xs a h1 h2 h3 h4) fun _ H s e s'=>hCX H s e s'
end L2
end
namespace Geo
def sm{α:Type}(l:List α)(f:α→Int):Int:=match l with
 | []=>0
 | a::r=>f a+sm r f
theorem rL{α:Type}(f:α→Int):sm [] f=0:=rfl
theorem bh{α:Type}(a:α)(r:List α)(f:α→Int):sm (a::r) f=f a+sm r f:=rfl
theorem aI{α:Type}{l:List α}{f g:α→Int}(h:∀a∈l,f a=g a):sm l f=sm l g:=by
 induction l with
 | nil=>rfl
 | cons a r ih =>
  rw[bh,bh,h a (Ah ..),ih fun b hb=>h b (Af _ hb)]
theorem dZ{α:Type}(l:List α)(f g:α→Int):sm l (fun a=>f a+g a)=sm l f+sm l g:=by
 induction l with
 | nil=>rfl
 | cons a r ih=>simp only[bh,ih];omega
theorem mS{α:Type}(l:List α)(f g:α→Int):sm l (fun a=>f a-g a)=sm l f-sm l g:=by
 induction l with
 | nil=>rfl
 | cons a r ih=>simp only[bh,ih];omega
theorem agE{α:Type}(l:List α)(f:α→Int):sm l (fun a => - f a) = - sm l f:=by
 induction l with
 | nil=>rfl
 | cons a r ih=>simp only[bh,ih];omega
theorem gq{α:Type}(l:List α):sm l (fun _=>0)=0:=by
 induction l with
 | nil=>rfl
 | cons a r ih=>simp only[bh,ih];omega
theorem fV{α:Type}(l:List α)(k:Int)(f:α→Int):sm l (fun a=>k*f a)=k*sm l f:=by
 induction l with
 | nil=>simp[sm]
 | cons a r ih=>simp only[bh,ih,Bq]
theorem pB{α β:Type}(l:List α)(m:List β)(f:α→β→Int):sm l (fun a=>sm m (f a))=sm m (fun b=>sm l (fun a=>f a b)):=by
 induction l with
 | nil=>simp only[rL,gq]
 | cons a r ih=>simp only[bh,dZ,ih]
theorem rO{α:Type}(l m:List α)(f:α→Int):sm (l++m) f=sm l f+sm m f:=by
 induction l with
 | nil=>simp[sm]
 | cons a r ih=>simp only[C3,bh,ih];omega
theorem mq{α:Type}{l:List α}{f:α→Int}(h:∀a∈l,0≤f a):0≤sm l f:=by
 induction l with
 | nil=>exact C8 0
 | cons a r ih =>
  rw[bh];have h1:=h a (Ah ..);have h2:=ih fun b hb=>h b (Af _ hb);omega
theorem acI{α:Type}{l:List α}{f:α→Int}(h:∀a∈l,0≤f a){b:α}(hb:b∈l)(hf:0<f b):0<sm l f:=by
 induction l with
 | nil=>cases hb
 | cons a r ih =>
  rw[bh];have h1:=h a (Ah ..);have hr:=fun c hc=>h c (Af a hc);have h2:=mq hr;rcases List.mem_cons.mp hb with e|e
  ·subst e;omega
  ·have:=ih hr e;omega
theorem aft{α β:Type}(g:α→β)(l:List α)(f:β→Int):sm (l.map g) f=sm l (fun a=>f (g a)):=by
 induction l with
 | nil=>rfl
 | cons a r ih=>simp only[A3,bh,ih]
theorem y9{α:Type}{l m:List α}(h:l.Perm m)(f:α→Int):sm l f=sm m f:=by
 induction h with
 | nil=>rfl
 | cons a _ ih=>simp only[bh,ih]
 | swap a b l=>simp only[bh];omega
 | trans _ _ h1 h2=>exact h1.trans h2
def ind(p:Prop)[Decidable p]:Int:=if p then 1 else 0
theorem aO{p:Prop}[Decidable p](h:p):ind p=1:=Ag h
theorem aw{p:Prop}[Decidable p](h:¬p):ind p=0:=Ad h
theorem aB{p q:Prop}[Decidable p][Decidable q](h:p↔q):ind p=ind q:=by
 by_cases hp:p
 ·rw[aO hp,aO (h.mp hp)]
 ·rw[aw hp,aw fun hq=>hp (h.mpr hq)]
theorem jC{α:Type}(l:List α)(p:α→Prop)[DecidablePred p](f:α→Int):sm (l.filter fun a=>decide (p a)) f=sm l (fun a=>ind (p a)*f a):=by
 induction l with
 | nil=>rfl
 | cons a r ih =>
  by_cases h:p a
  ·rw[AH (by simpa using h),bh,bh,ih,aO h];omega
  ·rw[AQ (by simpa using h),bh,ih,aw h];omega
theorem ko{α:Type}[DecidableEq α]{l:List α}(hn:l.Nodup){b:α}(hb:b∈l)(f:α→Int):sm l (fun a=>ind (a=b)*f a)=f b:=by
 induction l with
 | nil=>cases hb
 | cons a r ih =>
  rw[Dy] at hn;rw[bh]
  by_cases e:a=b
  ·subst e
   have z:sm r (fun c=>ind (c=a)*f c)=0:=by
    rw[← gq r];refine aI fun c hc => ?_;have:¬c=a:=fun e=>hn.1 (by rw[← e];exact hc);rw[aw this];omega
   rw[z,aO rfl];omega
  ·rw[aw e,ih hn.2 (by
    rcases List.mem_cons.mp hb with h|h
    ·exact absurd h.symm e
    ·exact h)];omega
theorem aU{a b:Int}(h:a*b<0)(hb:0<b):a<0:=by
 refine Int.not_le.mp fun h1 => ?_;have:=A6 h1 (B4 hb);omega
theorem bp{a b:Int}(h:0<a*b)(hb:0<b):0<a:=by
 refine Int.not_le.mp fun h1 => ?_;have:=A6 (show 0 ≤ -a by omega) (B4 hb);rw[B7] at this;omega
theorem dO{a b:Int}(h:a*b=0)(hb:0<b):a=0:=by
 rcases Int.mul_eq_zero.mp h with e|e
 ·exact e
 ·omega
theorem cg{a b:Int}(ha:a<0)(hb:0<b):a*b<0:=Bv ha hb
theorem cK{a b:Int}(ha:0<a)(hb:b<0):a*b<0:=CQ ha hb
theorem mI{a b:Int}(ha:a<0)(hb:b<0):0<a*b:=CS ha hb
theorem dI{a b:Int}(ha:0<a)(hb:0<b):0<a*b:=A8 ha hb
structure Pos where
 x:Int
 h:Int
def tn(p q r:Pos):Int:=(q.x-p.x)*(r.h-q.h)-(q.h-p.h)*(r.x-q.x)
theorem afB(a x y:Int):a*(x-y) = - ((y-x)*a):=by rw[A9,← B7,Int.neg_sub]
theorem yg(p q r:Pos):tn q r p=tn p q r:=by unfold tn;grind
theorem aer(p q r:Pos):tn q p r = - tn p q r:=by unfold tn;grind
theorem jl(p q r:Pos):tn p r q = - tn p q r:=by unfold tn;grind
theorem aaM(p q:Pos):tn p q q=0:=by unfold tn;grind
theorem aaT(p q:Pos):tn p q p=0:=by unfold tn;grind
def nQ(p q u v:Pos):Prop:=tn p q u*tn p q v<0∧tn u v p*tn u v q<0
theorem agt(a b c d:Pos):tn a c d*(c.h-b.h)=tn b c d*(c.h-a.h)+tn a b c*(d.h-c.h):=by unfold tn;grind
theorem agi(a b c d:Pos):tn a b d*(c.h-b.h)=tn b c d*(b.h-a.h)+tn a b c*(d.h-b.h):=by unfold tn;grind
theorem agv{a b c d:Pos}(h1:a.h<b.h)(h2:b.h<c.h)(h3:c.h<d.h)(hx:¬nQ a c b d)(hb:tn a c b≠0)(hc:tn b d c≠0) :
  0<tn a c b↔tn b d c<0:=by
 have e1:=agt a b c d;have e2:=agi a b c d;have s1:=jl a b c;have s2:=jl b c d;have s3:=yg a b d
 constructor
 ·intro h
  refine Int.not_le.mp fun h'=>hx ?_;have hp:0<tn b d c:=by omega
  have k1:tn a c d*(c.h-b.h)<0:=by
   have m1:=cg (a:=tn b c d) (b:=c.h-a.h) (by omega) (by omega);have m2:=cg (a:=tn a b c) (b:=d.h-c.h) (by omega) (by omega);omega
  have k2:tn a b d*(c.h-b.h)<0:=by
   have m1:=cg (a:=tn b c d) (b:=b.h-a.h) (by omega) (by omega);have m2:=cg (a:=tn a b c) (b:=d.h-b.h) (by omega) (by omega);omega
  have k3:=aU k1 (by omega);have k4:=aU k2 (by omega);exact⟨cK h k3,cg (by omega) hp⟩
 ·intro h
  refine Int.not_le.mp fun h'=>hx ?_;have hp:tn a c b<0:=by omega
  have k1:0<tn a c d*(c.h-b.h):=by
   have m1:=dI (a:=tn b c d) (b:=c.h-a.h) (by omega) (by omega);have m2:=dI (a:=tn a b c) (b:=d.h-c.h) (by omega) (by omega);omega
  have k2:0<tn a b d*(c.h-b.h):=by
   have m1:=dI (a:=tn b c d) (b:=b.h-a.h) (by omega) (by omega);have m2:=dI (a:=tn a b c) (b:=d.h-b.h) (by omega) (by omega);omega
  have k3:=bp k1 (by omega);have k4:=bp k2 (by omega);exact⟨cg hp k3,cK (by omega) h⟩
theorem afv{a b c d:Pos}(h1:a.h<b.h)(h2:b.h<c.h)(h3:c.h<d.h)(hx:¬nQ a d b c)(hb:tn a d b≠0)(hc:tn a d c≠0) :
  0<tn a d b↔0<tn a d c:=by
 have s1:=jl a b d;have s2:=jl a c d;have s3:=yg a b c;have e1:tn a b c*(d.h-a.h)=tn a b d*(c.h-a.h)-tn a c d*(b.h-a.h):=by unfold tn;grind
 have e2:tn b c d*(d.h-a.h)=tn a c d*(d.h-b.h)-tn a b d*(d.h-c.h):=by unfold tn;grind
 constructor
 ·intro h
  refine Int.not_le.mp fun h'=>hx ?_;have hp:tn a d c<0:=by omega
  have m1:=cg (a:=tn a b d) (b:=c.h-a.h) (by omega) (by omega);have m2:=dI (a:=tn a c d) (b:=b.h-a.h) (by omega) (by omega);have m3:=dI (a:=tn a c d) (b:=d.h-b.h) (by omega) (by omega);have m4:=cg (a:=tn a b d) (b:=d.h-c.h) (by omega) (by omega);have k1:=aU (a:=tn a b c) (b:=d.h-a.h) (by omega) (by omega);have k2:=bp (a:=tn b c d) (b:=d.h-a.h) (by omega) (by omega);exact⟨cK h hp,by rw[s3];exact cg k1 k2⟩
 ·intro h
  refine Int.not_le.mp fun h'=>hx ?_;have hp:tn a d b<0:=by omega
  have m1:=dI (a:=tn a b d) (b:=c.h-a.h) (by omega) (by omega);have m2:=cg (a:=tn a c d) (b:=b.h-a.h) (by omega) (by omega);have m3:=cg (a:=tn a c d) (b:=d.h-b.h) (by omega) (by omega);have m4:=dI (a:=tn a b d) (b:=d.h-c.h) (by omega) (by omega);have k1:=bp (a:=tn a b c) (b:=d.h-a.h) (by omega) (by omega);have k2:=aU (a:=tn b c d) (b:=d.h-a.h) (by omega) (by omega);exact⟨cg hp h,by rw[s3];exact cK k1 k2⟩
structure Net where
 n:Nat
 P:Nat→Pos
 W:List (Nat×Nat)
 nx:Nat→Nat→Nat
namespace Net
variable (G:Net)
def h(i:Nat):Int:=(G.P i).h
def t(i j k:Nat):Int:=tn (G.P i) (G.P j) (G.P k)
def prec(v j k:Nat):Prop:=(G.h v<G.h j∧G.h k<G.h v)∨(((G.h v<G.h j∧G.h v<G.h k)∨(G.h j<G.h v∧G.h k<G.h v))∧G.t v j k<0)
instance (v j k:Nat):Decidable (G.prec v j k):=by unfold prec;infer_instance
def hf(v u j:Nat):Nat:=if G.t v u j<0 then 0 else if 0<G.t v u j then 2 else if (G.h v<G.h u↔G.h v<G.h j) then 3 else 1
def snr(v u a b:Nat):Prop:=G.hf v u a<G.hf v u b∨(G.hf v u a=G.hf v u b∧G.t v a b<0)
structure Ok0:Prop where
 nod:G.W.Nodup
 sym:∀{i j},(i,j)∈G.W→(j,i)∈G.W
 lt:∀{i j},(i,j)∈G.W→i<G.n∧j<G.n
 ne:∀{i j},(i,j)∈G.W→i≠j
 inj:∀{i j},i<G.n→j<G.n→G.h i=G.h j→i=j
 on:∀{i j k},(i,j)∈G.W→k<G.n→G.h i<G.h k→G.h k<G.h j→G.t i j k≠0
 cr:∀{i j k l},(i,j)∈G.W→(k,l)∈G.W→¬nQ (G.P i) (G.P j) (G.P k) (G.P l)
structure Ok:Prop extends Ok0 G where
 nxm:∀{u v},(u,v)∈G.W→(v,G.nx u v)∈G.W
 nxs:∀{u v j},(u,v)∈G.W→(v,j)∈G.W→¬G.snr v u j (G.nx u v)
variable {G}
theorem agP(i j k:Nat):G.t j k i=G.t i j k:=yg ..
theorem uG(i j k:Nat):G.t j i k = - G.t i j k:=aer ..
theorem df(i j k:Nat):G.t i k j = - G.t i j k:=jl ..
theorem pY(i j:Nat):G.t i j j=0:=aaM ..
theorem adv(i j:Nat):G.t i j i=0:=aaT ..
theorem plu(v u j k:Nat):(G.h u-G.h v)*G.t v j k-(G.h j-G.h v)*G.t v u k+(G.h k-G.h v)*G.t v u j=0:=by
 unfold t h tn;grind
namespace Ok0
variable (O:G.Ok0)
include O
theorem hne{i j:Nat}(h:(i,j)∈G.W):G.h i≠G.h j:=fun e=>O.ne h (O.inj (O.lt h).1 (O.lt h).2 e)
theorem ray{v j k:Nat}(hj:(v,j)∈G.W)(hk:(v,k)∈G.W)(hne:j≠k)(hs:(G.h v<G.h j∧G.h v<G.h k)∨(G.h j<G.h v∧G.h k<G.h v)):G.t v j k≠0:=by
 intro e;have hh:G.h j≠G.h k:=fun e=>hne (O.inj (O.lt hj).2 (O.lt hk).2 e);rcases hs with⟨h1,h2⟩|⟨h1,h2⟩
 ·by_cases h3:G.h j<G.h k
  ·exact O.on hk (O.lt hj).2 h1 h3 (by rw[df,e];rfl)
  ·exact O.on hj (O.lt hk).2 h2 (by omega) e
 ·by_cases h3:G.h j<G.h k
  ·exact O.on (O.sym hj) (O.lt hk).2 h3 h2 (by rw[uG,e];rfl)
  ·refine O.on (O.sym hk) (O.lt hj).2 (by omega) h1 (by rw[uG,df,e];rfl)
theorem cV{v j k:Nat}(hj:(v,j)∈G.W)(hk:(v,k)∈G.W)(hne:j≠k):G.prec v j k∨G.prec v k j:=by
 have h1:=O.hne hj;have h2:=O.hne hk;have h4:=df (G:=G) v j k;unfold prec
 by_cases a:G.h v<G.h j <;> by_cases b:G.h v<G.h k
 ·have:=O.ray hj hk hne (.inl ⟨a,b⟩);clear hne h1 h2;omega
 ·clear hne h1;omega
 ·clear hne h2;omega
 ·have:=O.ray hj hk hne (.inr ⟨by omega,by omega⟩);clear hne;omega
omit O in
theorem bX{v j:Nat}:¬G.prec v j j:=by
 have h4:=pY (G:=G) v j;unfold prec;omega
omit O in
theorem eZ{v j k:Nat}(h:G.prec v j k):¬G.prec v k j:=by
 have h4:=df (G:=G) v j k;unfold prec at *;omega
omit O in
theorem fh{v i j k:Nat}(h1:G.prec v i j)(h2:G.prec v j k):G.prec v i k:=by
 have e:=plu (G:=G) v i j k;unfold prec at *
 by_cases a:G.h v<G.h i <;> by_cases b:G.h k<G.h v
 ·exact .inl ⟨a,b⟩
 ·
  have q1:G.h v<G.h j:=by omega
  have q2:G.h v<G.h k:=by omega
  have q3:G.t v i j<0:=by omega
  have q4:G.t v j k<0:=by omega
  have m1:=cK (a:=G.h i-G.h v) (b:=G.t v j k) (by omega) q4;have m2:=cK (a:=G.h k-G.h v) (b:=G.t v i j) (by omega) q3;have m3:G.t v i k*(G.h j-G.h v)<0:=by rw[A9];omega
  exact .inr ⟨.inl ⟨a,q2⟩,aU m3 (by omega)⟩
 ·have q1:G.h i<G.h v:=by omega
  have q2:G.h j<G.h v:=by omega
  have q3:G.t v i j<0:=by omega
  have q4:G.t v j k<0:=by omega
  have m1:=mI (a:=G.h i-G.h v) (b:=G.t v j k) (by omega) q4;have m2:=mI (a:=G.h k-G.h v) (b:=G.t v i j) (by omega) q3;have m3:G.t v i k*(G.h v-G.h j)<0:=by
   have:G.t v i k*(G.h v-G.h j) = - ((G.h j-G.h v)*G.t v i k):=afB _ _ _;omega
  exact .inr ⟨.inr ⟨q1,b⟩,aU m3 (by omega)⟩
 ·exfalso;omega
theorem acM{v u j k:Nat}(hu:(v,u)∈G.W)(hj:(v,j)∈G.W)(hk:(v,k)∈G.W)(h1:G.prec v u j)(h2:G.prec v k u):G.snr v u j k:=by
 have e:=plu (G:=G) v u j k;have hu':=O.hne hu;have hj':=O.hne hj;have hk':=O.hne hk;have s1:=df (G:=G) v u k;unfold prec at h1 h2;unfold snr
 by_cases a:G.h v<G.h u
 ·have kb:G.h v<G.h k∧0<G.t v u k:=by omega
  have fk:G.hf v u k=2:=by unfold hf;rw[Ad (by omega),Ag kb.2]
  by_cases ta:G.t v u j<0
  ·left;rw[fk];unfold hf;rw[Ag ta];omega
  ·have jd:G.h j<G.h v:=by omega
   by_cases tb:0<G.t v u j
   ·right
    refine⟨by rw[fk];unfold hf;rw[Ad ta,Ag tb],?_⟩;have m1:=cg (a:=G.h j-G.h v) (b:=G.t v u k) (by omega) kb.2;have m2:=dI (a:=G.h k-G.h v) (b:=G.t v u j) (by omega) tb;refine aU (b:=G.h u-G.h v) ?_ (by omega);rw[A9];omega
   ·left;rw[fk];unfold hf;rw[Ad ta,Ad tb,Ad (by omega)];omega
 ·have ja:G.h j<G.h v∧G.t v u j<0:=by omega
  have fj:G.hf v u j=0:=by unfold hf;rw[Ag ja.2]
  by_cases tb:G.t v u k<0
  ·right
   refine⟨by rw[fj];unfold hf;rw[Ag tb],?_⟩;have ku:G.h v<G.h k:=by omega
   have m1:=mI (a:=G.h j-G.h v) (b:=G.t v u k) (by omega) tb;have m2:=cK (a:=G.h k-G.h v) (b:=G.t v u j) (by omega) ja.2;refine aU (b:=G.h v-G.h u) ?_ (by omega);have:G.t v j k*(G.h v-G.h u) = - ((G.h u-G.h v)*G.t v j k):=afB _ _ _;omega
  ·left;rw[fj];unfold hf;rw[Ad tb];split
   ·omega
   ·split <;> omega
theorem abT{v u j k:Nat}(hu:(v,u)∈G.W)(hj:(v,j)∈G.W)(hk:(v,k)∈G.W)(h1:G.prec v u j)(h2:G.prec v u k)(h3:G.prec v j k):G.snr v u j k:=by
 have e:=plu (G:=G) v u j k;have hu':=O.hne hu;have hj':=O.hne hj;have hk':=O.hne hk;unfold prec at h1 h2 h3;unfold snr
 by_cases a:G.h v<G.h u
 ·by_cases ju:G.h v<G.h j
  ·have ja:G.t v u j<0:=by omega
   have fj:G.hf v u j=0:=by unfold hf;rw[Ag ja]
   by_cases tb:G.t v u k<0
   ·right
    refine⟨by rw[fj];unfold hf;rw[Ag tb],?_⟩
    by_cases ku:G.h v<G.h k
    ·omega
    ·have m1:=cK (a:=G.h j-G.h v) (b:=G.t v u k) (by omega) tb
     have m2:=mI (a:=G.h k-G.h v) (b:=G.t v u j) (by omega) ja;refine aU (b:=G.h u-G.h v) ?_ (by omega);rw[A9];omega
   ·left;rw[fj];unfold hf;rw[Ad tb];split
    ·omega
    ·split <;> omega
  ·have kd:G.h k<G.h v:=by omega
   have c:G.t v j k<0:=by omega
   have m0:=cK (a:=G.h u-G.h v) (b:=G.t v j k) (by omega) c
   by_cases ta:G.t v u j<0
   ·have fj:G.hf v u j=0:=by unfold hf;rw[Ag ta]
    by_cases tb:G.t v u k<0
    ·right
     exact⟨by rw[fj];unfold hf;rw[Ag tb],c⟩
    ·left;rw[fj];unfold hf;rw[Ad tb];split
     ·omega
     ·split <;> omega
   ·have m1:(G.h k-G.h v)*G.t v u j≤0:=BB (by omega) (by omega)
    have m2:0<G.t v u k:=by
     refine bp (b:=G.h v-G.h j) ?_ (by omega);have:G.t v u k*(G.h v-G.h j) = - ((G.h j-G.h v)*G.t v u k):=afB _ _ _;have m3:(G.h j-G.h v)*G.t v u k=(G.h u-G.h v)*G.t v j k+(G.h k-G.h v)*G.t v u j:=by omega
     omega
    have fk:G.hf v u k=2:=by unfold hf;rw[Ad (by omega),Ag m2]
    by_cases tb:0<G.t v u j
    ·right
     exact⟨by rw[fk];unfold hf;rw[Ad ta,Ag tb],c⟩
    ·left;rw[fk];unfold hf;rw[Ad ta,Ad tb,Ad (by omega)];omega
 ·right
  have q1:G.t v u j<0:=by omega
  have q2:G.t v u k<0:=by omega
  refine⟨by unfold hf;rw[Ag q1,Ag q2],by omega⟩
theorem acd{v u j k:Nat}(hu:(v,u)∈G.W)(hj:(v,j)∈G.W)(hk:(v,k)∈G.W)(h1:G.prec v j u)(h2:G.prec v k u)(h3:G.prec v j k):G.snr v u j k:=by
 have e:=plu (G:=G) v u j k;have hu':=O.hne hu;have hj':=O.hne hj;have hk':=O.hne hk;have s1:=df (G:=G) v u j;have s2:=df (G:=G) v u k;unfold prec at h1 h2 h3;unfold snr
 by_cases a:G.h v<G.h u
 ·right
  have q1:0<G.t v u j:=by clear h2 h3 hu' hj' hk' e s2;omega
  have q2:0<G.t v u k:=by clear h1 h3 hu' hj' hk' e s1 q1;omega
  refine⟨by unfold hf;rw[Ad (by omega),Ag q1,Ad (by omega),Ag q2],by clear h1 e s1 s2 q1 hu' hj';omega⟩
 ·by_cases ku:G.h v<G.h k
  ·have ju:G.h v<G.h j:=by clear h1 h2 e s1 s2 hu' hk';omega
   have c:G.t v j k<0:=by clear h1 h2 e s1 s2 hu' hj' hk';omega
   have au:G.h u-G.h v<0:=by clear h1 h2 h3 e s1 s2 hj' hk';omega
   clear h1 h2 h3 hu' hj' hk';have m0:=mI (a:=G.h u-G.h v) (b:=G.t v j k) au c
   by_cases ta:G.t v u j<0
   ·have fj:G.hf v u j=0:=by unfold hf;rw[Ag ta]
    by_cases tb:G.t v u k<0
    ·right
     exact⟨by rw[fj];unfold hf;rw[Ag tb],c⟩
    ·left;rw[fj];unfold hf;rw[Ad tb];split
     ·omega
     ·split <;> omega
   ·have m1:0≤(G.h k-G.h v)*G.t v u j:=A6 (by omega) (by omega)
    have m2:0<G.t v u k:=by
     refine bp (b:=G.h j-G.h v) ?_ (by omega);rw[A9];omega
    have fk:G.hf v u k=2:=by unfold hf;rw[Ad (by omega),Ag m2]
    by_cases tb:0<G.t v u j
    ·right
     exact⟨by rw[fk];unfold hf;rw[Ad ta,Ag tb],c⟩
    ·left;rw[fk];unfold hf;rw[Ad ta,Ad tb,Ad (by omega)];omega
  ·have kb:0<G.t v u k:=by clear h1 h3 e s1 hj';omega
   have fk:G.hf v u k=2:=by unfold hf;rw[Ad (by omega),Ag kb]
   by_cases ta:G.t v u j<0
   ·left;rw[fk];unfold hf;rw[Ag ta];omega
   ·by_cases tb:0<G.t v u j
    ·right
     refine⟨by rw[fk];unfold hf;rw[Ad ta,Ag tb],?_⟩
     by_cases ju:G.h v<G.h j
     ·have m1:=dI (a:=G.h j-G.h v) (b:=G.t v u k) (by omega) kb
      have m2:=cg (a:=G.h k-G.h v) (b:=G.t v u j) (by omega) tb;refine aU (b:=G.h v-G.h u) ?_ (by clear h1 h2 h3 e s1 s2 hj' hk' m1 m2;omega);have:G.t v j k*(G.h v-G.h u) = - ((G.h u-G.h v)*G.t v j k):=afB _ _ _;omega
     ·omega
    ·left;rw[fk];unfold hf;rw[Ad ta,Ad tb,Ad (by omega)];omega
theorem jA{v u j:Nat}(hu:(v,u)∈G.W)(hj:(v,j)∈G.W)(h:j≠u):G.snr v u j u:=by
 left
 have hu':=O.hne hu;have hj':=O.hne hj;have e:=pY (G:=G) v u;have fu:G.hf v u u=3:=by unfold hf;rw[Ad (by omega),Ad (by omega),Ag Iff.rfl]
 rw[fu];unfold hf
 by_cases ta:G.t v u j<0
 ·rw[Ag ta];omega
 ·by_cases tb:0<G.t v u j
  ·rw[Ad ta,Ag tb];omega
  ·rw[Ad ta,Ad tb]
   by_cases c:(G.h v<G.h u↔G.h v<G.h j)
   ·exfalso
    have:(G.h v<G.h u∧G.h v<G.h j)∨(G.h u<G.h v∧G.h j<G.h v):=by omega
    have:=O.ray hu hj (Ne.symm h) this;omega
   ·rw[Ad c];omega
def cyc(G:Net)(v u a b:Nat):Prop:=(G.prec v u a∧G.prec v u b∧G.prec v a b)∨(G.prec v u a∧G.prec v b u)∨(G.prec v a u∧G.prec v b u∧G.prec v a b)∨(a≠u∧b=u)
theorem kh{v u a b:Nat}(hu:(v,u)∈G.W)(ha:(v,a)∈G.W)(hb:(v,b)∈G.W)(h:cyc G v u a b):G.snr v u a b:=by
 rcases h with⟨p,q,r⟩|⟨p,q⟩|⟨p,q,r⟩|⟨p,q⟩
 ·exact O.abT hu ha hb p q r
 ·exact O.acM hu ha hb p q
 ·exact O.acd hu ha hb p q r
 ·subst q;exact O.jA hu ha p
theorem sY{v u a b:Nat}(hu:(v,u)∈G.W)(ha:(v,a)∈G.W)(hb:(v,b)∈G.W)(ne:a≠b):cyc G v u a b∨cyc G v u b a:=by
 by_cases au:a=u
 ·subst au;exact .inr (.inr (.inr (.inr ⟨Ne.symm ne,rfl⟩)))
 ·by_cases bu:b=u
  ·subst bu;exact .inl (.inr (.inr (.inr ⟨ne,rfl⟩)))
  ·rcases O.cV hu ha (Ne.symm au) with p|p <;> rcases O.cV hu hb (Ne.symm bu) with q|q
   ·rcases O.cV ha hb ne with r|r
    ·exact .inl (.inl ⟨p,q,r⟩)
    ·exact .inr (.inl ⟨q,p,r⟩)
   ·exact .inl (.inr (.inl ⟨p,q⟩))
   ·exact .inr (.inr (.inl ⟨q,p⟩))
   ·rcases O.cV ha hb ne with r|r
    ·exact .inl (.inr (.inr (.inl ⟨p,q,r⟩)))
    ·exact .inr (.inr (.inr (.inl ⟨q,p,r⟩)))
omit O in
theorem qD{v u a b:Nat}(h:G.snr v u a b):¬G.snr v u b a:=by
 have s:=df (G:=G) v a b;unfold snr at *;omega
omit O in
theorem p3{v u a:Nat}:¬G.snr v u a a:=fun h=>qD h h
theorem x9{v u a b:Nat}(hu:(v,u)∈G.W)(ha:(v,a)∈G.W)(hb:(v,b)∈G.W)(h:G.snr v u a b):cyc G v u a b:=by
 have ne:a≠b:=fun e=>by rw[e] at h;exact p3 h
 rcases O.sY hu ha hb ne with z|z
 ·exact z
 ·exact absurd (O.kh hu hb ha z) (qD h)
omit O in
theorem zo{v u a b c:Nat}(h1:cyc G v u a b)(h2:cyc G v u b c):cyc G v u a c:=by
 rcases h1 with⟨p,q,r⟩|⟨p,q⟩|⟨p,q,r⟩|⟨p,q⟩ <;> rcases h2 with⟨p',q',r'⟩|⟨p',q'⟩|⟨p',q',r'⟩|⟨p',q'⟩
 ·exact .inl ⟨p,q',fh r r'⟩
 ·exact .inr (.inl ⟨p,q'⟩)
 ·exact absurd q (eZ p')
 ·exact .inr (.inr (.inr ⟨fun e=>by rw[e] at p;exact bX p,q'⟩))
 ·exact absurd q (eZ p')
 ·exact absurd q (eZ p')
 ·exact .inr (.inl ⟨p,q'⟩)
 ·exact .inr (.inr (.inr ⟨fun e=>by rw[e] at p;exact bX p,q'⟩))
 ·exact absurd q (eZ p')
 ·exact absurd q (eZ p')
 ·exact .inr (.inr (.inl ⟨p,q',fh r r'⟩))
 ·exact .inr (.inr (.inr ⟨fun e=>by rw[e] at p;exact bX p,q'⟩))
 ·rw[q] at p';exact absurd p' bX
 ·rw[q] at p';exact absurd p' bX
 ·rw[q] at p';exact absurd p' bX
 ·exact absurd q p'
theorem mR{v u a b c:Nat}(hu:(v,u)∈G.W)(ha:(v,a)∈G.W)(hb:(v,b)∈G.W)(hc:(v,c)∈G.W)(h1:G.snr v u a b)(h2:G.snr v u b c):G.snr v u a c :=
 O.kh hu ha hc (zo (O.x9 hu ha hb h1) (O.x9 hu hb hc h2))
end Ok0
namespace Ok
variable (O:G.Ok)
include O
theorem rE{u v:Nat}(h:(u,v)∈G.W) :
  (G.prec v u (G.nx u v)∧∀j,(v,j)∈G.W→G.prec v u j→¬G.prec v j (G.nx u v)) ∨
  ((∀j,(v,j)∈G.W→¬G.prec v u j)∧∀j,(v,j)∈G.W→¬G.prec v j (G.nx u v)):=by
 have hu:=O.sym h;have hw:=O.nxm h;have hs:=fun j hj=>O.nxs (j:=j) h hj;generalize G.nx u v=w at *
 by_cases ex:∃j,(v,j)∈G.W∧G.prec v u j
 ·left
  obtain⟨j,hj,pj⟩:=ex;have uw:G.prec v u w:=by
   by_cases e:w=u
   ·subst e
    exact absurd (O.jA hu hj (fun e=>Ok0.bX (by rw[e] at pj;exact pj))) (hs j hj)
   ·rcases O.cV hu hw (Ne.symm e) with q|q
    ·exact q
    ·exact absurd (O.acM hu hj hw pj q) (hs j hj)
  exact⟨uw,fun k hk p1 p2=>hs k hk (O.abT hu hk hw p1 uw p2)⟩
 ·right
  have no:∀j,(v,j)∈G.W→¬G.prec v u j:=fun j hj p=>ex ⟨j,hj,p⟩;refine⟨no,fun j hj p => ?_⟩
  by_cases e:w=u
  ·subst e
   exact hs j hj (O.jA hw hj fun e=>Ok0.bX (by rw[e] at p;exact p))
  ·rcases O.cV hu hw (Ne.symm e) with q|q
   ·exact no w hw q
   ·exact hs j hj (O.acd hu hj hw (Ok0.fh p q) q p)
theorem af3{u u' v:Nat}(h:(u,v)∈G.W)(h':(u',v)∈G.W)(e:G.nx u v=G.nx u' v):u=u':=by
 have hu:=O.sym h;have hu':=O.sym h';refine Classical.byContradiction fun ne => ?_;have key:∀{a b:Nat},(a,v)∈G.W→(b,v)∈G.W→G.nx a v=G.nx b v→G.prec v a b→False:=by
  intro a b ha hb e p;rcases O.rE ha with⟨p1,n1⟩|⟨n1,n2⟩
  ·rcases O.rE hb with⟨p2,n2⟩|⟨n2,n3⟩
   ·rw[← e] at p2
    exact n1 b (O.sym hb) p p2
   ·exact n3 a (O.sym ha) (by rw[← e];exact p1)
  ·exact n1 b (O.sym hb) p
 rcases O.cV hu hu' ne with p|p
 ·exact key h h' e p
 ·exact key h' h e.symm p
end Ok
end Net
namespace Net
variable (G:Net)
def U:List (Nat×Nat):=G.W.filter fun f=>decide (G.h f.1<G.h f.2)
def net(c:Nat×Nat→Int)(f:Nat×Nat):Int:=c f-c (f.2,f.1)
def Flow(c:Nat×Nat→Int):Prop:=∀w,sm G.U (fun f=>net c f*(ind (f.1=w)-ind (f.2=w)))=0
def rt(v:Nat)(f:Nat×Nat):Prop:=G.h f.1<G.h v∧G.h v<G.h f.2∧0<G.t f.1 f.2 v
instance (v:Nat) (f:Nat×Nat):Decidable (G.rt v f):=by unfold rt;infer_instance
def bot(e f:Nat×Nat):Prop:=G.rt e.1 f∨(f.1=e.1∧(f.2=e.2∨G.t e.1 e.2 f.2<0))
def top(e f:Nat×Nat):Prop:=G.rt e.2 f∨(f.2=e.2∧(f.1=e.1∨G.t e.1 e.2 f.1<0))
instance (e f:Nat×Nat):Decidable (G.bot e f):=by unfold bot;infer_instance
instance (e f:Nat×Nat):Decidable (G.top e f):=by unfold top;infer_instance
def Lb(c:Nat×Nat→Int)(e:Nat×Nat):Int:=sm G.U (fun f=>net c f*ind (G.bot e f))
def Lt(c:Nat×Nat→Int)(e:Nat×Nat):Int:=sm G.U (fun f=>net c f*ind (G.top e f))
def L(c:Nat×Nat→Int)(e:Nat×Nat):Int:=if G.h e.1<G.h e.2 then G.Lb c e else G.Lb c (e.2,e.1)-net c (e.2,e.1)
def sd(e:Nat×Nat)(w:Nat):Prop:=G.h e.1<G.h w∧G.h w<G.h e.2∧G.t e.1 e.2 w<0
instance (e:Nat×Nat) (w:Nat):Decidable (G.sd e w):=by unfold sd;infer_instance
variable {G}
theorem bS{f:Nat×Nat}:f∈G.U↔f∈G.W∧G.h f.1<G.h f.2:=by
 unfold U;simp
theorem zY(c:Nat×Nat→Int)(i j:Nat):net c (i,j) = - net c (j,i):=by
 unfold net;dsimp only;omega
theorem oW{c:Nat×Nat→Int}(hc:G.Flow c)(S:Nat→Prop)[DecidablePred S](hU:∀f∈G.U,f.1<G.n∧f.2<G.n) :
  sm G.U (fun f=>net c f*ind (S f.1))=sm G.U (fun f=>net c f*ind (S f.2)):=by
 have e:sm ((List.range G.n).filter fun w=>decide (S w)) (fun w=>sm G.U (fun f=>net c f*(ind (f.1=w)-ind (f.2=w))))=0:=by
  rw[aI (g:=fun _=>0) fun w _=>hc w,gq]
 rw[pB] at e;have k:∀f∈G.U,sm ((List.range G.n).filter fun w=>decide (S w)) (fun w=>net c f*(ind (f.1=w)-ind (f.2=w)))=net c f*ind (S f.1)-net c f*ind (S f.2):=by
  intro f hf;have one:∀i,i<G.n→sm ((List.range G.n).filter fun w=>decide (S w)) (fun w=>ind (i=w))=ind (S i):=by
   intro i hi;rw[jC];have:sm (List.range G.n) (fun a=>ind (a=i)*ind (S a))=ind (S i):=ko Cc (List.mem_range.mpr hi) (fun a=>ind (S a));rw[← this];refine aI fun a _ => ?_;rw[aB (p:=i=a) (q:=a=i) ⟨Eq.symm,Eq.symm⟩,A9]
  rw[fV,mS,one _ (hU f hf).1,one _ (hU f hf).2,BO]
 rw[aI k,mS] at e;omega
namespace Ok
variable (O:G.Ok)
include O
theorem ze:∀f∈G.U,f.1<G.n∧f.2<G.n:=fun f hf=>O.lt (i:=f.1) (j:=f.2) (bS.mp hf).1
theorem aa6:G.U.Nodup:=O.nod.filter _
theorem heq{i j:Nat}(hi:i<G.n)(hj:j<G.n):G.h i=G.h j↔i=j:=⟨O.inj hi hj,fun e=>by rw[e]⟩
set_option maxHeartbeats 2000000 in
theorem yG{e f:Nat×Nat}(he:e∈G.U)(hf:f∈G.U):ind (G.bot e f)+ind (G.sd e f.1)=ind (G.top e f)+ind (G.sd e f.2):=by
 obtain⟨u,v⟩:=e;obtain⟨p,q⟩:=f;obtain⟨we,he⟩:=bS.mp he;obtain⟨wf,hf⟩:=bS.mp hf;dsimp only at he hf;show ind (G.bot (u,v) (p,q))+ind (G.sd (u,v) p)=ind (G.top (u,v) (p,q))+ind (G.sd (u,v) q);have iu:=(O.lt we).1;have iv:=(O.lt we).2;have ip:=(O.lt wf).1;have iq:=(O.lt wf).2
 by_cases c1:p=u
 ·subst c1
  by_cases c2:q=v
  ·subst c2
   rw[aO (show G.bot (p,q) (p,q) from .inr ⟨rfl,.inl rfl⟩),aO (show G.top (p,q) (p,q) from .inr ⟨rfl,.inl rfl⟩),
    aw (show ¬G.sd (p,q) p by unfold sd;dsimp only;omega),aw (show ¬G.sd (p,q) q by unfold sd;dsimp only;omega)]
  ·have s:=df (G:=G) p v q
   have nq:G.h q≠G.h v:=fun e=>c2 (O.inj iq iv e);rw[aw (show ¬G.sd (p,v) p by unfold sd;dsimp only;omega)]
   by_cases c3:G.h q<G.h v
   ·rw[aw (show ¬G.top (p,v) (p,q) by unfold top rt;dsimp only;omega),
     aB (p:=G.bot (p,v) (p,q)) (q:=G.sd (p,v) q) (by unfold bot sd rt;dsimp only;omega)]
    omega
   ·rw[aw (show ¬G.sd (p,v) q by unfold sd;dsimp only;omega),
     aB (p:=G.bot (p,v) (p,q)) (q:=G.top (p,v) (p,q)) (by unfold bot top rt;dsimp only;omega)]
 ·have np:G.h p≠G.h u:=fun e=>c1 (O.inj ip iu e)
  by_cases c2:q=v
  ·subst c2
   have s1:=df (G:=G) p u q;have s2:=agP (G:=G) p u q;rw[aw (show ¬G.sd (u,q) q by unfold sd;dsimp only;omega)]
   by_cases c3:G.h u<G.h p
   ·rw[aw (show ¬G.bot (u,q) (p,q) by unfold bot rt;dsimp only;omega),
     aB (p:=G.top (u,q) (p,q)) (q:=G.sd (u,q) p) (by unfold top sd rt;dsimp only;omega)]
    omega
   ·rw[aw (show ¬G.sd (u,q) p by unfold sd;dsimp only;omega),
     aB (p:=G.bot (u,q) (p,q)) (q:=G.top (u,q) (p,q)) (by unfold bot top rt;dsimp only;omega)]
  ·have nq:G.h q≠G.h v:=fun e=>c2 (O.inj iq iv e)
   have cr:¬nQ (G.P p) (G.P q) (G.P u) (G.P v):=O.cr wf we;have cr':¬nQ (G.P u) (G.P v) (G.P p) (G.P q):=O.cr we wf;have z1:G.h q≤G.h u∨G.h v≤G.h p∨(G.h u<G.h q∧G.h p<G.h v):=by omega
   rcases z1 with z|z|⟨z1,z2⟩
   ·rw[aw (show ¬G.bot (u,v) (p,q) by unfold bot rt;dsimp only;omega),aw (show ¬G.top (u,v) (p,q) by unfold top rt;dsimp only;omega),
     aw (show ¬G.sd (u,v) p by unfold sd;dsimp only;omega),aw (show ¬G.sd (u,v) q by unfold sd;dsimp only;omega)]
   ·rw[aw (show ¬G.bot (u,v) (p,q) by unfold bot rt;dsimp only;omega),aw (show ¬G.top (u,v) (p,q) by unfold top rt;dsimp only;omega),
     aw (show ¬G.sd (u,v) p by unfold sd;dsimp only;omega),aw (show ¬G.sd (u,v) q by unfold sd;dsimp only;omega)]
   ·by_cases y1:G.h p<G.h u <;> by_cases y2:G.h q<G.h v
    ·rw[aw (show ¬G.top (u,v) (p,q) by unfold top rt;dsimp only;omega),aw (show ¬G.sd (u,v) p by unfold sd;dsimp only;omega)]
     have k:0<G.t p q u↔G.t u v q<0:=agv (a:=G.P p) (b:=G.P u) (c:=G.P q) (d:=G.P v) y1 z1 y2 cr (O.on wf iu y1 z1) (O.on we iq z1 y2);clear np nq;rw[aB (p:=G.bot (u,v) (p,q)) (q:=G.sd (u,v) q) (by unfold bot sd rt;dsimp only;omega)];clear k;omega
    ·have y3:G.h v<G.h q:=by omega
     rw[aw (show ¬G.sd (u,v) p by unfold sd;dsimp only;omega),aw (show ¬G.sd (u,v) q by unfold sd;dsimp only;omega)];have k:0<G.t p q u↔0<G.t p q v:=afv (a:=G.P p) (b:=G.P u) (c:=G.P v) (d:=G.P q) y1 he y3 cr (O.on wf iu y1 z1) (O.on wf iv z2 y3);clear np nq;rw[aB (p:=G.bot (u,v) (p,q)) (q:=G.top (u,v) (p,q)) (by unfold bot top rt;dsimp only;omega)]
    ·have y3:G.h u<G.h p:=by omega
     rw[aw (show ¬G.top (u,v) (p,q) by unfold top rt;dsimp only;omega),aw (show ¬G.bot (u,v) (p,q) by unfold bot rt;dsimp only;omega)];have k:0<G.t u v p↔0<G.t u v q:=afv (a:=G.P u) (b:=G.P p) (c:=G.P q) (d:=G.P v) y3 hf y2 cr' (O.on we ip y3 z2) (O.on we iq z1 y2);have n1:=O.on we ip y3 z2;have n2:=O.on we iq z1 y2;clear np nq;rw[aB (p:=G.sd (u,v) p) (q:=G.sd (u,v) q) (by unfold sd;dsimp only;omega)]
    ·have y3:G.h u<G.h p:=by omega
     have y4:G.h v<G.h q:=by omega
     rw[aw (show ¬G.bot (u,v) (p,q) by unfold bot rt;dsimp only;omega),aw (show ¬G.sd (u,v) q by unfold sd;dsimp only;omega)];have k:0<G.t u v p↔G.t p q v<0:=agv (a:=G.P u) (b:=G.P p) (c:=G.P v) (d:=G.P q) y3 z2 y4 cr' (O.on we ip y3 z2) (O.on wf iv z2 y4);have n1:=O.on we ip y3 z2;have n2:=O.on wf iv z2 y4;clear np nq;rw[aB (p:=G.sd (u,v) p) (q:=G.top (u,v) (p,q)) (by unfold sd top rt;dsimp only;omega)];clear k n1 n2;omega
theorem ends{c:Nat×Nat→Int}(hc:G.Flow c){e:Nat×Nat}(he:e∈G.U):G.Lb c e=G.Lt c e:=by
 have k:=oW hc (G.sd e) O.ze;have s:sm G.U (fun f=>net c f*ind (G.bot e f)+net c f*ind (G.sd e f.1))=sm G.U (fun f=>net c f*ind (G.top e f)+net c f*ind (G.sd e f.2)):=by
  refine aI fun f hf => ?_;rw[← Bq,← Bq,O.yG he hf]
 rw[dZ,dZ] at s;unfold Lb Lt;omega
end Ok
variable (G)
def Pre(c:Nat×Nat→Int)(v k:Nat):Int:=sm G.U (fun f=>net c f*(ind (f.1=v∧G.prec v f.2 k)-ind (f.2=v∧G.prec v f.1 k)))
def K(c:Nat×Nat→Int)(v:Nat):Int:=sm G.U (fun f=>net c f*(ind (G.rt v f)+ind (f.1=v)))
variable {G}
namespace Ok
variable (O:G.Ok)
include O
theorem afk{c:Nat×Nat→Int}(hc:G.Flow c){v k:Nat}(hk:(v,k)∈G.W):G.L c (v,k)+G.Pre c v k=G.K c v:=by
 have hh:=O.hne hk;unfold L
 by_cases a:G.h v<G.h k
 ·rw[Ag a]
  unfold Lb Pre K;rw[← dZ];refine aI fun f hf => ?_;rw[← Bq]
  congr 1
  obtain⟨p,q⟩:=f;obtain⟨wf,hf⟩:=bS.mp hf;dsimp only at hf ⊢
  by_cases c1:p=v
  ·subst c1
   have qp:q≠p:=fun e=>by rw[e] at hf;omega
   rw[aw (show ¬(q=p∧G.prec p p k) from fun z=>qp z.1),aw (show ¬G.rt p (p,q) by unfold rt;dsimp only;omega),aO rfl]
   by_cases c2:q=k
   ·subst c2
    rw[aO (show G.bot (p,q) (p,q) from .inr ⟨rfl,.inl rfl⟩),aw (show ¬(p=p∧G.prec p q q) from fun z=>Ok0.bX z.2)];omega
   ·have r:=O.ray wf hk c2 (.inl ⟨hf,a⟩)
    have s:=df (G:=G) p k q
    by_cases c3:G.t p q k<0
    ·rw[aw (show ¬G.bot (p,k) (p,q) by unfold bot rt;dsimp only;omega),aO (show p=p∧G.prec p q k from⟨rfl,.inr ⟨.inl ⟨hf,a⟩,c3⟩⟩)]
     omega
    ·rw[aO (show G.bot (p,k) (p,q) by unfold bot rt;dsimp only;omega),aw (show ¬(p=p∧G.prec p q k) by unfold prec;omega)]
     omega
  ·rw[aw (show ¬(p=v∧G.prec v q k) from fun z=>c1 z.1),aw (show ¬(q=v∧G.prec v p k) by
     rintro⟨e,z⟩;subst e;unfold prec at z;omega),aw c1,
    aB (p:=G.bot (v,k) (p,q)) (q:=G.rt v (p,q)) ⟨fun z=>z.elim id fun w=>absurd w.1 c1,.inl⟩]
   omega
 ·rw[Ad a]
  have b:G.h k<G.h v:=by omega
  have ku:(k,v)∈G.U:=bS.mpr ⟨O.sym hk,b⟩;dsimp only;rw[O.ends hc ku];have one:net c (k,v)=sm G.U (fun f=>net c f*ind (f=(k,v))):=by
   rw[aI (g:=fun f=>ind (f=(k,v))*net c f) fun f _=>A9 _ _,ko O.aa6 ku]
  rw[one];unfold Lt Pre K;rw[← mS,← dZ];refine aI fun f hf => ?_;rw[← BO,← Bq]
  congr 1
  obtain⟨p,q⟩:=f;obtain⟨wf,hf⟩:=bS.mp hf;dsimp only at hf ⊢
  by_cases c1:p=v
  ·subst c1
   have qp:q≠p:=fun e=>by rw[e] at hf;omega
   rw[aw (show ¬(q=p∧G.prec p p k) from fun z=>qp z.1),aw (show ¬G.rt p (p,q) by unfold rt;dsimp only;omega),aO rfl,
    aw (show ¬G.top (k,p) (p,q) by unfold top rt;dsimp only;omega),aw (show ¬(p,q)=(k,p) from fun e=>qp (Prod.mk.inj e).2),
    aO (show p=p∧G.prec p q k from⟨rfl,.inl ⟨hf,b⟩⟩)]
   omega
  ·rw[aw (show ¬(p=v∧G.prec v q k) from fun z=>c1 z.1),aw c1]
   by_cases c2:q=v
   ·subst c2
    rw[aw (show ¬G.rt q (p,q) by unfold rt;dsimp only;omega)];have s:=agP (G:=G) k q p
    by_cases c3:p=k
    ·subst c3
     rw[aO (show G.top (p,q) (p,q) from .inr ⟨rfl,.inl rfl⟩),aO rfl,aw (show ¬(q=q∧G.prec q p p) from fun z=>Ok0.bX z.2)];omega
    ·rw[aw (show ¬(p,q)=(k,q) from fun e=>c3 (Prod.mk.inj e).1),
      aB (p:=G.top (k,q) (p,q)) (q:=q=q∧G.prec q p k) (by unfold top rt prec;dsimp only;omega)]
     omega
   ·rw[aw (show ¬(q=v∧G.prec v p k) from fun z=>c2 z.1),aw (show ¬(p,q)=(k,v) from fun e=>c2 (Prod.mk.inj e).2),
     aB (p:=G.top (k,v) (p,q)) (q:=G.rt v (p,q)) ⟨fun z=>z.elim id fun w=>absurd w.1 c2,.inl⟩]
    omega
theorem agd{c:Nat×Nat→Int}{v k:Nat}(hk:(v,k)∈G.W):G.L c (v,k)-G.L c (k,v)=net c (v,k):=by
 have hh:=O.hne hk;unfold L;dsimp only at *
 have e:=zY c v k
 by_cases a:G.h v<G.h k
 ·rw[Ag a,Ad (by omega)];omega
 ·rw[Ad a,Ag (by omega)];omega
theorem ado{c:Nat×Nat→Int}{v u:Nat}(hu:(v,u)∈G.W):sm G.U (fun f=>net c f*(ind (f.1=v∧f.2=u)-ind (f.2=v∧f.1=u)))=net c (v,u):=by
 have hh:=O.hne hu
 by_cases a:G.h v<G.h u
 ·have hm:(v,u)∈G.U:=bS.mpr ⟨hu,a⟩
  rw[← ko O.aa6 hm (net c)];refine aI fun f hf => ?_;obtain⟨p,q⟩:=f;obtain⟨wf,hf⟩:=bS.mp hf;dsimp only at *
  rw[A9,aw (show ¬(q=v∧p=u) from fun z=>by rw[z.1,z.2] at hf;omega),
   aB (p:=p=v∧q=u) (q:=(p,q)=(v,u)) ⟨fun z=>by rw[z.1,z.2],fun z=>Prod.mk.inj z⟩,CH]
 ·have hm:(u,v)∈G.U:=bS.mpr ⟨O.sym hu,by dsimp only at *;omega⟩
  rw[zY,← ko O.aa6 hm (net c),← agE];refine aI fun f hf => ?_;obtain⟨p,q⟩:=f;obtain⟨wf,hf⟩:=bS.mp hf;dsimp only at *
  rw[A9,aw (show ¬(p=v∧q=u) from fun z=>by rw[z.1,z.2] at hf;omega),
   aB (p:=q=v∧p=u) (q:=(p,q)=(u,v)) ⟨fun z=>by rw[z.1,z.2],fun z=>⟨(Prod.mk.inj z).2,(Prod.mk.inj z).1⟩⟩]
  grind
theorem aeZ{c:Nat×Nat→Int}(hc:G.Flow c){u v:Nat}(h:(u,v)∈G.W):G.Pre c v (G.nx u v)=G.Pre c v u+net c (v,u):=by
 have hu:=O.sym h;have hw:=O.nxm h;rw[← O.ado hu];rcases O.rE h with⟨p1,n1⟩|⟨n1,n2⟩
 ·generalize G.nx u v=w at *
  unfold Pre;rw[← dZ];have key:∀j,(v,j)∈G.W→ind (G.prec v j w)=ind (G.prec v j u)+ind (j=u):=by
   intro j hj
   by_cases e:j=u
   ·subst e
    rw[aO p1,aw Ok0.bX,aO rfl];rfl
   ·rw[aw e,aB (p:=G.prec v j w) (q:=G.prec v j u)]
    ·omega
    ·refine⟨fun q => ?_,fun q=>Ok0.fh q p1⟩
     rcases O.cV hj hu e with z|z
     ·exact z
     ·exact absurd q (n1 j hj z)
  refine aI fun f hf => ?_;obtain⟨p,q⟩:=f;obtain⟨wf,hf⟩:=bS.mp hf;dsimp only at *
  rw[← Bq]
  congr 1
  by_cases c1:p=v
  ·subst c1
   have qp:q≠p:=fun e=>by rw[e] at hf;omega
   have k:=key q wf;rw[aw (show ¬(q=p∧G.prec p p w) from fun z=>qp z.1),aw (show ¬(q=p∧G.prec p p u) from fun z=>qp z.1),aw (show ¬(q=p∧p=u) from fun z=>qp z.1),
    aB (p:=p=p∧G.prec p q w) (q:=G.prec p q w) ⟨And.right,fun z=>⟨rfl,z⟩⟩,aB (p:=p=p∧G.prec p q u) (q:=G.prec p q u) ⟨And.right,fun z=>⟨rfl,z⟩⟩,
    aB (p:=p=p∧q=u) (q:=q=u) ⟨And.right,fun z=>⟨rfl,z⟩⟩]
   omega
  ·rw[aw (show ¬(p=v∧G.prec v q w) from fun z=>c1 z.1),aw (show ¬(p=v∧G.prec v q u) from fun z=>c1 z.1),aw (show ¬(p=v∧q=u) from fun z=>c1 z.1)]
   by_cases c2:q=v
   ·subst c2
    have k:=key p (O.sym wf);rw[aB (p:=q=q∧G.prec q p w) (q:=G.prec q p w) ⟨And.right,fun z=>⟨rfl,z⟩⟩,aB (p:=q=q∧G.prec q p u) (q:=G.prec q p u) ⟨And.right,fun z=>⟨rfl,z⟩⟩,
     aB (p:=q=q∧p=u) (q:=p=u) ⟨And.right,fun z=>⟨rfl,z⟩⟩]
    omega
   ·rw[aw (show ¬(q=v∧G.prec v p w) from fun z=>c2 z.1),aw (show ¬(q=v∧G.prec v p u) from fun z=>c2 z.1),aw (show ¬(q=v∧p=u) from fun z=>c2 z.1)]
    omega
 ·generalize G.nx u v=w at *
  have z:G.Pre c v w=0:=by
   unfold Pre;rw[← gq G.U];refine aI fun f hf => ?_;obtain⟨p,q⟩:=f;obtain⟨wf,hf⟩:=bS.mp hf;dsimp only at *
   rw[aw (show ¬(p=v∧G.prec v q w) from fun z=>n2 q (z.1▸wf) z.2),aw (show ¬(q=v∧G.prec v p w) from fun z=>n2 p (z.1▸O.sym wf) z.2)];omega
  rw[z];have k:=hc v;rw[← k];unfold Pre;rw[← dZ];have key:∀j,(v,j)∈G.W→1=ind (G.prec v j u)+ind (j=u):=by
   intro j hj
   by_cases e:j=u
   ·subst e
    rw[aw Ok0.bX,aO rfl];rfl
   ·rw[aw e,aO (p:=G.prec v j u)]
    ·rfl
    ·rcases O.cV hj hu e with z|z
     ·exact z
     ·exact absurd z (n1 j hj)
  refine aI fun f hf => ?_;obtain⟨p,q⟩:=f;obtain⟨wf,hf⟩:=bS.mp hf;dsimp only at *
  rw[← Bq]
  congr 1
  by_cases c1:p=v
  ·subst c1
   have qp:q≠p:=fun e=>by rw[e] at hf;omega
   have k:=key q wf;rw[aw (show ¬(q=p) from fun z=>qp z),aw (show ¬(q=p∧G.prec p p u) from fun z=>qp z.1),aw (show ¬(q=p∧p=u) from fun z=>qp z.1),
    aO (show p=p from rfl),aB (p:=p=p∧G.prec p q u) (q:=G.prec p q u) ⟨And.right,fun z=>⟨rfl,z⟩⟩,
    aB (p:=p=p∧q=u) (q:=q=u) ⟨And.right,fun z=>⟨rfl,z⟩⟩]
   omega
  ·rw[aw c1,aw (show ¬(p=v∧G.prec v q u) from fun z=>c1 z.1),aw (show ¬(p=v∧q=u) from fun z=>c1 z.1)]
   by_cases c2:q=v
   ·subst c2
    have k:=key p (O.sym wf);rw[aO (show q=q from rfl),aB (p:=q=q∧G.prec q p u) (q:=G.prec q p u) ⟨And.right,fun z=>⟨rfl,z⟩⟩,
     aB (p:=q=q∧p=u) (q:=p=u) ⟨And.right,fun z=>⟨rfl,z⟩⟩]
    omega
   ·rw[aw c2,aw (show ¬(q=v∧G.prec v p u) from fun z=>c2 z.1),aw (show ¬(q=v∧p=u) from fun z=>c2 z.1)]
    omega
theorem air{c:Nat×Nat→Int}(hc:G.Flow c){u v:Nat}(h:(u,v)∈G.W):G.L c (v,G.nx u v)=G.L c (u,v):=by
 have e1:=O.afk hc (O.nxm h);have e2:=O.afk hc (O.sym h);have e3:=O.aeZ hc h;have e4:=O.agd (c:=c) (O.sym h);omega
end Ok
end Net
theorem filter_lt{α:Type}{l:List α}{p q:α→Bool}(h:∀a∈l,p a=true→q a=true){b:α}(hb:b∈l)(h1:q b=true)(h2:p b=false) :
  (l.filter p).length<(l.filter q).length:=by
 induction l with
 | nil=>cases hb
 | cons a r ih =>
  have hr:∀c∈r,p c=true→q c=true:=fun c hc=>h c (Af _ hc);have le:∀{r:List α},(∀c∈r,p c=true→q c=true)→(r.filter p).length≤(r.filter q).length:=by
   intro r hr
   induction r with
   | nil=>exact Ae _
   | cons c s ih =>
    have i:=ih fun d hd=>hr d (Af _ hd);have k:=hr c (Ah ..)
    by_cases pc:p c=true
    ·rw[AH pc,AH (k pc)];simp only[Aq];omega
    ·rw[AQ pc]
     by_cases qc:q c=true
     ·rw[AH qc];simp only[Aq];omega
     ·rw[AQ qc];exact i
  rcases List.mem_cons.mp hb with e|e
  ·subst e
   have:=le hr;rw[AQ (by rw[h2];exact Az),AH h1];simp only[Aq];omega
  ·have i:=ih hr e
   have k:=h a (Ah ..)
   by_cases pc:p a=true
   ·rw[AH pc,AH (k pc)];simp only[Aq];omega
   ·rw[AQ pc]
    by_cases qc:q a=true
    ·rw[AH qc];simp only[Aq];omega
    ·rw[AQ qc];exact i
namespace Net
variable (G:Net)
def gam(c:Nat×Nat→Int)(e:Nat×Nat):Int:=G.L c e-c e
def phi(e:Nat×Nat):Nat×Nat:=(e.2,G.nx e.1 e.2)
def it:Nat→Nat×Nat→Nat×Nat
 | 0,e=>e
 | k+1,e=>G.phi (it k e)
structure aeN:Prop where
 all:∀P:Nat→Prop,P 0→(∀i j,(i,j)∈G.W→P i→P j)→∀i,i<G.n→P i
 but:∀p,p<G.n→∀P:Nat→Prop,P (if p=0 then 1 else 0)→(∀i j,(i,j)∈G.W→i≠p→j≠p→P i→P j)→∀i,i<G.n→i≠p→P i
variable {G}
namespace Ok
variable (O:G.Ok)
include O
theorem mH{c:Nat×Nat→Int}{v k:Nat}(h:(v,k)∈G.W):G.gam c (v,k)=G.gam c (k,v):=by
 have e:=O.agd (c:=c) h;unfold gam;unfold net at e;dsimp only at e;omega
theorem zE{c:Nat×Nat→Int}(hc:G.Flow c){u v:Nat}(h:(u,v)∈G.W)(e:c (v,G.nx u v)=c (u,v)):G.gam c (v,G.nx u v)=G.gam c (v,u):=by
 rw[O.mH (O.sym h)];have:=O.air hc h;unfold gam;omega
theorem qG{c:Nat×Nat→Int}(hc:G.Flow c){v:Nat}(hv:∀u,(u,v)∈G.W→c (v,G.nx u v)=c (u,v)) :
  ∀(m:Nat) (k:Nat),(v,k)∈G.W→(G.W.filter fun e=>decide (e.1=v∧G.prec v k e.2)).length≤m →
   ∃f,(v,f)∈G.W∧(∀j,(v,j)∈G.W→¬G.prec v j f)∧G.gam c (v,k)=G.gam c (v,f):=by
 intro m
 induction m with
 | zero =>
  intro k hk hm;have hk':=O.sym hk;rcases O.rE hk' with⟨p1,_⟩|⟨_,n2⟩
  ·exfalso
   have hw:=O.nxm hk';have:(v,G.nx k v)∈G.W.filter fun e=>decide (e.1=v∧G.prec v k e.2):=by
    rw[AY];exact⟨hw,by simpa using p1⟩
   have:=List.length_pos_of_mem this;omega
  ·exact⟨G.nx k v,O.nxm hk',n2,(O.zE hc hk' (hv k hk')).symm⟩
 | succ m ih =>
  intro k hk hm;have hk':=O.sym hk;rcases O.rE hk' with⟨p1,_⟩|⟨_,n2⟩
  ·have hw:=O.nxm hk'
   have lt:=filter_lt (l:=G.W) (p:=fun e=>decide (e.1=v∧G.prec v (G.nx k v) e.2)) (q:=fun e=>decide (e.1=v∧G.prec v k e.2))
    (fun a _ h=>by
     simp only[Ap] at h ⊢;exact⟨h.1,Ok0.fh p1 h.2⟩) hw (by simpa using p1) (by simpa using Ok0.bX)
   obtain⟨f,h1,h2,h3⟩:=ih (G.nx k v) hw (by omega);exact⟨f,h1,h2,(O.zE hc hk' (hv k hk')).symm.trans h3⟩
  ·exact⟨G.nx k v,O.nxm hk',n2,(O.zE hc hk' (hv k hk')).symm⟩
theorem qf{c:Nat×Nat→Int}(hc:G.Flow c){v:Nat}(hv:∀u,(u,v)∈G.W→c (v,G.nx u v)=c (u,v)){j k:Nat}(hj:(v,j)∈G.W)(hk:(v,k)∈G.W) :
  G.gam c (v,j)=G.gam c (v,k):=by
 obtain⟨f,h1,h2,h3⟩:=O.qG hc hv _ j hj (Ae _);obtain⟨f',h1',h2',h3'⟩:=O.qG hc hv _ k hk (Ae _);have e:f=f':=by
  refine Classical.byContradiction fun ne => ?_;rcases O.cV h1 h1' ne with z|z
  ·exact h2' f h1 z
  ·exact h2 f' h1' z
 rw[h3,h3',e]
theorem ac8{c:Nat×Nat→Int}(hc:G.Flow c)(C:G.aeN)(hv:∀u v,(u,v)∈G.W→c (v,G.nx u v)=c (u,v)):∃g,∀e∈G.W,G.gam c e=g:=by
 by_cases ex:∃k,(0,k)∈G.W
 ·obtain⟨k,hk⟩:=ex
  refine⟨G.gam c (0,k),?_⟩;have:=C.all (fun i=>∀j,(i,j)∈G.W→G.gam c (i,j)=G.gam c (0,k)) (fun j hj=>O.qf hc (fun u hu=>hv u 0 hu) hj hk)
   (fun i j hij hi l hl=>by
    rw[← hi j hij,O.mH hij];exact O.qf hc (fun u hu=>hv u j hu) hl (O.sym hij))
  intro e he;exact this e.1 (O.lt (i:=e.1) (j:=e.2) he).1 e.2 he
 ·refine⟨0,?_⟩
  have:=C.all (fun i=>∀j,(i,j)∈G.W→G.gam c (i,j)=0) (fun j hj=>absurd ⟨j,hj⟩ ex)
   (fun i j hij hi l hl=>by
    rw[← hi j hij,O.mH hij];exact O.qf hc (fun u hu=>hv u j hu) hl (O.sym hij))
  intro e he;exact this e.1 (O.lt (i:=e.1) (j:=e.2) he).1 e.2 he
theorem aet{c:Nat×Nat→Int}(hc:G.Flow c)(C:G.aeN){p:Nat}(hp:p<G.n)(hv:∀u v,(u,v)∈G.W→v≠p→c (v,G.nx u v)=c (u,v)):∃g,∀e∈G.W,G.gam c e=g:=by
 have s0:(if p=0 then 1 else 0)≠p:=by split <;> omega
 have fin:∀g,(∀i,i<G.n→i≠p→∀j,(i,j)∈G.W→G.gam c (i,j)=g)→∀e∈G.W,G.gam c e=g:=by
  intro g h e he;obtain⟨i,j⟩:=e
  by_cases ip:i=p
  ·have jp:j≠p:=fun e=>O.ne he (ip.trans e.symm)
   rw[O.mH he];exact h j (O.lt he).2 jp i (O.sym he)
  ·exact h i (O.lt he).1 ip j he
 have step:∀g i j,(i,j)∈G.W→i≠p→j≠p→(∀l,(i,l)∈G.W→G.gam c (i,l)=g)→∀l,(j,l)∈G.W→G.gam c (j,l)=g:=by
  intro g i j hij _ jp hi l hl;rw[← hi j hij,O.mH hij];exact O.qf hc (fun u hu=>hv u j hu jp) hl (O.sym hij)
 by_cases ex:∃k,((if p=0 then 1 else 0),k)∈G.W
 ·obtain⟨k,hk⟩:=ex
  exact⟨_,fin _ (C.but p hp _ (fun j hj=>O.qf hc (fun u hu=>hv u _ hu s0) hj hk) (step _))⟩
 ·exact⟨0,fin 0 (C.but p hp _ (fun j hj=>absurd ⟨j,hj⟩ ex) (step 0))⟩
theorem adK{e:Nat×Nat}(h:e∈G.W):G.phi e∈G.W:=O.nxm (u:=e.1) (v:=e.2) h
theorem su{e f:Nat×Nat}(he:e∈G.W)(hf:f∈G.W)(h:G.phi e=G.phi f):e=f:=by
 obtain⟨u,v⟩:=e;obtain⟨u',v'⟩:=f;have h1:v=v':=(Prod.mk.inj h).1;subst h1;have h2:G.nx u v=G.nx u' v:=(Prod.mk.inj h).2;rw[O.af3 he hf h2]
theorem bV{e:Nat×Nat}(h:e∈G.W):∀k,G.it k e∈G.W
 | 0=>h
 | k+1=>O.adK (bV h k)
omit O in
theorem gy(k:Nat)(e:Nat×Nat):G.it (k+1) e=G.phi (G.it k e):=rfl
omit O in
theorem fc(j k:Nat)(e:Nat×Nat):G.it (j+k) e=G.it j (G.it k e):=by
 induction j with
 | zero=>rw[DC];rfl
 | succ j ih=>rw[Nat.succ_add,gy,gy,ih]
theorem xD{e f:Nat×Nat}(he:e∈G.W)(hf:f∈G.W):∀k,G.it k e=G.it k f→e=f
 | 0,h=>h
 | k+1,h=>xD he hf k (O.su (O.bV he k) (O.bV hf k) h)
theorem oX{e:Nat×Nat}(he:e∈G.W){i j:Nat}(hij:i≤j)(h:G.it i e=G.it j e):G.it (j-i) e=e:=by
 have e1:G.it j e=G.it i (G.it (j-i) e):=by rw[← fc];congr 1;omega
 exact(O.xD he (O.bV he _) i (h.trans e1)).symm
theorem ae9{e:Nat×Nat}(he:e∈G.W):∃m,0<m∧m≤G.W.length∧G.it m e=e∧∀k,0<k→k<m→G.it k e≠e:=by
 have ex:∃m,0<m∧m≤G.W.length∧G.it m e=e:=by
  refine Classical.byContradiction fun no => ?_;have nd:((List.range (G.W.length+1)).map fun k=>G.it k e).Nodup:=by
   unfold List.Nodup;rw[BH];refine Cf ?_ (B5 (n:=G.W.length+1));intro a b _ hb lt eq;rw[AZ] at hb;exact no ⟨b-a,by omega,by omega,O.oX he (by omega) eq⟩
  have:=nd.length_le_of_subset (l₂:=G.W) (by
   intro x hx;obtain⟨k,_,rfl⟩:=List.mem_map.mp hx;exact O.bV he k)
  rw[Ab,Au] at this;omega
 obtain⟨m,h1,h2,h3⟩:=ex;have:∀m,0<m→G.it m e=e→∃m',0<m'∧m'≤m∧G.it m' e=e∧∀k,0<k→k<m'→G.it k e≠e:=by
  intro m
  induction m using Nat.strongRecOn with
  | _ m ih =>
   intro h1 h3
   by_cases ex:∃k,0<k∧k<m∧G.it k e=e
   ·obtain⟨k,k1,k2,k3⟩:=ex
    obtain⟨m',a,b,c,d⟩:=ih k k2 k1 k3;exact⟨m',a,by omega,c,d⟩
   ·exact⟨m,h1,Ae _,h3,fun k k1 k2 k3=>ex ⟨k,k1,k2,k3⟩⟩
 obtain⟨m',a,b,c,d⟩:=this m h1 h3;exact⟨m',a,by omega,c,d⟩
theorem f9{e:Nat×Nat}(he:e∈G.W){m:Nat}(hm:∀k,0<k→k<m→G.it k e≠e){i j:Nat}(hj:j≤m):((List.range' i (j-i)).map fun k=>G.it k e).Nodup:=by
 unfold List.Nodup;rw[BH];refine Cf ?_ (List.pairwise_lt_range' (s:=i) (n:=j-i));intro a b ha hb lt eq;rw[Cv] at ha hb;exact hm (b-a) (by omega) (by omega) (O.oX he (by omega) eq)
def aiw(ws:List (Nat×Nat)):Prop:=∀w,sm ws (fun e=>ind (e.1=w))=sm ws (fun e=>ind (e.2=w))
theorem wX(F:Nat×Nat→Int):sm G.W F=sm G.U (fun f=>F f+F (f.2,f.1)):=by
 have h:(G.W.filter fun f=>decide (¬G.h f.1<G.h f.2)).Perm (G.U.map fun f=>(f.2,f.1)):=by
  rw[Cb (O.nod.filter _)]
  ·intro a
   rw[AY,Du]
   constructor
   ·intro ⟨h1,h2⟩
    refine⟨(a.2,a.1),bS.mpr ⟨O.sym h1,?_⟩,rfl⟩;have:=O.hne (i:=a.1) (j:=a.2) h1;simp only[Ap] at h2;dsimp only;omega
   ·rintro⟨f,hf,rfl⟩
    obtain⟨h1,h2⟩:=bS.mp hf;refine⟨O.sym h1,?_⟩;simp only[Ap];omega
  ·unfold List.Nodup
   rw[BH];refine List.Pairwise.imp ?_ O.aa6;intro a b ne e;exact ne (Prod.ext (Prod.mk.inj e).2 (Prod.mk.inj e).1)
 have e:sm G.W F=sm G.U F+sm (G.W.filter fun f=>decide (¬G.h f.1<G.h f.2)) F:=by
  unfold U;rw[jC G.W (fun f=>G.h f.1<G.h f.2),jC G.W (fun f=>¬G.h f.1<G.h f.2),← dZ];refine aI fun f _ => ?_
  by_cases h:G.h f.1<G.h f.2
  ·rw[aO h,aw (fun z=>z h)];omega
  ·rw[aw h,aO h];omega
 rw[e,y9 h,aft,← dZ]
theorem agC{ws:List (Nat×Nat)}(hn:ws.Nodup)(hw:∀e∈ws,e∈G.W)(F:Nat×Nat→Int):sm G.W (fun e=>ind (e∈ws)*F e)=sm ws F:=by
 rw[← jC G.W (fun e=>e∈ws)];refine y9 ?_ F;rw[Cb (O.nod.filter _) hn];intro a;rw[AY];exact⟨fun z=>by simpa using z.2,fun z=>⟨hw a z,by simpa using z⟩⟩
theorem zK{ws:List (Nat×Nat)}(hn:ws.Nodup)(hw:∀e∈ws,e∈G.W)(he:aiw ws):G.Flow (fun e=>ind (e∈ws)):=by
 intro w;have k:=O.wX (fun e=>ind (e∈ws)*(ind (e.1=w)-ind (e.2=w)));rw[O.agC hn hw,mS,he w] at k;rw[CI] at k;rw[k];refine aI fun f _ => ?_;unfold net;dsimp only
 grind
omit O in
theorem af4(k:Nat)(e:Nat×Nat):(G.it k e).2=(G.it (k+1) e).1:=rfl
omit O in
theorem uP{w:Nat}{e:Nat×Nat}:∀(n i:Nat),sm ((List.range' i n).map fun k=>G.it k e) (fun e=>ind (e.1=w))+ind ((G.it (i+n) e).1=w)=sm ((List.range' i n).map fun k=>G.it k e) (fun e=>ind (e.2=w))+ind ((G.it i e).1=w)
 | 0,i=>by simp[sm]
 | n+1,i=>by
  have ih:=uP (w:=w) (e:=e) n (i+1);rw[List.range'_succ,A3,bh,bh,af4];rw[show i+1+n=i+(n+1) by omega] at ih;omega
omit O in
theorem uL{e:Nat×Nat}{i j:Nat}(hij:i≤j)(h:(G.it i e).1=(G.it j e).1):aiw ((List.range' i (j-i)).map fun k=>G.it k e):=by
 intro w;have k:=uP (G:=G) (w:=w) (e:=e) (j-i) i;rw[show i+(j-i)=j by omega,h] at k;omega
omit O in
theorem zc{e:Nat×Nat}{m k:Nat}(hm:G.it m e=e)(h0:0<m):G.it k e∈((List.range m).map fun k=>G.it k e):=by
 induction k using Nat.strongRecOn with
 | _ k ih =>
  by_cases h:k<m
  ·exact List.mem_map.mpr ⟨k,List.mem_range.mpr h,rfl⟩
  ·have:=ih (k-m) (by omega)
   rw[show k=(k-m)+m by omega,fc,hm];exact this
theorem once{e:Nat×Nat}(he:e∈G.W)(C:G.aeN){m:Nat}(hm:G.it m e=e)(hk:∀k,0<k→k<m→G.it k e≠e){i j:Nat}(hij:i<j)(hj:j<m):(G.it i e).1≠(G.it j e).1:=by
 intro eq;have hn:=O.f9 he hk (i:=i) (j:=j) (by omega);have hw:∀f∈((List.range' i (j-i)).map fun k=>G.it k e),f∈G.W:=by
  intro f hf;obtain⟨k,_,rfl⟩:=List.mem_map.mp hf;exact O.bV he k
 have fl:=O.zK hn hw (uL (by omega) eq);have mem:∀k,i≤k→k<j→G.it k e∈((List.range' i (j-i)).map fun k=>G.it k e):=fun k h1 h2 =>
  List.mem_map.mpr ⟨k,List.mem_range'_1.mpr ⟨h1,by omega⟩,rfl⟩
 have nin:∀k,j≤k→k<m→¬G.it k e∈((List.range' i (j-i)).map fun k=>G.it k e):=by
  intro k h1 h2 h;obtain⟨l,hl,e1⟩:=List.mem_map.mp h;rw[Cv] at hl;exact hk (k-l) (by omega) (by omega) (O.oX he (by omega) e1)
 have pn:=(O.lt (i:=(G.it i e).1) (j:=(G.it i e).2) (O.bV he i)).1;obtain⟨g,hg⟩:=O.aet fl C pn (fun u v huv hv=>by
  refine aB ⟨fun h => ?_,fun h => ?_⟩
  ·obtain⟨l,hl,e1⟩:=List.mem_map.mp h
   rw[Cv] at hl;have li:l≠i:=fun z=>hv (by
    have e2:=congrArg Prod.fst e1;dsimp only at e2;rw[← z,← e2])
   obtain⟨l',rfl⟩:∃l',l=l'+1:=⟨l-1,by omega⟩;rw[gy] at e1;have e3:=O.su (O.bV he l') huv e1;rw[← e3];exact mem l' (by omega) (by omega)
  ·obtain⟨l,hl,e1⟩:=List.mem_map.mp h
   rw[Cv] at hl;have e2:G.phi (G.it l e)=(v,G.nx u v):=by rw[e1];rfl
   have lj:l+1≠j:=fun z=>hv (by
    have e3:=congrArg Prod.fst e2;rw[← gy,z] at e3;dsimp only at e3;rw[eq,e3])
   rw[← e2,← gy];exact mem (l+1) (by omega) (by omega))
 have w1:=O.bV he (j-1);have a1:=hg _ w1;have a2:=hg _ (O.bV he j);have e1:G.it j e=G.phi (G.it (j-1) e):=by rw[← gy];congr 1;omega
 have a3:=O.air fl (u:=(G.it (j-1) e).1) (v:=(G.it (j-1) e).2) w1;have b1:ind (G.it (j-1) e∈((List.range' i (j-i)).map fun k=>G.it k e))=1:=aO (mem (j-1) (by omega) (by omega));have b2:ind (G.it j e∈((List.range' i (j-i)).map fun k=>G.it k e))=0:=aw (nin j (Ae _) hj);unfold gam at a1 a2;dsimp only at a1 a2;rw[b1] at a1;rw[b2] at a2;have e2:G.it j e=((G.it (j-1) e).2,G.nx (G.it (j-1) e).1 (G.it (j-1) e).2):=e1;rw[← e2] at a3;have a4:G.L (fun e'=>ind (e'∈((List.range' i (j-i)).map fun k=>G.it k e))) (G.it j e)=G.L (fun e'=>ind (e'∈((List.range' i (j-i)).map fun k=>G.it k e))) (G.it (j-1) e):=a3;omega
theorem ahV{e:Nat×Nat}(he:e∈G.W)(C:G.aeN){m:Nat}(h0:0<m)(hm:G.it m e=e)(hk:∀k,0<k→k<m→G.it k e≠e) :
  G.Flow (fun f=>ind (f∈((List.range m).map fun k=>G.it k e)))∧∃g,∀f∈G.W,G.L (fun f=>ind (f∈((List.range m).map fun k=>G.it k e))) f=g+ind (f∈((List.range m).map fun k=>G.it k e)):=by
 have hn:=O.f9 he hk (i:=0) (j:=m) (Ae _);have ev:=uL (e:=e) (i:=0) (j:=m) (Av _) (by rw[hm];rfl);rw[BP,← BI] at hn ev;have hw:∀f∈((List.range m).map fun k=>G.it k e),f∈G.W:=by
  intro f hf;obtain⟨k,_,rfl⟩:=List.mem_map.mp hf;exact O.bV he k
 have fl:=O.zK hn hw ev;refine⟨fl,?_⟩;obtain⟨g,hg⟩:=O.ac8 fl C (fun u v huv=>by
  refine aB ⟨fun h => ?_,fun h => ?_⟩
  ·obtain⟨l,hl,e1⟩:=List.mem_map.mp h
   rw[AZ] at hl;have e2:G.it (l+m) e=G.phi (u,v):=by rw[fc,hm,e1];rfl
   have e3:G.phi (G.it (l+m-1) e)=G.phi (u,v):=by rw[← gy,← e2];congr 1;omega
   rw[← O.su (O.bV he _) huv e3];exact zc hm h0
  ·obtain⟨l,hl,e1⟩:=List.mem_map.mp h
   have e2:G.it (l+1) e=(v,G.nx u v):=by rw[gy,e1];rfl
   rw[← e2];exact zc hm h0)
 refine⟨g,fun f hf => ?_⟩;have:=hg f hf;unfold gam at this;dsimp only at this;omega
end Ok
end Net
def prod{α:Type}(f:α→Int):List α→Int
 | []=>1
 | a::r=>f a*prod f r
theorem vt{α:Type}{f:α→Int}:∀{l:List α},(∀a∈l,0<f a)→0<prod f l
 | [],_=>(by decide:(0:Int)<1)
 | a::r,h=>A8 (h a (Ah ..)) (vt fun b hb=>h b (Af _ hb))
theorem uX{α:Type}{f:α→Int}:∀{l:List α} {a:α},a∈l→∃m,f a*m=prod f l
 | b::r,a,h=>by
  rcases List.mem_cons.mp h with e|e
  ·subst e;exact⟨prod f r,rfl⟩
  ·obtain⟨m,hm⟩:=uX (f:=f) e
   refine⟨f b*m,?_⟩;show f a*(f b*m)=f b*prod f r;rw[← hm];grind
namespace Net
variable (G:Net)
def x(i:Nat):Int:=(G.P i).x
def D(f:Nat×Nat):Int:=G.h f.2-G.h f.1
def N(s:Int)(f:Nat×Nat):Int:=G.x f.1*(G.h f.2-s)+G.x f.2*(s-G.h f.1)
def PP:Int:=prod G.D G.U
def key(s:Int)(f:Nat×Nat):Int:=G.N s f*(G.PP / G.D f)
def at_(s:Int)(f:Nat×Nat):Prop:=G.h f.1<s∧s<G.h f.2
instance (s:Int) (f:Nat×Nat):Decidable (G.at_ s f):=by unfold at_;infer_instance
def sl(s:Int)(e:Nat×Nat)(w:Nat):Prop:=G.h e.1<G.h w∧G.h w<s∧G.t e.1 e.2 w<0
instance (s:Int) (e:Nat×Nat) (w:Nat):Decidable (G.sl s e w):=by unfold sl;infer_instance
variable {G}
theorem wa{f:Nat×Nat}(hf:f∈G.U):0<G.D f:=by
 have:=(bS.mp hf).2;unfold D;omega
theorem zh:0<G.PP:=vt fun _=>wa
theorem share{f:Nat×Nat}(hf:f∈G.U):G.D f*(G.PP / G.D f)=G.PP∧0<G.PP / G.D f:=by
 obtain⟨m,hm⟩:=uX (f:=G.D) hf;have hD:=wa hf;have e:G.PP / G.D f=m:=by
  show prod G.D G.U / G.D f=m;rw[← hm,Int.mul_ediv_cancel_left _ (by omega)]
 have h0:G.D f*m=G.PP:=hm;rw[e];refine⟨h0,?_⟩;have:=zh (G:=G);exact bp (b:=G.D f) (by rw[A9];omega) hD
def F(G:Net)(s:Int)(e f:Nat×Nat):Int:=G.D e*G.N s f-G.D f*G.N s e
theorem ahY{s:Int}{e f:Nat×Nat}(he:e∈G.U)(hf:f∈G.U):G.D e*G.D f*(G.key s f-G.key s e)=G.PP*F G s e f:=by
 obtain⟨h1,_⟩:=share he;obtain⟨h2,_⟩:=share hf;unfold key F;generalize G.PP / G.D e=a at *
 generalize G.PP / G.D f=b at *
 generalize G.PP=P at *
 generalize G.D e=d at *
 generalize G.D f=d' at *
 generalize G.N s f=n at *
 generalize G.N s e=n' at *
 have:d*d'*(n*b-n'*a)=d*n*(d'*b)-d'*n'*(d*a):=by grind
 rw[this,h1,h2];grind
theorem af0{s:Int}{e f:Nat×Nat}(he:e∈G.U)(hf:f∈G.U):G.key s e≤G.key s f↔0≤F G s e f:=by
 have k:=ahY (s:=s) he hf;have p1:=A8 (wa he) (wa hf);have p2:=zh (G:=G)
 constructor
 ·intro h
  refine Int.not_lt.mp fun z => ?_;have:=cK p2 z;have h':0≤G.key s f-G.key s e:=by omega
  have:=A6 (B4 p1) h';omega
 ·intro h
  refine Int.not_lt.mp fun z => ?_;have h':G.key s f-G.key s e<0:=by omega
  have:=cK p1 h';have:=A6 (B4 p2) h;omega
theorem ahs(s a b:Int)(e f:Nat×Nat):F G s e f*(b-a)=F G a e f*(b-s)+F G b e f*(s-a):=by
 unfold F N;grind
theorem afG(e f:Nat×Nat):F G (G.h e.1) e f=G.D e*G.t f.1 f.2 e.1:=by
 unfold F N D t tn h x;grind
theorem age(e f:Nat×Nat):F G (G.h e.2) e f=G.D e*G.t f.1 f.2 e.2:=by
 unfold F N D t tn h x;grind
theorem agc(e f:Nat×Nat):F G (G.h f.1) e f = - (G.D f*G.t e.1 e.2 f.1):=by
 unfold F N D t tn h x;grind
theorem agG(e f:Nat×Nat):F G (G.h f.2) e f = - (G.D f*G.t e.1 e.2 f.2):=by
 unfold F N D t tn h x;grind
theorem zC{a b s Fs Fa Fb:Int}(h1:a<s)(h2:s<b)(e:Fs*(b-a)=Fa*(b-s)+Fb*(s-a))(ha:0≤Fa)(hb:0≤Fb)(hn:0<Fa∨0<Fb):0<Fs:=by
 refine bp (b:=b-a) ?_ (by omega);have m1:=A6 ha (show 0≤b-s by omega);have m2:=A6 hb (show 0≤s-a by omega);rcases hn with z|z
 ·have:=A8 z (show 0<b-s by omega);omega
 ·have:=A8 z (show 0<s-a by omega);omega
theorem adF{a b s Fs Fa Fb:Int}(h1:a<s)(h2:s<b)(e:Fs*(b-a)=Fa*(b-s)+Fb*(s-a))(ha:Fa≤0)(hb:Fb≤0)(hn:Fa<0∨Fb<0):Fs<0:=by
 have:=zC (Fs := -Fs) (Fa := -Fa) (Fb := -Fb) h1 h2 (by rw[B7,B7,B7];omega) (by omega) (by omega) (by omega);omega
theorem dY{a b s Fs Fa Fb d1 d2 t1 t2:Int}{X:Prop}(h1:a<s)(h2:s<b)(e:Fs*(b-a)=Fa*(b-s)+Fb*(s-a))(ea:Fa=d1*t1)(eb:Fb=d2*t2)(p1:0<d1)(p2:0<d2)
  (hx:X→0≤t1∧0≤t2∧(0<t1∨0<t2)) (hn:¬X→t1≤0∧t2≤0∧(t1<0∨t2<0)):Fs≠0∧(0<Fs↔X):=by
 by_cases x:X
 ·obtain⟨z1,z2,z3⟩:=hx x
  have:0<Fs:=zC h1 h2 e (by rw[ea];exact A6 (B4 p1) z1) (by rw[eb];exact A6 (B4 p2) z2)
   (z3.elim (fun z=>.inl (by rw[ea];exact A8 p1 z)) fun z=>.inr (by rw[eb];exact A8 p2 z))
  exact⟨by omega,fun _=>x,fun _=>this⟩
 ·obtain⟨z1,z2,z3⟩:=hn x
  have:Fs<0:=adF h1 h2 e (by rw[ea];exact BC (B4 p1) z1) (by rw[eb];exact BC (B4 p2) z2)
   (z3.elim (fun z=>.inl (by rw[ea];exact cK p1 z)) fun z=>.inr (by rw[eb];exact cK p2 z))
  exact⟨by omega,fun z=>by omega,fun z=>absurd z x⟩
theorem aa9{a b:Int}(k:0<a↔0<b)(na:a≠0)(nb:b≠0):(0<a→0≤a∧0≤b∧(0<a∨0<b))∧(¬0<a→a≤0∧b≤0∧(a<0∨b<0)):=by omega
theorem agg{a b:Int}(na:a≠0)(nb:b=0):(0<a→0≤a∧0≤b∧(0<a∨0<b))∧(¬0<a→a≤0∧b≤0∧(a<0∨b<0)):=by omega
theorem afm{a b:Int}(na:a=0)(nb:b≠0):(0<b→0≤a∧0≤b∧(0<a∨0<b))∧(¬0<b→a≤0∧b≤0∧(a<0∨b<0)):=by omega
theorem ad4{a b:Int}(h:¬a<b)(n:a≠b):b<a:=by omega
theorem acu{a:Int}:0 < -a↔a<0:=by omega
theorem tM{a:Int}(h:a≠0) : -a≠0:=by omega
theorem agw{a b:Int}(k:0<a↔b<0)(na:a≠0)(nb:b≠0):(0<a↔0 < -b)∧(0 < -a↔0<b):=by omega
theorem ag8{a b:Int}(k:0<a↔0<b)(na:a≠0)(nb:b≠0):(0 < -a↔0 < -b):=by omega
namespace Ok
variable (O:G.Ok)
include O
theorem side{s:Int}{e f:Nat×Nat}(he:e∈G.U)(hf:f∈G.U)(ne:f≠e)(ae:G.at_ s e)(af:G.at_ s f) :
  F G s e f≠0∧(0<F G s e f↔(G.bot e f∨G.sl s e f.1))∧¬(G.bot e f∧G.sl s e f.1):=by
 have De:=wa he;have Df:=wa hf;have f1:=afG (G:=G) e f;have f2:=age (G:=G) e f;have f3:=agc (G:=G) e f;have f4:=agG (G:=G) e f;rw[← Int.mul_neg] at f3 f4;obtain⟨u,v⟩:=e;obtain⟨p,q⟩:=f;obtain⟨we,he⟩:=bS.mp he;obtain⟨wf,hf⟩:=bS.mp hf;have ms:=fun a b=>ahs (G:=G) s a b (u,v) (p,q);unfold at_ at ae af;dsimp only at he hf f1 f2 f3 f4 ae af ⊢;have iu:=(O.lt we).1;have iv:=(O.lt we).2;have ip:=(O.lt wf).1;have iq:=(O.lt wf).2;have pu:=(O.heq ip iu).mp;have qv:=(O.heq iq iv).mp;have onu:=fun a b=>O.on wf iu a b;have onv:=fun a b=>O.on wf iv a b;have onp:=fun a b=>O.on we ip a b;have onq:=fun a b=>O.on we iq a b;have cr:¬nQ (G.P p) (G.P q) (G.P u) (G.P v):=O.cr wf we;have cr':¬nQ (G.P u) (G.P v) (G.P p) (G.P q):=O.cr we wf
 by_cases c1:p=u
 ·subst c1
  have c2:q≠v:=fun z=>ne (by rw[z]);have r:=O.ray we wf (Ne.symm c2) (.inl ⟨he,hf⟩);have eb:G.bot (p,v) (p,q)↔G.t p v q<0:=⟨fun z=>z.elim (fun w=>absurd w.1 (Int.lt_irrefl _)) fun w=>w.2.elim (fun w=>absurd w c2) id,fun z=>.inr ⟨rfl,.inr z⟩⟩;have es:¬G.sl s (p,v) p:=fun z=>Int.lt_irrefl _ z.1;have s3:=adv (G:=G) p q;have fin':F G s (p,v) (p,q)≠0∧(0<F G s (p,v) (p,q)↔0 < - G.t p v q):=by
   by_cases y:G.h q<G.h v
   ·obtain⟨g1,g2⟩:=afm s3 (tM r)
    exact dY af.1 af.2 (ms _ _) f1 f4 De Df g1 g2
   ·obtain⟨g1,g2⟩:=afm s3 (tM r)
    refine dY ae.1 ae.2 (ms _ _) f1 ?_ De De g1 g2;rw[f2,df]
  exact⟨fin'.1,(fin'.2.trans acu).trans ⟨fun z=>.inl (eb.mpr z),fun z=>z.elim eb.mp fun w=>absurd w es⟩,fun z=>es z.2⟩
 ·by_cases y1:G.h p<G.h u
  ·have uq:G.h u<G.h q:=Dv ae.1 af.2
   have eb:G.bot (u,v) (p,q)↔0<G.t p q u:=⟨fun z=>z.elim (fun w=>w.2.2) fun w=>absurd w.1 c1,fun z=>.inl ⟨y1,uq,z⟩⟩;have es:¬G.sl s (u,v) p:=fun z=>Int.lt_asymm y1 z.1;have nu:=onu y1 uq;have fin':F G s (u,v) (p,q)≠0∧(0<F G s (u,v) (p,q)↔0<G.t p q u):=by
    by_cases c2:q=v
    ·subst c2
     obtain⟨g1,g2⟩:=agg nu (pY (G:=G) p q);exact dY ae.1 ae.2 (ms _ _) f1 f2 De De g1 g2
    ·by_cases y2:G.h q<G.h v
     ·have nq:=onq uq y2
      have k:0<G.t p q u↔G.t u v q<0:=agv (a:=G.P p) (b:=G.P u) (c:=G.P q) (d:=G.P v) y1 uq y2 cr nu nq;obtain⟨g1,g2⟩:=aa9 (agw k nu nq).1 nu (tM nq);exact dY ae.1 af.2 (ms _ _) f1 f4 De Df g1 g2
     ·have y3:G.h v<G.h q:=ad4 y2 fun z=>c2 (qv z)
      have nv:=onv (Dv y1 he) y3;have k:0<G.t p q u↔0<G.t p q v:=afv (a:=G.P p) (b:=G.P u) (c:=G.P v) (d:=G.P q) y1 he y3 cr nu nv;obtain⟨g1,g2⟩:=aa9 k nu nv;exact dY ae.1 ae.2 (ms _ _) f1 f2 De De g1 g2
   exact⟨fin'.1,fin'.2.trans ⟨fun z=>.inl (eb.mpr z),fun z=>z.elim eb.mp fun w=>absurd w es⟩,fun z=>es z.2⟩
  ·have y1':G.h u<G.h p:=ad4 y1 fun z=>c1 (pu z)
   have pv:G.h p<G.h v:=Dv af.1 ae.2;have eb:¬G.bot (u,v) (p,q):=fun z=>z.elim (fun w=>Int.lt_asymm y1' w.1) fun w=>c1 w.1;have es:G.sl s (u,v) p↔G.t u v p<0:=⟨fun z=>z.2.2,fun z=>⟨y1',af.1,z⟩⟩;have np:=onp y1' pv;have fin':F G s (u,v) (p,q)≠0∧(0<F G s (u,v) (p,q)↔0 < - G.t u v p):=by
    by_cases c2:q=v
    ·subst c2
     obtain⟨g1,g2⟩:=agg (tM np) (pY (G:=G) p q);exact dY af.1 ae.2 (ms _ _) f3 f2 Df De g1 g2
    ·by_cases y2:G.h q<G.h v
     ·have nq:=onq (Dv y1' hf) y2
      have k:0<G.t u v p↔0<G.t u v q:=afv (a:=G.P u) (b:=G.P p) (c:=G.P q) (d:=G.P v) y1' hf y2 cr' np nq;obtain⟨g1,g2⟩:=aa9 (ag8 k np nq) (tM np) (tM nq);exact dY af.1 af.2 (ms _ _) f3 f4 Df Df g1 g2
     ·have y3:G.h v<G.h q:=ad4 y2 fun z=>c2 (qv z)
      have nv:=onv pv y3;have k:0<G.t u v p↔G.t p q v<0:=agv (a:=G.P u) (b:=G.P p) (c:=G.P v) (d:=G.P q) y1' pv y3 cr' np nv;obtain⟨g1,g2⟩:=aa9 (agw k np nv).2 (tM np) nv;exact dY af.1 ae.2 (ms _ _) f3 f2 Df De g1 g2
   exact⟨fin'.1,(fin'.2.trans acu).trans ⟨fun z=>.inr (es.mpr z),fun z=>z.elim (fun w=>absurd w eb) es.mp⟩,fun z=>eb z.1⟩
set_option maxHeartbeats 1000000 in
theorem wx{s:Int}(hs:∀i,i<G.n→G.h i≠s){e f:Nat×Nat}(he:e∈G.U)(hf:f∈G.U)(ae:G.at_ s e) :
  ind (G.bot e f)+ind (G.sl s e f.1)=ind (G.at_ s f∧G.key s e≤G.key s f)+ind (G.sl s e f.2):=by
 by_cases ne:f=e
 ·subst ne
  have:=(bS.mp hf).2;unfold at_ at ae;rw[aO (show G.bot f f from .inr ⟨rfl,.inl rfl⟩),aO (show G.at_ s f∧G.key s f≤G.key s f from⟨ae,C8 _⟩),
   aw (show ¬G.sl s f f.1 by unfold sl;omega),aw (show ¬G.sl s f f.2 by unfold sl;omega)]
 ·by_cases af:G.at_ s f
  ·obtain⟨h1,h2,h3⟩:=O.side he hf ne ae af
   have h4:=af0 (s:=s) he hf;have:¬G.sl s e f.2:=by unfold sl;unfold at_ at af;omega
   rw[aw this,aB (p:=G.at_ s f∧G.key s e≤G.key s f) (q:=G.bot e f∨G.sl s e f.1) ⟨fun z=>h2.mp (by have:=h4.mp z.2;omega),fun z=>⟨af,h4.mpr (by have:=h2.mpr z;omega)⟩⟩]
   by_cases b:G.bot e f
   ·have c:¬G.sl s e f.1:=fun c=>h3 ⟨b,c⟩
    rw[aO b,aw c,aO (.inl b)]
   ·rw[aw b,aB (p:=G.bot e f∨G.sl s e f.1) (q:=G.sl s e f.1) ⟨fun z=>z.elim (fun w=>absurd w b) id,.inr⟩];omega
  ·rw[aw (show ¬(G.at_ s f∧G.key s e≤G.key s f) from fun z=>af z.1)]
   obtain⟨u,v⟩:=e;obtain⟨p,q⟩:=f;obtain⟨we,he⟩:=bS.mp he;obtain⟨wf,hf⟩:=bS.mp hf;show ind (G.bot (u,v) (p,q))+ind (G.sl s (u,v) p)=0+ind (G.sl s (u,v) q);unfold at_ at ae af;dsimp only at he hf ae af;have iu:=(O.lt we).1;have iv:=(O.lt we).2;have ip:=(O.lt wf).1;have iq:=(O.lt wf).2;have sp:=hs p ip;have sq:=hs q iq;have cr:¬nQ (G.P p) (G.P q) (G.P u) (G.P v):=O.cr wf we;have cr':¬nQ (G.P u) (G.P v) (G.P p) (G.P q):=O.cr we wf
   by_cases z:s<G.h p
   ·have cz:p≠u:=fun e=>by rw[e] at z;omega
    rw[aw (show ¬G.bot (u,v) (p,q) by unfold bot rt;dsimp only;omega),aw (show ¬G.sl s (u,v) p by unfold sl;dsimp only;omega),aw (show ¬G.sl s (u,v) q by unfold sl;dsimp only;omega)]
   ·have z':G.h q<s:=by omega
    have qv:q≠v:=fun e=>by rw[e] at z';omega
    by_cases c1:p=u
    ·subst c1
     rw[aw (show ¬G.sl s (p,v) p by unfold sl;dsimp only;omega),aB (p:=G.bot (p,v) (p,q)) (q:=G.sl s (p,v) q) (by unfold bot sl rt;dsimp only;omega)];omega
    ·have np:G.h p≠G.h u:=fun e=>c1 (O.inj ip iu e)
     by_cases y1:G.h p<G.h u
     ·rw[aw (show ¬G.sl s (u,v) p by unfold sl;dsimp only;omega)]
      by_cases y2:G.h u<G.h q
      ·have k:0<G.t p q u↔G.t u v q<0:=agv (a:=G.P p) (b:=G.P u) (c:=G.P q) (d:=G.P v) y1 y2 (show G.h q<G.h v by omega) cr (O.on wf iu y1 y2) (O.on we iq y2 (by omega))
       rw[aB (p:=G.bot (u,v) (p,q)) (q:=G.sl s (u,v) q) (by unfold bot sl rt;dsimp only;omega)];omega
      ·rw[aw (show ¬G.bot (u,v) (p,q) by unfold bot rt;dsimp only;omega),aw (show ¬G.sl s (u,v) q by unfold sl;dsimp only;omega)]
     ·have y1':G.h u<G.h p:=by omega
      have n1:=O.on we ip y1' (by omega);have n2:=O.on we iq (by omega) (by omega);have k:0<G.t u v p↔0<G.t u v q:=afv (a:=G.P u) (b:=G.P p) (c:=G.P q) (d:=G.P v) y1' hf (show G.h q<G.h v by omega) cr' n1 n2;rw[aw (show ¬G.bot (u,v) (p,q) by unfold bot rt;dsimp only;omega),aB (p:=G.sl s (u,v) p) (q:=G.sl s (u,v) q) (by unfold sl;dsimp only;omega)]
theorem level{c:Nat×Nat→Int}(hc:G.Flow c){s:Int}(hs:∀i,i<G.n→G.h i≠s){e:Nat×Nat}(he:e∈G.U)(ae:G.at_ s e) :
  sm G.U (fun f=>net c f*ind (G.at_ s f∧G.key s e≤G.key s f))=G.L c e:=by
 have k:=oW hc (G.sl s e) O.ze;have q:sm G.U (fun f=>net c f*ind (G.bot e f)+net c f*ind (G.sl s e f.1))=sm G.U (fun f=>net c f*ind (G.at_ s f∧G.key s e≤G.key s f)+net c f*ind (G.sl s e f.2)):=by
  refine aI fun f hf => ?_;rw[← Bq,← Bq,O.wx hs he hf ae]
 rw[dZ,dZ] at q;unfold L;rw[Ag (bS.mp he).2];unfold Lb;omega
theorem qA{c:Nat×Nat→Int}(hc:G.Flow c){s:Int}(hs:∀i,i<G.n→G.h i≠s):sm G.U (fun f=>net c f*ind (G.at_ s f))=0:=by
 have k:=oW hc (fun w=>G.h w<s) O.ze;have q:sm G.U (fun f=>net c f*ind (G.at_ s f))=sm G.U (fun f=>net c f*ind (G.h f.1<s)-net c f*ind (G.h f.2<s)):=by
  refine aI fun f hf => ?_;rw[← BO]
  congr 1
  have h1:=(bS.mp hf).2;have h2:=hs f.2 (O.ze f hf).2
  by_cases a:G.h f.1<s
  ·by_cases b:G.h f.2<s
   ·rw[aO a,aO b,aw (show ¬G.at_ s f by unfold at_;omega)];rfl
   ·rw[aO a,aw b,aO (show G.at_ s f by unfold at_;omega)];rfl
  ·rw[aw a,aw (show ¬G.h f.2<s by omega),aw (show ¬G.at_ s f by unfold at_;omega)];rfl
 rw[q,mS];omega
end Ok
theorem least{α:Type}(k:α→Int)(p:α→Prop):∀(l:List α),(∀a∈l,¬p a)∨∃a∈l,p a∧∀b∈l,p b→k a≤k b
 | []=>.inl fun _ h=>nomatch h
 | a::r=>by
  rcases least k p r with h|⟨b,hb,pb,hl⟩
  ·by_cases pa:p a
   ·refine .inr ⟨a,Ah ..,pa,fun c hc pc => ?_⟩
    rcases List.mem_cons.mp hc with e|e
    ·rw[e];exact C8 _
    ·exact absurd pc (h c e)
   ·refine .inl fun c hc pc => ?_
    rcases List.mem_cons.mp hc with e|e
    ·rw[e] at pc;exact pa pc
    ·exact h c e pc
  ·by_cases pa:p a∧k a≤k b
   ·refine .inr ⟨a,Ah ..,pa.1,fun c hc pc => ?_⟩
    rcases List.mem_cons.mp hc with e|e
    ·rw[e];exact C8 _
    ·have:=hl c e pc;omega
   ·refine .inr ⟨b,Af _ hb,pb,fun c hc pc => ?_⟩
    rcases List.mem_cons.mp hc with e|e
    ·subst e
     exact Int.not_lt.mp fun z=>pa ⟨pc,by omega⟩
    ·exact hl c e pc
namespace Ok
variable (O:G.Ok)
include O
theorem suffix{s:Int}(hs:∀i,i<G.n→G.h i≠s)(k:Int) :
  (∀f∈G.U,¬(G.at_ s f∧k≤G.key s f)) ∨
  ∃e∈G.U,(G.at_ s e∧k≤G.key s e)∧(∀f∈G.U,G.at_ s f∧k≤G.key s f→G.key s e≤G.key s f) ∧
   ∀c,G.Flow c→sm G.U (fun f=>net c f*ind (G.at_ s f∧k≤G.key s f))=G.L c e:=by
 rcases least (G.key s) (fun f=>G.at_ s f∧k≤G.key s f) G.U with h|⟨e,he,pe,hl⟩
 ·exact .inl h
 ·refine .inr ⟨e,he,pe,hl,fun c hc => ?_⟩
  rw[← O.level hc hs he pe.1];refine aI fun f hf => ?_;rw[aB (p:=G.at_ s f∧k≤G.key s f) (q:=G.at_ s f∧G.key s e≤G.key s f) ⟨fun z=>⟨z.1,hl f hf z⟩,fun z=>⟨z.1,by have:=z.2;omega⟩⟩]
end Ok
end Net
theorem bounded{α:Type}(k:α→Int):∀(l:List α),∃B:Nat,∀a∈l,-(B:Int)<k a∧k a<B
 | []=>⟨0,fun _ h=>nomatch h⟩
 | a::r=>by
  obtain⟨B,hB⟩:=bounded k r;refine⟨B+(k a).natAbs+1,fun c hc => ?_⟩;rcases List.mem_cons.mp hc with e|e
  ·subst e;omega
  ·have:=hB c e;omega
theorem aa2(b κ:Int):∀R:Nat,b≤κ→κ≤b+R→sm (List.range R) (fun r=>ind (b+r+1≤κ))=κ-b:=by
 have full:∀R:Nat,b+R≤κ→sm (List.range R) (fun r=>ind (b+r+1≤κ))=R:=by
  intro R
  induction R with
  | zero=>intro _;rfl
  | succ R ih =>
   intro h;rw[Bj,rO,ih (by omega),bh,rL,aO (by omega)];omega
 intro R
 induction R with
 | zero=>intro h1 h2;rw[List.range_zero,rL];omega
 | succ R ih =>
  intro h1 h2
  by_cases z:κ≤b+R
  ·rw[Bj,rO,ih h1 z,bh,rL,aw (by omega)]
   omega
  ·rw[full (R+1) (by omega)];omega
theorem arith(α β:Int)(a K:Nat):∀d:Nat,a+d≤K→2*sm (List.range K) (fun k=>ind (a≤k∧k<a+d)*(α+β*(k:Int)))=(d:Int)*(2*α+β*(2*a+d-1)):=by
 intro d
 induction d with
 | zero =>
  intro _;rw[aI (g:=fun _=>0) fun k _=>by rw[aw (by omega),Bw],gq];simp
 | succ d ih =>
  intro h;have e:sm (List.range K) (fun k=>ind (a≤k∧k<a+(d+1))*(α+β*(k:Int)))=sm (List.range K) (fun k=>ind (a≤k∧k<a+d)*(α+β*(k:Int)))+(α+β*((a+d:Nat):Int)):=by
   rw[← ko (l:=List.range K) Cc (List.mem_range.mpr (show a+d<K by omega)) (fun k=>α+β*(k:Int)),← dZ];refine aI fun k _ => ?_;rw[← Int.add_mul]
   congr 1
   by_cases h1:k=a+d
   ·rw[aO (show a≤k∧k<a+(d+1) by omega),aw (show ¬(a≤k∧k<a+d) by omega),aO h1];rfl
   ·rw[aw h1,aB (p:=a≤k∧k<a+(d+1)) (q:=a≤k∧k<a+d) (by omega)];omega
  rw[e,Bq,ih (by omega)]
  grind
namespace Net
variable {G:Net}
def ar(G:Net)(e:Nat×Nat):Int:=G.x e.1*G.h e.2-G.x e.2*G.h e.1
theorem sR{c:Nat×Nat→Int}(hc:G.Flow c)(ω:Nat→Int)(hU:∀f∈G.U,f.1<G.n∧f.2<G.n) :
  sm G.U (fun f=>net c f*(ω f.1-ω f.2))=0:=by
 have e:sm (List.range G.n) (fun w=>sm G.U (fun f=>ω w*(net c f*(ind (f.1=w)-ind (f.2=w)))))=0:=by
  rw[aI (g:=fun _=>0) fun w _=>by rw[fV,hc w,B6],gq]
 rw[pB] at e;rw[← e];refine aI fun f hf => ?_;have one:∀i,i<G.n→sm (List.range G.n) (fun w=>ind (i=w)*ω w)=ω i:=by
  intro i hi;rw[← ko (l:=List.range G.n) Cc (List.mem_range.mpr hi) ω];exact aI fun a _=>by rw[aB (p:=i=a) (q:=a=i) ⟨Eq.symm,Eq.symm⟩]
 have k:sm (List.range G.n) (fun w=>ω w*(net c f*(ind (f.1=w)-ind (f.2=w))))=sm (List.range G.n) (fun w=>net c f*(ind (f.1=w)*ω w-ind (f.2=w)*ω w)):=by
  refine aI fun w _ => ?_
  grind
 rw[k,fV,mS,one _ (hU f hf).1,one _ (hU f hf).2]
namespace Ok
variable (O:G.Ok)
include O
theorem acC{ws:List (Nat×Nat)}(hn:ws.Nodup)(hw:∀e∈ws,e∈G.W)(F:Nat×Nat→Int):sm ws F=sm G.U (fun f=>ind (f∈ws)*F f+ind ((f.2,f.1)∈ws)*F (f.2,f.1)):=by
 rw[← O.agC hn hw F];exact O.wX (fun e=>ind (e∈ws)*F e)
theorem agS{c:Nat×Nat→Int}(hc:G.Flow c):sm G.U (fun f=>net c f*G.ar f)=sm G.U (fun f=>net c f*((G.x f.1+G.x f.2)*G.D f)):=by
 have k:=sR hc (fun i=>G.x i*G.h i) O.ze;have e:sm G.U (fun f=>net c f*G.ar f)=sm G.U (fun f=>net c f*((G.x f.1+G.x f.2)*G.D f)+net c f*(G.x f.1*G.h f.1-G.x f.2*G.h f.2)):=by
  refine aI fun f _ => ?_;unfold ar D;grind
 rw[e,dZ];omega
theorem rX{f:Nat×Nat}(hf:f∈G.U){η:Nat→Int}(ev:∀i,G.h i=2*η i){B:Nat}(hB:∀i,i<G.n → -(B:Int)<η i∧η i<B) :
  4*sm (List.range (2*B)) (fun k=>ind (G.at_ (2*k+1-2*B) f)*G.key (2*k+1-2*B) f)=G.PP*((G.x f.1+G.x f.2)*G.D f):=by
 obtain⟨h1,_⟩:=share hf;have lt:=(bS.mp hf).2;have b1:=hB f.1 (O.ze f hf).1;have b2:=hB f.2 (O.ze f hf).2;have e1:=ev f.1;have e2:=ev f.2;obtain⟨a,ha⟩:∃a:Nat,η f.1=a-B:=⟨(η f.1+B).toNat,by omega⟩;obtain⟨d,hd⟩:∃d:Nat,η f.2=η f.1+d:=⟨(η f.2-η f.1).toNat,by omega⟩;have k:=arith (G.x f.1*(2*a+2*d-1)+G.x f.2*(1-2*a)) (2*(G.x f.2-G.x f.1)) a (2*B) d (by omega);have e:sm (List.range (2*B)) (fun k=>ind (G.at_ (2*k+1-2*B) f)*G.key (2*k+1-2*B) f) =
   G.PP / G.D f*sm (List.range (2*B)) (fun k=>ind (a≤k∧k<a+d)*(G.x f.1*(2*a+2*d-1)+G.x f.2*(1-2*a)+2*(G.x f.2-G.x f.1)*(k:Int))):=by
  rw[← fV];refine aI fun k _ => ?_;rw[aB (p:=G.at_ (2*k+1-2*B) f) (q:=a≤k∧k<a+d) (by unfold at_;omega)];unfold key N;rw[show G.h f.2-(2*(k:Int)+1-2*B)=2*a+2*d-1-2*k by omega,show(2*(k:Int)+1-2*B)-G.h f.1=2*k+1-2*a by omega]
  grind
 have hD:G.D f=2*d:=by unfold D;omega
 rw[e];generalize sm (List.range (2*B)) (fun k=>ind (a≤k∧k<a+d)*(G.x f.1*(2*a+2*d-1)+G.x f.2*(1-2*a)+2*(G.x f.2-G.x f.1)*(k:Int)))=S at *
 generalize G.PP / G.D f=M at *
 rw[← h1,hD];have:4*(M*S)=2*M*(2*S):=by grind
 rw[this,k];generalize G.x f.1=xa;generalize G.x f.2=xb;generalize (d:Int)=dd;generalize (a:Int)=aa
 grind
theorem nY{c:Nat×Nat→Int}(hc:G.Flow c){s:Int}(hs:∀i,i<G.n→G.h i≠s)(σ:Int)(hσ:∀e∈G.U,0≤σ*G.L c e) :
  0≤σ*sm G.U (fun f=>net c f*(ind (G.at_ s f)*G.key s f)) ∧
  ((∃e∈G.U,G.at_ s e∧0<σ*G.L c e)→0<σ*sm G.U (fun f=>net c f*(ind (G.at_ s f)*G.key s f))):=by
 obtain⟨B,hB⟩:=bounded (G.key s) G.U;have all:=O.qA hc hs;have e:sm G.U (fun f=>net c f*(ind (G.at_ s f)*G.key s f))=sm (List.range (2*B)) (fun r=>sm G.U (fun f=>net c f*ind (G.at_ s f ∧ -(B:Int)+r+1≤G.key s f))):=by
  rw[← pB];have:sm G.U (fun f=>net c f*(ind (G.at_ s f)*G.key s f))=sm G.U (fun f=>net c f*(ind (G.at_ s f)*(G.key s f+B))-B*(net c f*ind (G.at_ s f))):=by
   refine aI fun f _ => ?_
   grind
  rw[this,mS,fV,all,B6,CH];refine aI fun f hf => ?_;rw[fV]
  congr 1
  have cu:=aa2 (-(B:Int)) (G.key s f) (2*B) (by have:=hB f hf;omega) (by have:=hB f hf;omega)
  by_cases a:G.at_ s f
  ·rw[aO a,Int.one_mul,show G.key s f+B=G.key s f-(-(B:Int)) by omega,← cu]
   exact aI fun r _=>aB ⟨fun z=>⟨a,z⟩,And.right⟩
  ·rw[aw a,Bw,aI (g:=fun _=>0) fun r _=>aw fun z=>a z.1,gq]
 have pos:∀r∈List.range (2*B),0≤σ*sm G.U (fun f=>net c f*ind (G.at_ s f ∧ -(B:Int)+r+1≤G.key s f)):=by
  intro r _;rcases O.suffix hs (-(B:Int)+r+1) with h|⟨e,he,_,_,h⟩
  ·rw[aI (g:=fun _=>0) fun f hf=>by rw[aw (h f hf),B6],gq,B6]
   exact C8 _
  ·rw[h c hc];exact hσ e he
 rw[e,← fV];refine⟨mq pos,?_⟩;rintro⟨e0,he0,a0,p0⟩;have hb:=hB e0 he0;refine acI pos (b:=(G.key s e0+B-1).toNat) (List.mem_range.mpr (by omega)) ?_;have:(-(B:Int)+((G.key s e0+B-1).toNat:Int)+1)=G.key s e0:=by omega
 rw[this,O.level hc hs he0 a0];exact p0
theorem qm{ws:List (Nat×Nat)}(hn:ws.Nodup)(hw:∀e∈ws,e∈G.W)(hc:G.Flow (fun e=>ind (e∈ws))){η:Nat→Int}(ev:∀i,G.h i=2*η i)
  (σ:Int) (hσ:∀e∈G.U,0≤σ*G.L (fun e=>ind (e∈ws)) e) :
  0≤σ*sm ws G.ar∧((∃e∈G.U,0<σ*G.L (fun e=>ind (e∈ws)) e)→0<σ*sm ws G.ar):=by
 obtain⟨B,hB⟩:=bounded η (List.range G.n);have hB':∀i,i<G.n → -(B:Int)<η i∧η i<B:=fun i hi=>hB i (List.mem_range.mpr hi);have e1:sm ws G.ar=sm G.U (fun f=>net (fun e=>ind (e∈ws)) f*G.ar f):=by
  rw[O.acC hn hw];refine aI fun f _ => ?_;unfold net ar;dsimp only;grind
 have e2:G.PP*sm ws G.ar=4*sm (List.range (2*B)) (fun k=>sm G.U (fun f=>net (fun e=>ind (e∈ws)) f*(ind (G.at_ (2*k+1-2*B) f)*G.key (2*k+1-2*B) f))):=by
  rw[e1,O.agS hc,← fV,← pB,← fV];refine aI fun f hf => ?_;rw[fV];have:=O.rX hf ev hB'
  grind
 have odd:∀k:Nat,∀i,i<G.n→G.h i≠(2*(k:Int)+1-2*B):=fun k i _=>by rw[ev i];omega
 have e3:G.PP*(σ*sm ws G.ar)=4*sm (List.range (2*B)) (fun k=>σ*sm G.U (fun f=>net (fun e=>ind (e∈ws)) f*(ind (G.at_ (2*k+1-2*B) f)*G.key (2*k+1-2*B) f))):=by
  rw[fV];have:G.PP*(σ*sm ws G.ar)=σ*(G.PP*sm ws G.ar):=by grind
  rw[this,e2];grind
 have nn:∀k∈List.range (2*B),0≤σ*sm G.U (fun f=>net (fun e=>ind (e∈ws)) f*(ind (G.at_ (2*k+1-2*B) f)*G.key (2*k+1-2*B) f)) :=
  fun k _=>(O.nY hc (odd k) σ hσ).1
 have pp:=zh (G:=G)
 constructor
 ·have:=mq nn
  refine Int.not_lt.mp fun z => ?_;have:=cK pp z;omega
 ·rintro⟨e,he,pe⟩
  have b1:=hB' e.1 (O.ze e he).1;have b2:=hB' e.2 (O.ze e he).2;have v1:=ev e.1;have v2:=ev e.2;have lt:=(bS.mp he).2;have p:=acI nn (b:=(η e.1+B).toNat) (List.mem_range.mpr (by omega)) ((O.nY hc (odd _) σ hσ).2 ⟨e,he,by unfold at_;omega,pe⟩);exact bp (b:=G.PP) (by rw[A9];omega) pp
end Ok
def rz(G:Net)(z:Pos)(f:Nat×Nat):Prop:=G.h f.1<z.h∧z.h<G.h f.2∧0<tn (G.P f.1) (G.P f.2) z
instance (z:Pos) (f:Nat×Nat):Decidable (G.rz z f):=by unfold rz;infer_instance
theorem xg{z:Pos}{f:Nat×Nat}(hf:f∈G.U):G.rz z f↔G.at_ z.h f∧G.PP*z.x+1≤G.key z.h f:=by
 obtain⟨h1,h2⟩:=share hf;have e:G.key z.h f-G.PP*z.x=G.PP / G.D f*tn (G.P f.1) (G.P f.2) z:=by
  unfold key;generalize G.PP / G.D f=M at *
  rw[← h1];clear h1 h2 hf;unfold N D tn h x;grind
 unfold rz at_
 constructor
 ·rintro⟨a,b,c⟩
  have:=A8 h2 c;exact⟨⟨a,b⟩,by omega⟩
 ·rintro⟨⟨a,b⟩,c⟩
  exact⟨a,b,bp (b:=G.PP / G.D f) (by rw[A9];omega) h2⟩
def Q(G:Net)(e:Nat×Nat):Prop:=∀r,r<G.n→G.t e.1 e.2 r≤0
namespace Ok
variable (O:G.Ok)
include O
theorem tV{z:Pos}(hz:∀i,i<G.n→G.h i≠z.h)(ex:∃f∈G.U,G.rz z f) :
  ∃e∈G.U,G.rz z e∧∀c,G.Flow c→sm G.U (fun f=>net c f*ind (G.rz z f))=G.L c e:=by
 rcases O.suffix hz (G.PP*z.x+1) with h|⟨e,he,pe,_,h⟩
 ·obtain⟨f,hf,rf⟩:=ex
  exact absurd ((xg hf).mp rf) (h f hf)
 ·refine⟨e,he,(xg he).mpr pe,fun c hc => ?_⟩
  rw[← h c hc];refine aI fun f hf => ?_;rw[aB (xg hf)]
theorem ae6{ws:List (Nat×Nat)}(hn:ws.Nodup)(hw:∀e∈ws,e∈G.W)(z:Pos) :
  ∃k,sm ws (fun e=>ind (G.rz z e∨G.rz z (e.2,e.1)))=sm G.U (fun f=>net (fun e=>ind (e∈ws)) f*ind (G.rz z f))+2*k:=by
 refine⟨sm G.U (fun f=>ind ((f.2,f.1)∈ws)*ind (G.rz z f)),?_⟩;rw[O.acC hn hw,← fV,← dZ];refine aI fun f hf => ?_;have lt:=(bS.mp hf).2;have n:¬G.rz z (f.2,f.1):=by unfold rz;dsimp only;omega
 dsimp only;rw[aB (p:=G.rz z f∨G.rz z (f.2,f.1)) (q:=G.rz z f) ⟨fun z=>z.elim id fun w=>absurd w n,.inl⟩,
  aB (p:=G.rz z (f.2,f.1)∨G.rz z (f.1,f.2)) (q:=G.rz z f) ⟨fun z=>z.elim (fun w=>absurd w n) id,.inr⟩]
 unfold net;dsimp only
 grind
theorem ahF(h1:∀e∈G.W,G.Q e→∃k,(e.2,k)∈G.W∧G.Q (e.2,k))(h2:∀e∈G.W,∃r,r<G.n∧G.t e.1 e.2 r≠0){e:Nat×Nat}(he:e∈G.W)(q:G.Q e):G.Q (G.phi e):=by
 obtain⟨u,v⟩:=e;obtain⟨k,hk,qk⟩:=h1 _ he q;obtain⟨r0,hr0,nr0⟩:=h2 _ he;have hu:=O.sym he;have hw:=O.nxm he;have hs:=O.nxs he hk;show G.Q (v,G.nx u v);dsimp only at hk qk nr0;generalize G.nx u v=w at *
 unfold Q at q qk;dsimp only at q qk;have q':∀r,r<G.n→0≤G.t v u r:=fun r hr=>by have:=q r hr;have:=uG (G:=G) u v r;omega
 have hnu:=O.hne hu;have hnw:=O.hne hw;have hnk:=O.hne hk;have ku:k≠u:=by
  intro e;subst e;have a:=q r0 hr0;have b:=qk r0 hr0;have c:=uG (G:=G) k v r0;clear hnu hnw hnk;omega
 have wu:w≠u:=by
  intro e;subst e;exact hs (O.jA hu hk ku)
 have tw:=q' w (O.lt hw).2
 by_cases z:G.t v u w=0
 ·have opp:(G.h v<G.h u∧G.h w<G.h v)∨(G.h u<G.h v∧G.h v<G.h w):=by
   refine Classical.byContradiction fun n => ?_;exact O.ray hu hw (Ne.symm wu) (by clear hnk nr0 ku wu;omega) z
  intro r hr;show G.t v w r≤0;have e:=plu (G:=G) v u w r;rw[z,B6] at e;have tr:=q' r hr;refine Int.not_lt.mp fun p => ?_;rcases opp with⟨a,b⟩|⟨a,b⟩
  ·have m1:=dI (a:=G.h u-G.h v) (b:=G.t v w r) (by omega) p
   have m2:(G.h w-G.h v)*G.t v u r≤0:=BB (by omega) tr;omega
  ·have m1:=cg (a:=G.h u-G.h v) (b:=G.t v w r) (by omega) p
   have m2:0≤(G.h w-G.h v)*G.t v u r:=A6 (by omega) tr;omega
 ·have pw:0<G.t v u w:=by omega
  have tk:=q' k (O.lt hk).2;have fw:G.hf v u w=2:=by unfold hf;rw[Ad (by omega),Ag pw]
  by_cases zk:G.t v u k=0
  ·exfalso
   refine hs (.inl ?_);rw[fw];unfold hf;rw[Ad (by omega),Ad (by omega),Ad]
   ·omega
   ·intro c
    exact O.ray hu hk (Ne.symm ku) (by clear hnw nr0 wu ku z;omega) zk
  ·have pk:0<G.t v u k:=by omega
   have fk:G.hf v u k=2:=by unfold hf;rw[Ad (by omega),Ag pk]
   have t0:¬G.t v k w<0:=fun z=>hs (.inr ⟨by rw[fw,fk],z⟩);have t1:=qk w (O.lt hw).2;have t2:G.t v k w=0:=by omega
   by_cases kw:k=w
   ·subst kw;exact qk
   ·exfalso
    have opp:(G.h v<G.h k∧G.h w<G.h v)∨(G.h k<G.h v∧G.h v<G.h w) :=
     Classical.byContradiction fun n=>O.ray hk hw kw (by clear hnu nr0 ku wu z zk kw;omega) t2
    have e:=plu (G:=G) v u k w;rw[t2,B6] at e;rcases opp with⟨a,b⟩|⟨a,b⟩
    ·have m1:=dI (a:=G.h k-G.h v) (b:=G.t v u w) (by omega) pw
     have m2:=cg (a:=G.h w-G.h v) (b:=G.t v u k) (by omega) pk;omega
    ·have m1:=cg (a:=G.h k-G.h v) (b:=G.t v u w) (by omega) pw
     have m2:=dI (a:=G.h w-G.h v) (b:=G.t v u k) (by omega) pk;omega
theorem aiy(h1:∀e∈G.W,G.Q e→∃k,(e.2,k)∈G.W∧G.Q (e.2,k))(h2:∀e∈G.W,∃r,r<G.n∧G.t e.1 e.2 r≠0){e:Nat×Nat}(he:e∈G.W)(q:G.Q e):∀k,G.Q (G.it k e)
 | 0=>q
 | k+1=>O.ahF h1 h2 (O.bV he k) (aiy h1 h2 he q k)
include O
theorem abu{s:Int}(hs:∀i,i<G.n→G.h i≠s)(xn:∀i,i<G.n→0≤G.x i)(ex:∃f∈G.U,G.at_ s f∧G.x f.1=0∧G.x f.2=0) :
  ∃e∈G.U,G.at_ s e∧G.Q e∧∀c,G.Flow c→G.L c e=0:=by
 obtain⟨f,hf,af,x1,x2⟩:=ex;rcases least (G.key s) (fun f=>G.at_ s f) G.U with h|⟨e,he,ae,hl⟩
 ·exact absurd af (h f hf)
 ·refine⟨e,he,ae,?_,fun c hc => ?_⟩
  ·have k:=hl f hf af
   have kf:G.key s f=0:=by unfold key N;rw[x1,x2];simp
   rw[kf] at k;obtain⟨_,h2⟩:=share he;have y1:=xn e.1 (O.ze e he).1;have y2:=xn e.2 (O.ze e he).2;unfold at_ at ae;have m1:=A6 y1 (show 0≤G.h e.2-s by omega);have m2:=A6 y2 (show 0≤s-G.h e.1 by omega);have n0:G.N s e≤0:=by
    refine Int.not_lt.mp fun z => ?_;have:=A8 z h2;unfold key at k;omega
   unfold N at n0;have z1:G.x e.1=0:=dO (b:=G.h e.2-s) (by omega) (by omega);have z2:G.x e.2=0:=dO (b:=s-G.h e.1) (by omega) (by omega);intro r hr;have y3:=xn r hr;have lt:=(bS.mp he).2;have:G.t e.1 e.2 r = - ((G.h e.2-G.h e.1)*G.x r):=by
    unfold t tn;unfold x at z1 z2 ⊢;unfold h;rw[z1,z2];grind
   rw[this];have:=A6 (show 0≤G.h e.2-G.h e.1 by omega) y3;omega
  ·rw[← O.level hc hs he ae,← O.qA hc hs]
   refine aI fun g hg => ?_;rw[aB (p:=G.at_ s g∧G.key s e≤G.key s g) (q:=G.at_ s g) ⟨And.left,fun z=>⟨z,hl g hg z⟩⟩]
theorem within(C:G.aeN){η:Nat→Int}(ev:∀i,G.h i=2*η i)(xn:∀i,i<G.n→0≤G.x i)
  (h1:∀e∈G.W,G.Q e→∃k,(e.2,k)∈G.W∧G.Q (e.2,k)) (h2:∀e∈G.W,∃r,r<G.n∧G.t e.1 e.2 r≠0)
  {z:Pos} (hz:∀i,i<G.n→G.h i≠z.h) (exR:∃f∈G.U,G.rz z f) (exL:∃f∈G.U,G.at_ z.h f∧G.x f.1=0∧G.x f.2=0)
  (hq:∀e∈G.W,G.Q e→tn (G.P e.1) (G.P e.2) z≤0) :
  ∃e∈G.W,∀s∈G.W,∀m,0<m→G.it m s=s→(∀k,0<k→k<m→G.it k s≠s) →
   (0<sm ((List.range m).map fun k=>G.it k s) G.ar →
    (sm ((List.range m).map fun k=>G.it k s) (fun e=>ind (G.rz z e∨G.rz z (e.2,e.1))) % 2=1↔e∈((List.range m).map fun k=>G.it k s))) ∧
   (e∈((List.range m).map fun k=>G.it k s)→0<sm ((List.range m).map fun k=>G.it k s) G.ar):=by
 obtain⟨e,he,re,hL⟩:=O.tV hz exR;obtain⟨e0,he0,_,q0,h0⟩:=O.abu hz xn exL;refine⟨e,(bS.mp he).1,fun s hs m m0 hm hk => ?_⟩;have hn:=O.f9 hs hk (i:=0) (j:=m) (Ae _);rw[BP,← BI] at hn;have hw:∀f∈((List.range m).map fun k=>G.it k s),f∈G.W:=by
  intro f hf;obtain⟨k,_,rfl⟩:=List.mem_map.mp hf;exact O.bV hs k
 obtain⟨fl,g,hg⟩:=O.ahV hs C m0 hm hk;have l0:=h0 _ fl;rw[hg e0 (bS.mp he0).1] at l0
 by_cases c:e0∈((List.range m).map fun k=>G.it k s)
 ·rw[aO c] at l0
  have sg:=(O.qm hn hw fl ev (-1) (fun f hf=>by
   rw[hg f (bS.mp hf).1];unfold ind;split <;> omega)).1
  refine⟨fun p=>by omega,fun hin => ?_⟩
  exfalso
  obtain⟨j,_,ej⟩:=List.mem_map.mp c;obtain⟨k,_,ek⟩:=List.mem_map.mp hin;rw[AZ] at *
  have q1:=O.aiy h1 h2 (bS.mp he0).1 q0 (k+(m-j));have:G.it (k+(m-j)) e0=e:=by
   rw[← ej,← fc,show k+(m-j)+j=k+m by omega,fc,hm,ek]
  rw[this] at q1;have:=hq e (bS.mp he).1 q1;have:=re.2.2;omega
 ·rw[aw c] at l0
  have sg:=O.qm hn hw fl ev 1 (fun f hf=>by
   rw[hg f (bS.mp hf).1];unfold ind;split <;> omega)
  refine⟨fun _ => ?_,fun hin => ?_⟩
  ·obtain⟨k,ek⟩:=O.ae6 hn hw z
   rw[ek,hL _ fl,hg e (bS.mp he).1]
   by_cases hin:e∈((List.range m).map fun k=>G.it k s)
   ·rw[aO hin]
    exact⟨fun _=>hin,fun _=>by omega⟩
   ·rw[aw hin]
    exact⟨fun q=>by omega,fun q=>absurd q hin⟩
  ·have:=sg.2 ⟨e,he,by rw[hg e (bS.mp he).1,aO hin];omega⟩
   omega
end Ok
end Net
open Gla
theorem gf{α:Type}{p:Nat→α→Bool}{l:List α}(h:firstAt p l=none)(i:Nat)(hi:i<l.length):p i l[i]=false:=by
 unfold firstAt at h;rw[Dx,Bg] at h;have:=h (l[i],i) (by rw[List.mem_zipIdx_iff_getElem?];simp[hi])
 simpa using this
theorem cD{α:Type}{ok:α→Bool}{bf:α→α→Bool}{l:List α}(h:firstBad ok bf l=none) :
  (∀i (hi:i<l.length),ok l[i]=true)∧(∀i (hi:i+1<l.length),bf l[i] l[i+1]=true):=by
 have k:=gf h;refine⟨fun i hi => ?_,fun i hi => ?_⟩
 ·have:=k i hi
  rw[AW] at this
  simpa using this.1
 ·have:=k (i+1) hi
  rw[AW] at this;have t:=this.2;have e:l[i+1-1]? = some l[i]:=by simp
  rw[e] at t
  simpa using t
theorem tF{α:Type}{r:α→α→Prop}(tr:∀a b c,r a b→r b c→r a c){l:List α}(h:∀i (hi:i+1<l.length),r l[i] l[i+1]) :
  ∀i j (hij:i<j) (hj:j<l.length),r l[i] l[j]:=by
 intro i j hij;obtain⟨d,rfl⟩:∃d,j=i+1+d:=⟨j-i-1,by omega⟩
 induction d with
 | zero=>intro hj;exact h i hj
 | succ d ih=>intro hj;exact tr _ _ _ (ih (by omega) (by omega)) (h (i+1+d) (by omega))
def NN(S:Plan):Int:=(S.w:Int)+1
def posOf(S:Plan)(z:Pt):Pos:=⟨z.x,2*(NN S*z.y-z.x)⟩
def aq(S:Plan):Net:=⟨S.pts.length,fun i=>posOf S (S.pt i),ways S,S.next⟩
theorem rF(S:Plan):0<NN S:=by unfold NN;omega
theorem si(S:Plan)(p q r:Pt):tn (posOf S p) (posOf S q) (posOf S r)=2*NN S*turn p q r:=by
 unfold tn posOf turn dx dy;dsimp only;generalize NN S=k
 grind
theorem dM(S:Plan)(p q r:Pt):(0<tn (posOf S p) (posOf S q) (posOf S r)↔0<turn p q r)∧(tn (posOf S p) (posOf S q) (posOf S r)<0↔turn p q r<0)∧(tn (posOf S p) (posOf S q) (posOf S r)=0↔turn p q r=0):=by
 rw[si];have k:=rF S;have k2:0<2*NN S:=by omega
 refine⟨⟨fun h=>bp (b:=2*NN S) (by rw[A9];exact h) k2,fun h=>A8 k2 h⟩,
  ⟨fun h=>aU (b:=2*NN S) (by rw[A9];exact h) k2,fun h=>cK k2 h⟩,
  ⟨fun h=>dO (b:=2*NN S) (by rw[A9];exact h) k2,fun h=>by rw[h,B6]⟩⟩
structure Rules(S:Plan):Prop where
 w1:1≤S.w
 h1:1≤S.h
 r4:firstBad (fun(p:Pt)=>decide (p.x≤S.w)&&decide (p.y≤S.h)) Pt.below S.pts=none
 r5:firstBad (fun(l:Nat×Nat)=>decide (l.1<l.2)&&decide (l.2<S.pts.length)) lineBelow S.lines=none
 r6:frameOk S=true
 r7:firstAt (touches S) S.lines=none
 r8:((List.range S.pts.length).find? fun(i:Nat)=>decide ((S.near i).length<2))=none
 r9:((List.range S.pts.length).find? fun(i:Nat) => !((seenFrom S.nears S.pts.length 0 (noneSeen S.pts.length)).getD i false))=none
 r10:(List.range S.pts.length).find? (cuts S.nears S.pts.length)=none
namespace Rules
variable {S:Plan}(R:Rules S)
include R
theorem aaY{i:Nat}(hi:i<S.pts.length):S.pt i=S.pts[i]:=by
 unfold Plan.pt;rw[Aj,Aa hi];rfl
theorem pl{i:Nat}(hi:i<S.pts.length):(S.pt i).x≤S.w∧(S.pt i).y≤S.h:=by
 have:=(cD R.r4).1 i hi;rw[R.aaY hi]
 simpa using this
theorem po{i j:Nat}(hij:i<j)(hj:j<S.pts.length):(S.pt i).y<(S.pt j).y∨((S.pt i).y=(S.pt j).y∧(S.pt i).x<(S.pt j).x):=by
 have:=tF (r:=fun(p q:Pt)=>p.y<q.y∨(p.y=q.y∧p.x<q.x)) (by intro a b c h1 h2;omega) (l:=S.pts) (fun i hi=>by
  have:=(cD R.r4).2 i hi;unfold Pt.below at this
  simpa using this) i j hij hj
 rw[R.aaY hj,R.aaY (by omega)];exact this
theorem ln{l:Nat×Nat}(h:l∈S.lines):l.1<l.2∧l.2<S.pts.length:=by
 obtain⟨i,hi,rfl⟩:=List.mem_iff_getElem.mp h;have:=(cD R.r5).1 i hi
 simpa using this
theorem lo:S.lines.Pairwise fun a b=>a.1<b.1∨(a.1=b.1∧a.2<b.2):=by
 rw[List.pairwise_iff_getElem];intro i j hi hj hij;exact tF (r:=fun(a b:Nat×Nat)=>a.1<b.1∨(a.1=b.1∧a.2<b.2)) (by intro a b c h1 h2;omega) (l:=S.lines) (fun i hi=>by
  have:=(cD R.r5).2 i hi;unfold lineBelow at this
  simpa using this) i j hij hj
theorem dC{e:Nat×Nat}:e∈ways S↔e∈S.lines∨(e.2,e.1)∈S.lines:=by
 unfold ways;rw[Dj]
 constructor
 ·rintro⟨l,hl,he⟩
  rcases List.mem_cons.mp he with z|z
  ·exact .inl (z▸hl)
  ·rw[List.mem_singleton.mp z];exact .inr hl
 ·rintro(h|h)
  ·exact⟨e,h,Ah ..⟩
  ·exact⟨(e.2,e.1),h,Af _ (List.mem_singleton.mpr rfl)⟩
theorem wj:(ways S).Nodup:=by
 have key:∀l:List (Nat×Nat),(l.Pairwise fun a b=>a.1<b.1∨(a.1=b.1∧a.2<b.2))→(∀a∈l,a.1<a.2)→(l.flatMap fun(l:Nat×Nat)=>[l,(l.2,l.1)]).Nodup:=by
  intro l
  induction l with
  | nil=>intro _ _;exact CK
  | cons a r ih =>
   intro hp ha;rw[CL] at hp;have h0:=ha a (Ah ..);have ih:=ih hp.2 fun b hb=>ha b (Af _ hb);rw[Cw,List.nodup_append];refine⟨?_,ih,?_⟩
   ·rw[Dy]
    refine⟨fun h => ?_,by simp⟩;have e:=List.mem_singleton.mp h;have:=congrArg Prod.fst e;dsimp only at this;omega
   ·intro x hx y hy e
    subst e;rw[Dj] at hy;obtain⟨b,hb,hy⟩:=hy;have k:=hp.1 b hb;have h1:=ha b (Af _ hb);rcases List.mem_cons.mp hx with z|z <;> rcases List.mem_cons.mp hy with y|y
    ·subst z;subst y;omega
    ·have y:=List.mem_singleton.mp y;subst z;rw[y] at *;dsimp only at *;omega
    ·have z:=List.mem_singleton.mp z;subst y;rw[z] at *;dsimp only at *;omega
    ·have z:=List.mem_singleton.mp z
     have y:=List.mem_singleton.mp y;rw[z] at y;have e1:=congrArg Prod.fst y;have e2:=congrArg Prod.snd y;dsimp only at e1 e2;omega
 exact key S.lines R.lo fun a h=>(R.ln h).1
theorem bF{i j:Nat}(h:(i,j)∈ways S):i<S.pts.length∧j<S.pts.length∧i≠j:=by
 rcases R.dC.mp h with h|h <;> have:=R.ln h <;> dsimp only at this <;> omega
theorem cU{i j:Nat}:j∈S.near i↔(i,j)∈ways S:=by
 rw[R.dC];unfold Plan.near;rw[List.mem_filterMap]
 constructor
 ·rintro⟨l,hl,h⟩
  split at h
  ·rename_i e
   obtain rfl:=Ac h;subst e;exact .inl hl
  ·split at h
   ·rename_i e
    obtain rfl:=Ac h;subst e;exact .inr hl
   ·cases h
 ·rintro(h|h)
  ·exact⟨(i,j),h,by rw[Ag rfl]⟩
  ·have:=R.ln h
   dsimp only at this;refine⟨(j,i),h,?_⟩;rw[Ad (by dsimp only;omega),Ag rfl]
theorem qB{i j:Nat}(hi:i<S.pts.length)(hj:j<S.pts.length)(e:S.pt i=S.pt j):i=j:=by
 rcases Bd i j with h|h|h
 ·have:=R.po h hj;rw[e] at this;omega
 ·exact h
 ·have:=R.po h hi;rw[e] at this;omega
omit R in
theorem o9{p q:Pt}(hp:p.x≤S.w)(hq:q.x≤S.w)(e:(posOf S p).h=(posOf S q).h):p=q:=by
 unfold posOf NN at e;dsimp only at e;have h1:((S.w:Int)+1)*p.y-p.x=((S.w:Int)+1)*q.y-q.x:=by omega
 have h2:p.y=q.y:=by
  rcases Bd p.y q.y with h|h|h
  ·exfalso
   have m:((S.w:Int)+1)*((p.y:Int)+1)≤((S.w:Int)+1)*q.y:=Bo (by omega) (by omega);rw[Bq] at m;omega
  ·exact h
  ·exfalso
   have m:((S.w:Int)+1)*((q.y:Int)+1)≤((S.w:Int)+1)*p.y:=Bo (by omega) (by omega);rw[Bq] at m;omega
 have h3:p.x=q.x:=by rw[h2] at h1;omega
 cases p;cases q;simp only at h2 h3;rw[h2,h3]
theorem free{l:Nat×Nat}(h:l∈S.lines){k:Nat}(hk:k<S.pts.length)(h1:k≠l.1)(h2:k≠l.2):isOn (S.pt l.1) (S.pt l.2) (S.pt k)=false:=by
 obtain⟨i,hi,rfl⟩:=List.mem_iff_getElem.mp h;have:=gf R.r7 i hi;unfold touches at this;rw[AW] at this;have:=this.1;rw[BV] at this;have:=this k (List.mem_range.mpr hk);simp[h1,h2] at this
 simpa using this
theorem apart{l m:Nat×Nat}(h:l∈S.lines)(hm:m∈S.lines):crosses (S.pt l.1) (S.pt l.2) (S.pt m.1) (S.pt m.2)=false:=by
 obtain⟨i,hi,rfl⟩:=List.mem_iff_getElem.mp h;obtain⟨j,hj,rfl⟩:=List.mem_iff_getElem.mp hm;have key:∀i (hi:i<S.lines.length) j (hj:j<S.lines.length),j<i→crosses (S.pt S.lines[i].1) (S.pt S.lines[i].2) (S.pt S.lines[j].1) (S.pt S.lines[j].2)=false:=by
  intro i hi j hj ji;have:=gf R.r7 i hi;unfold touches at this;rw[AW] at this;have:=this.2;rw[BV] at this;have:=this S.lines[j] (by
   rw[D3];exact⟨j,by rw[A2];omega,by rw[CW]⟩)
  simpa using this
 rcases Bd j i with z|z|z
 ·exact key i hi j hj z
 ·subst z
  unfold crosses turn dx dy;simp only[C1,Bz]
  left
  have:(((S.pt S.lines[j].2).x:Int)-(S.pt S.lines[j].1).x)*(((S.pt S.lines[j].1).y:Int)-(S.pt S.lines[j].2).y)-(((S.pt S.lines[j].2).y:Int)-(S.pt S.lines[j].1).y)*(((S.pt S.lines[j].1).x:Int)-(S.pt S.lines[j].2).x)=0:=by grind
  rw[this,Bw];omega
 ·have:=key j hj i hi z
  unfold crosses at this ⊢;rw[Bool.and_comm];exact this
end Rules
theorem aix{D E d x:Int}(h:D*x=d*E)(h1:0<E)(h2:E<D):(0≤d→0≤x∧x≤d)∧(d≤0→d≤x∧x≤0):=by
 have key:∀{d x:Int},D*x=d*E→0≤d→0≤x∧x≤d:=by
  intro d x h hd;have m1:=A6 hd (B4 h1);have m2:d*E≤d*D:=Bo (B4 h2) hd
  constructor
  ·refine Int.not_lt.mp fun z => ?_
   have:=cK (show 0<D by omega) z;omega
  ·refine Int.not_lt.mp fun z => ?_
   have:0<D*(x-d):=A8 (by omega) (by omega);rw[BO,A9 D d] at this;omega
 refine⟨key h,fun hd => ?_⟩;have:=key (d := -d) (x := -x) (by rw[Int.mul_neg,B7,h]) (by omega);omega
theorem j9(p q r:Pt):turn q p r = - turn p q r:=by unfold turn dx dy;grind
namespace Rules
variable {S:Plan}(R:Rules S)
include R
theorem agH{i j k:Nat}(h:(i,j)∈ways S)(hk:k<S.pts.length)(h1:(posOf S (S.pt i)).h<(posOf S (S.pt k)).h)(h2:(posOf S (S.pt k)).h<(posOf S (S.pt j)).h):turn (S.pt i) (S.pt j) (S.pt k)≠0:=by
 intro t0;have hki:k≠i:=fun e=>by rw[e] at h1;omega
 have hkj:k≠j:=fun e=>by rw[e] at h2;omega
 have fr:isOn (S.pt i) (S.pt j) (S.pt k)=false∨isOn (S.pt j) (S.pt i) (S.pt k)=false:=by
  rcases R.dC.mp h with z|z
  ·exact .inl (R.free z hk hki hkj)
  ·exact .inr (R.free z hk hkj hki)
 generalize S.pt i=p at *
 generalize S.pt j=q at *
 generalize S.pt k=r at *
 have t1:turn q p r=0:=by
  have:turn q p r = - turn p q r:=j9 p q r;omega
 unfold posOf at h1 h2;dsimp only at h1 h2;have k:=rF S;generalize NN S=N at *
 have e1:(N*(q.y-p.y)-(q.x-p.x))*((r.x:Int)-p.x)=((q.x:Int)-p.x)*(N*(r.y-p.y)-(r.x-p.x)):=by
  unfold turn dx dy at t0
  grind
 have e2:(N*(q.y-p.y)-(q.x-p.x))*((r.y:Int)-p.y)=((q.y:Int)-p.y)*(N*(r.y-p.y)-(r.x-p.x)):=by
  unfold turn dx dy at t0
  grind
 have a1:0<N*((r.y:Int)-p.y)-(r.x-p.x):=by rw[BO];omega
 have a2:N*((r.y:Int)-p.y)-(r.x-p.x)<N*((q.y:Int)-p.y)-(q.x-p.x):=by rw[BO,BO];omega
 have f1:=aix e1 a1 a2;have f2:=aix e2 a1 a2;have bx:between p.x q.x r.x=true:=by clear fr e1 e2 a1 a2 h1 h2 hki hkj t0 t1 f2;unfold between;simp only[Ar,Ap];omega
 have by':between p.y q.y r.y=true:=by clear fr e1 e2 a1 a2 h1 h2 hki hkj t0 t1 f1 bx;unfold between;simp only[Ar,Ap];omega
 have bx2:between q.x p.x r.x=true:=by clear fr e1 e2 a1 a2 h1 h2 hki hkj t0 t1 f2 bx by';unfold between;simp only[Ar,Ap];omega
 have by2:between q.y p.y r.y=true:=by clear fr e1 e2 a1 a2 h1 h2 hki hkj t0 t1 f1 bx by' bx2;unfold between;simp only[Ar,Ap];omega
 rcases fr with z|z
 ·unfold isOn at z;rw[t0,bx,by'] at z;simp at z
 ·unfold isOn at z;rw[t1,bx2,by2] at z;simp at z
theorem yJ{i j k l:Nat}(h:(i,j)∈ways S)(h':(k,l)∈ways S):¬nQ (posOf S (S.pt i)) (posOf S (S.pt j)) (posOf S (S.pt k)) (posOf S (S.pt l)):=by
 intro ⟨c1,c2⟩;rw[si,si] at c1 c2;have kp:=rF S;have sc:∀a b:Int,2*NN S*a*(2*NN S*b)=(2*NN S)*(2*NN S)*(a*b):=by intro a b;grind
 rw[sc] at c1 c2;have pp:0<(2*NN S)*(2*NN S):=A8 (by omega) (by omega);have d1:=aU (by rw[A9];exact c1) pp;have d2:=aU (by rw[A9];exact c2) pp;have sw:=j9;have key:∀{a b c d:Nat},(a,b)∈S.lines→(c,d)∈S.lines→turn (S.pt a) (S.pt b) (S.pt c)*turn (S.pt a) (S.pt b) (S.pt d)<0→turn (S.pt c) (S.pt d) (S.pt a)*turn (S.pt c) (S.pt d) (S.pt b)<0→False:=by
  intro a b c d h1 h2 e1 e2;have:=R.apart h1 h2;unfold crosses at this;rw[Ak e1,Ak e2] at this;cases this
 rcases R.dC.mp h with z|z <;> rcases R.dC.mp h' with y|y
 ·exact key z y d1 d2
 ·refine key z y (by rw[A9];exact d1) ?_
  rw[sw (S.pt k),sw (S.pt k),CC];exact d2
 ·refine key z y ?_ (by rw[A9];exact d2)
  rw[sw (S.pt i),sw (S.pt i),CC];exact d1
 ·refine key z y ?_ ?_
  ·rw[sw (S.pt i),sw (S.pt i),CC,A9];exact d1
  ·rw[sw (S.pt k),sw (S.pt k),CC,A9];exact d2
theorem ok0:(aq S).Ok0 where
 nod:=R.wj
 sym:=fun h=>R.dC.mpr ((R.dC.mp h).symm)
 lt:=fun h=>⟨(R.bF h).1,(R.bF h).2.1⟩
 ne:=fun h=>(R.bF h).2.2
 inj:=fun hi hj e=>R.qB hi hj (o9 (R.pl hi).1 (R.pl hj).1 e)
 on:=fun h hk h1 h2 e=>R.agH h hk h1 h2 ((dM ..).2.2.mp e)
 cr:=fun h h'=>R.yJ h h'
omit R in
theorem adB{p q r:Pt}(hn1:(posOf S p).h≠(posOf S q).h)(hn2:(posOf S p).h≠(posOf S r).h):half (dx p q,dy p q) (dx p r,dy p r) =
  if tn (posOf S p) (posOf S q) (posOf S r)<0 then 0 else if 0<tn (posOf S p) (posOf S q) (posOf S r) then 2 else if ((posOf S p).h<(posOf S q).h↔(posOf S p).h<(posOf S r).h) then 3 else 1:=by
 unfold half;dsimp only;obtain⟨s1,s2,_⟩:=dM S p q r;have tc:dx p q*dy p r-dy p q*dx p r=turn p q r:=by unfold turn dx dy;grind
 rw[tc]
 by_cases c1:turn p q r<0
 ·rw[Ag c1,Ag (s2.mpr c1)]
 ·rw[Ad c1,Ad fun z=>c1 (s2.mp z)]
  by_cases c2:0<turn p q r
  ·rw[Ag c2,Ag (s1.mpr c2)]
  ·rw[Ad c2,Ad fun z=>c2 (s1.mp z)]
   have t0:turn p q r=0:=by omega
   have kN:=rF S;have ms1:=BO (NN S) (q.y:Int) p.y;have ms2:=BO (NN S) (r.y:Int) p.y;have ca:((posOf S p).h<(posOf S q).h)↔0<(NN S*((q.y:Int)-p.y)-(q.x-p.x)):=by clear s1 s2 c1 c2 hn1 hn2 tc t0 ms2;unfold posOf;dsimp only;omega
   have cb:((posOf S p).h<(posOf S r).h)↔0<(NN S*((r.y:Int)-p.y)-(r.x-p.x)):=by clear s1 s2 c1 c2 hn1 hn2 tc t0 ms1 ca;unfold posOf;dsimp only;omega
   have A0:(NN S*((q.y:Int)-p.y)-(q.x-p.x))≠0:=by clear s1 s2 c1 c2 hn2 tc t0 ms2 ca cb;unfold posOf at hn1;dsimp only at hn1;omega
   have B0:(NN S*((r.y:Int)-p.y)-(r.x-p.x))≠0:=by clear s1 s2 c1 c2 hn1 tc t0 ms1 ca cb A0;unfold posOf at hn2;dsimp only at hn2;omega
   clear ms1 ms2;generalize NN S=N at *
   have ea:(N*(q.y-p.y)-(q.x-p.x))*dx p r=(N*(r.y-p.y)-(r.x-p.x))*dx p q:=by unfold turn dx dy at *;grind
   have eb:(N*(q.y-p.y)-(q.x-p.x))*dy p r=(N*(r.y-p.y)-(r.x-p.x))*dy p q:=by unfold turn dx dy at *;grind
   have dne:0<dx p q*dx p q+dy p q*dy p q:=by
    have q1:0≤dx p q*dx p q:=by
     rcases Int.le_total 0 (dx p q) with z|z
     ·exact A6 z z
     ·exact Cn z z
    have q2:0≤dy p q*dy p q:=by
     rcases Int.le_total 0 (dy p q) with z|z
     ·exact A6 z z
     ·exact Cn z z
    refine Int.not_le.mp fun z => ?_;have z1:dx p q=0:=by
     have:dx p q*dx p q=0:=by omega
     rcases Int.mul_eq_zero.mp this with w|w <;> exact w
    have z2:dy p q=0:=by
     have:dy p q*dy p q=0:=by omega
     rcases Int.mul_eq_zero.mp this with w|w <;> exact w
    unfold dx at z1;unfold dy at z2
    apply A0
    rw[z1,z2];simp
   have ed:(N*(q.y-p.y)-(q.x-p.x))*(dx p q*dx p r+dy p q*dy p r)=(N*(r.y-p.y)-(r.x-p.x))*(dx p q*dx p q+dy p q*dy p q):=by
    have:(N*(q.y-p.y)-(q.x-p.x))*(dx p q*dx p r+dy p q*dy p r)=dx p q*((N*(q.y-p.y)-(q.x-p.x))*dx p r)+dy p q*((N*(q.y-p.y)-(q.x-p.x))*dy p r):=by grind
    rw[this,ea,eb];grind
   generalize (N*((q.y:Int)-p.y)-(q.x-p.x))=A at *
   generalize (N*((r.y:Int)-p.y)-(r.x-p.x))=B at *
   generalize dx p q*dx p r+dy p q*dy p r=C at *
   generalize dx p q*dx p q+dy p q*dy p q=D at *
   clear ea eb tc s1 s2 hn1 hn2
   by_cases a:0<A <;> by_cases b:0<B
   ·have:=A8 b dne
    have c:¬C<0:=fun z=>by have:=cK a z;omega
    rw[Ad c,Ag (by rw[ca,cb];omega)]
   ·have:=cg (a:=B) (by omega) dne
    have c:C<0:=aU (b:=A) (by rw[A9];omega) a;rw[Ag c,Ad (by rw[ca,cb];omega)]
   ·have:=A8 b dne
    have c:C<0:=Int.not_le.mp fun z=>by
     have:=BB (a:=A) (by omega) z;omega
    rw[Ag c,Ad (by rw[ca,cb];omega)]
   ·have:=cg (a:=B) (by omega) dne
    have c:¬C<0:=fun z=>by
     have:=mI (a:=A) (by omega) z;omega
    rw[Ad c,Ag (by rw[ca,cb];omega)]
theorem aaf{v u j:Nat}(hu:(v,u)∈ways S)(hj:(v,j)∈ways S):half (dir S v u) (dir S v j)=(aq S).hf v u j:=by
 have ne1:S.pt v≠S.pt u:=fun e=>(R.bF hu).2.2 (R.qB (R.bF hu).1 (R.bF hu).2.1 e);have ne2:S.pt v≠S.pt j:=fun e=>(R.bF hj).2.2 (R.qB (R.bF hj).1 (R.bF hj).2.1 e);have xv:=(R.pl (R.bF hu).1).1;have xu:=(R.pl (R.bF hu).2.1).1;have xj:=(R.pl (R.bF hj).2.1).1;exact adB (fun e=>ne1 (o9 xv xu e)) (fun e=>ne2 (o9 xv xj e))
theorem fe{v u a b:Nat}(hu:(v,u)∈ways S)(ha:(v,a)∈ways S)(hb:(v,b)∈ways S):sooner (dir S v u) (dir S v a) (dir S v b)=true↔(aq S).snr v u a b:=by
 unfold sooner Net.snr;rw[R.aaf hu ha,R.aaf hu hb];have tc:(dir S v a).1*(dir S v b).2-(dir S v a).2*(dir S v b).1=turn (S.pt v) (S.pt a) (S.pt b):=by unfold dir turn dx dy;grind
 rw[tc];obtain⟨_,s2,_⟩:=dM S (S.pt v) (S.pt a) (S.pt b);simp only[BU,Ar,Ap,Cm];rw[← s2];exact Iff.rfl
omit R in
theorem mO{α:Type}{lt:α→α→Bool}{P:α→Prop}(tr:∀a b c,P a→P b→P c→lt a b=true→lt b c=true→lt a c=true) :
  ∀(l:List α) (a:α),P a→(∀b∈l,P b)→P (l.foldl (fun a b=>if lt b a=true then b else a) a) ∧
   (l.foldl (fun a b=>if lt b a=true then b else a) a=a∨lt (l.foldl (fun a b=>if lt b a=true then b else a) a) a=true):=by
 intro l
 induction l with
 | nil=>intro a ha _;exact⟨ha,.inl rfl⟩
 | cons d s ih =>
  intro a ha hs;rw[Bk];have hd:=hs d (Ah ..);have hs':=fun b hb=>hs b (Af d hb)
  by_cases k:lt d a=true
  ·rw[Ag k]
   obtain⟨h1,h2⟩:=ih d hd hs';refine⟨h1,?_⟩;rcases h2 with z|z
   ·rw[z];exact .inr k
   ·exact .inr (tr _ d a h1 hd ha z k)
  ·rw[Ad k]
   exact ih a ha hs'
omit R in
theorem fold_min{α:Type}{lt:α→α→Bool}{P:α→Prop}(tr:∀a b c,P a→P b→P c→lt a b=true→lt b c=true→lt a c=true)(ir:∀a,P a→lt a a=false) :
  ∀(l:List α) (a:α),P a→(∀b∈l,P b)→lt a (l.foldl (fun a b=>if lt b a=true then b else a) a)=false∧∀b∈l,lt b (l.foldl (fun a b=>if lt b a=true then b else a) a)=false:=by
 intro l
 induction l with
 | nil=>intro a ha _;exact⟨ir a ha,fun _ h=>nomatch h⟩
 | cons c r ih =>
  intro a ha h;have hc:=h c (Ah ..);have hr:=fun b hb=>h b (Af c hb);rw[Bk]
  by_cases k:lt c a=true
  ·rw[Ag k]
   obtain⟨h3,h4⟩:=ih c hc hr;obtain⟨h1,h2⟩:=mO tr r c hc hr;refine⟨?_,?_⟩
   ·cases z:lt a (r.foldl (fun a b=>if lt b a=true then b else a) c) with
    | false=>rfl
    | true=>rw[tr c a _ hc ha h1 k z] at h3;cases h3
   ·intro b hb
    rcases List.mem_cons.mp hb with z|z
    ·rw[z];exact h3
    ·exact h4 b z
  ·rw[Ad k]
   obtain⟨h3,h4⟩:=ih a ha hr;obtain⟨h1,h2⟩:=mO tr r a ha hr;refine⟨h3,?_⟩;intro b hb;rcases List.mem_cons.mp hb with z|z
   ·rw[z]
    cases w:lt c (r.foldl (fun a b=>if lt b a=true then b else a) a) with
    | false=>rfl
    | true =>
     exfalso
     rcases h2 with y|y
     ·rw[y] at w;exact k w
     ·exact k (tr c _ a hc h1 ha w y)
   ·exact h4 b z
theorem oU{u v:Nat}(h:(u,v)∈ways S):(v,S.next u v)∈ways S∧∀j,(v,j)∈ways S→¬(aq S).snr v u j (S.next u v):=by
 have O0:=R.ok0;have hu:(v,u)∈ways S:=O0.sym h;have un:u∈S.near v:=R.cU.mpr hu;have all:∀j∈S.near v,(v,j)∈ways S:=fun j hj=>R.cU.mp hj;have all':∀j,(v,j)∈ways S→j∈S.near v:=fun j hj=>R.cU.mpr hj;unfold Plan.next;cases e:S.near v with
 | nil=>rw[e] at un;cases un
 | cons k r =>
  rw[e] at all all';have tr:∀a b c,(v,a)∈ways S→(v,b)∈ways S→(v,c)∈ways S→sooner (dir S v u) (dir S v a) (dir S v b)=true→sooner (dir S v u) (dir S v b) (dir S v c)=true→sooner (dir S v u) (dir S v a) (dir S v c)=true :=
   fun a b c ha hb hc h1 h2=>(R.fe hu ha hc).mpr (O0.mR hu ha hb hc ((R.fe hu ha hb).mp h1) ((R.fe hu hb hc).mp h2))
  have fk:=(mO (lt:=fun a b=>sooner (dir S v u) (dir S v a) (dir S v b)) (P:=fun j=>(v,j)∈ways S) tr r k (all k (Ah ..)) fun b hb=>all b (Af _ hb)).1;have fm:=fold_min (lt:=fun a b=>sooner (dir S v u) (dir S v a) (dir S v b)) (P:=fun j=>(v,j)∈ways S) tr
   (fun a ha=>by
    cases z:sooner (dir S v u) (dir S v a) (dir S v a) with
    | false=>rfl
    | true=>exact absurd ((R.fe hu ha ha).mp z) Net.Ok0.p3)
   r k (all k (Ah ..)) fun b hb=>all b (Af _ hb)
  dsimp only at fm fk ⊢;refine⟨fk,fun j hj z => ?_⟩;have z':=(R.fe hu hj fk).mpr z;rcases List.mem_cons.mp (all' j hj) with y|y
  ·rw[y] at z'
   have:=fm.1;rw[z'] at this;cases this
  ·have:=fm.2 j y
   rw[z'] at this;cases this
theorem ok:(aq S).Ok where
 toOk0:=R.ok0
 nxm:=fun h=>(R.oU h).1
 nxs:=fun h hj=>(R.oU h).2 _ hj
end Rules
def ag4(A B:Nat→Prop)(n:Nat)(todo:List Nat)(seen:Array Bool):Prop :=
 seen.size=n∧(∀k∈todo,A k)∧(∀i,i<n→seen.getD i false=true→A i∨B i)∧(∀i,B i→seen.getD i true=true)
theorem o6{A B:Nat→Prop}{n:Nat}:∀(l:List Nat) (todo:List Nat) (seen:Array Bool),(∀j∈l,¬B j→A j)→ag4 A B n todo seen →
  let z:=l.foldl (fun(a:List Nat×Array Bool) (j:Nat)=>if a.2.getD j true=true then a else (j::a.1,a.2.setIfInBounds j true)) (todo,seen)
  ag4 A B n z.1 z.2
 | [],todo,seen,_,h=>h
 | j::r,todo,seen,hl,h=>by
  have hr:∀j∈r,¬B j→A j:=fun k hk=>hl k (Af _ hk);dsimp only;rw[Bk];dsimp only
  by_cases c:seen.getD j true=true
  ·rw[Ag c]
   exact o6 r todo seen hr h
  ·rw[Ad c]
   refine o6 r _ _ hr ?_;obtain⟨h1,h2,h3,h4⟩:=h;have nb:¬B j:=fun b=>c (h4 j b);have aj:=hl j (Ah ..) nb;refine⟨by rw[Ba];exact h1,?_,?_,?_⟩
   ·intro k hk
    rcases List.mem_cons.mp hk with e|e
    ·rw[e];exact aj
    ·exact h2 k e
   ·intro i hi hs
    by_cases e:i=j
    ·rw[e];exact .inl aj
    ·refine h3 i hi ?_
     rw[An,AD (Ne.symm e)] at hs;rw[An];exact hs
   ·intro i hb
    have e:i≠j:=fun e=>nb (e▸hb);rw[An,AD (Ne.symm e),← An];exact h4 i hb
theorem kE{A B:Nat→Prop}{n:Nat}{near:Array (List Nat)}(st:∀k j,A k→j∈near.getD k []→¬B j→A j):∀(m:Nat) (todo:List Nat) (seen:Array Bool),
  ag4 A B n todo seen→ag4 A B n [] (spread near m todo seen)
 | 0,todo,seen,h=>⟨h.1,fun _ z=>(nomatch z),h.2.2.1,h.2.2.2⟩
 | m+1,[],seen,h=>h
 | m+1,k::r,seen,h=>by
  unfold spread;dsimp only;refine kE st m _ _ (o6 _ _ _ (fun j hj nb=>st k j (h.2.1 k (Ah ..)) hj nb) ?_);exact⟨h.1,fun j hj=>h.2.1 j (Af _ hj),h.2.2.1,h.2.2.2⟩
theorem oG{J:Nat→Nat→Bool}:∀{E:List Nat},E.Pairwise (· < ·)→((E.zip (E.drop 1)).all fun(x:Nat×Nat)=>J x.1 x.2)=true→∀{v x:Nat},v∈E→x∈E→v<x→∃k∈E,v<k∧J v k=true
 | [],_,_,_,_,hv,_,_=>nomatch hv
 | [a],_,_,v,x,hv,hx,lt=>by
  rw[BQ] at hv hx;omega
 | a::b::r,hp,hc,v,x,hv,hx,lt=>by
  rw[CL] at hp;have hc':(J a b&&((b::r).zip r).all fun(x:Nat×Nat)=>J x.1 x.2)=true:=hc;rw[Ar] at hc';rcases List.mem_cons.mp hv with e|e
  ·subst e
   exact⟨b,Af _ (Ah ..),hp.1 b (Ah ..),hc'.1⟩
  ·have hx':x∈b::r:=by
    rcases List.mem_cons.mp hx with z|z
    ·have:=hp.1 v e;omega
    ·exact z
   obtain⟨k,h1,h2,h3⟩:=oG (J:=J) hp.2 hc'.2 e hx' lt;exact⟨k,Af _ h1,h2,h3⟩
theorem nZ{J:Nat→Nat→Bool}:∀{E:List Nat},E.Pairwise (· < ·)→((E.zip (E.drop 1)).all fun(x:Nat×Nat)=>J x.1 x.2)=true→∀{v x:Nat},v∈E→x∈E→x<v→∃k∈E,k<v∧J k v=true
 | [],_,_,_,_,hv,_,_=>nomatch hv
 | [a],_,_,v,x,hv,hx,lt=>by
  rw[BQ] at hv hx;omega
 | a::b::r,hp,hc,v,x,hv,hx,lt=>by
  rw[CL] at hp;have hc':(J a b&&((b::r).zip r).all fun(x:Nat×Nat)=>J x.1 x.2)=true:=hc;rw[Ar] at hc';rcases List.mem_cons.mp hv with e|e
  ·subst e
   rcases List.mem_cons.mp hx with z|z
   ·omega
   ·have:=hp.1 x z;omega
  ·by_cases vb:v=b
   ·subst vb
    exact⟨a,Ah ..,hp.1 v (Ah ..),hc'.1⟩
   ·have h2:=List.pairwise_cons.mp hp.2
    have vr:v∈r:=by
     rcases List.mem_cons.mp e with z|z
     ·exact absurd z vb
     ·exact z
    obtain⟨k,h1,h2,h3⟩:=nZ (J:=J) hp.2 hc'.2 e (Ah ..) (h2.1 v vr);exact⟨k,Af _ h1,h2,h3⟩
theorem l9{J:Nat→Nat→Bool}{hh:Nat→Int}{t:Int}:∀{E:List Nat} {a:Nat},(((a::E).zip E).all fun(x:Nat×Nat)=>J x.1 x.2)=true→(∀x∈E,hh x≠t)→hh a<t→(∃x∈E,t<hh x) →
  ∃c d,c∈a::E∧d∈a::E∧J c d=true∧hh c<t∧t<hh d
 | [],_,_,_,_,⟨_,hx,_⟩=>nomatch hx
 | b::r,a,hc,hn,ha,⟨x,hx,tx⟩=>by
  have hc':(J a b&&((b::r).zip r).all fun(x:Nat×Nat)=>J x.1 x.2)=true:=hc;rw[Ar] at hc'
  by_cases hb:t<hh b
  ·exact⟨a,b,Ah ..,Af _ (Ah ..),hc'.1,ha,hb⟩
  ·have nb:=hn b (Ah ..)
   have xr:x∈r:=by
    rcases List.mem_cons.mp hx with z|z
    ·rw[z] at tx;omega
    ·exact z
   obtain⟨c,d,h1,h2,h3⟩:=l9 (J:=J) (hh:=hh) (t:=t) hc'.2 (fun x hx=>hn x (Af _ hx)) (by omega) ⟨x,xr,tx⟩;exact⟨c,d,Af _ h1,Af _ h2,h3⟩
namespace Rules
variable {S:Plan}(R:Rules S)
include R
theorem rA{k j:Nat}(h:j∈S.nears.getD k []):(k,j)∈ways S:=by
 unfold Plan.nears at h;rw[An] at h;simp only[Dz,Am] at h
 by_cases hk:k<S.pts.length
 ·rw[AN hk] at h
  exact R.cU.mp h
 ·rw[AA (by rw[Au];omega)] at h
  cases h
theorem conn:(aq S).aeN where
 all:=fun P p0 st i hi=>by
  have inv:=kE (A:=P) (B:=fun _=>False) (n:=S.pts.length) (near:=S.nears) (fun k j hk hj _=>st k j (R.rA hj) hk) (S.pts.length+1) [0] ((noneSeen S.pts.length).setIfInBounds 0 true) (by
   refine⟨by rw[Ba];unfold noneSeen;rw[By],fun k hk=>by rw[BQ] at hk;rw[hk];exact p0,fun i hi hs => ?_,fun _ z=>z.elim⟩
   by_cases e:i=0
   ·rw[e];exact .inl p0
   ·rw[An,AD (Ne.symm e)] at hs
    unfold noneSeen at hs;rw[Cg,Ag hi] at hs;cases hs)
  have r9:=R.r9;rw[Bg] at r9;have:=r9 i (List.mem_range.mpr hi);simp only[AB,CM] at this;rcases inv.2.2.1 i hi this with z|z
  ·exact z
  ·exact z.elim
 but:=fun p hp P p0 st i hi ip=>by
  have s0:(if p=0 then 1 else 0)≠p:=by split <;> omega
  have inv:=kE (A:=fun i=>i≠p∧P i) (B:=fun i=>i=p) (n:=S.pts.length) (near:=S.nears) (fun k j hk hj nb=>⟨nb,st k j (R.rA hj) hk.1 nb hk.2⟩) (S.pts.length+1) [if p=0 then 1 else 0]
   (((noneSeen S.pts.length).setIfInBounds p true).setIfInBounds (if p=0 then 1 else 0) true) (by
   refine⟨by rw[Ba,Ba];unfold noneSeen;rw[By],fun k hk=>by rw[BQ] at hk;rw[hk];exact⟨s0,p0⟩,fun i hi hs => ?_,fun i z => ?_⟩
   ·by_cases e:i=(if p=0 then 1 else 0)
    ·rw[e];exact .inl ⟨s0,p0⟩
    ·rw[An,AD (Ne.symm e)] at hs
     by_cases e2:i=p
     ·exact .inr e2
     ·rw[AD (Ne.symm e2)] at hs
      unfold noneSeen at hs;rw[Cg,Ag hi] at hs;cases hs
   ·rw[z,An,AD s0,Be (by unfold noneSeen;rw[By];exact hp)]
    rfl)
  have r10:=R.r10;rw[Bg] at r10;have:=r10 p (List.mem_range.mpr hp);unfold cuts seenFrom at this;have sz:=inv.1;have t:(spread S.nears (S.pts.length+1) [if p=0 then 1 else 0] (((noneSeen S.pts.length).setIfInBounds p true).setIfInBounds (if p=0 then 1 else 0) true)).getD i false=true:=by
   rw[An];rw[BE (by rw[sz];exact hi)];cases z:(spread S.nears (S.pts.length+1) [if p=0 then 1 else 0] (((noneSeen S.pts.length).setIfInBounds p true).setIfInBounds (if p=0 then 1 else 0) true))[i]'(by rw[sz];exact hi) with
   | true=>rfl
   | false =>
    exfalso
    apply this
    rw[Cy,← z];exact Array.getElem_mem _
  rcases inv.2.2.1 i hi t with z|z
  ·exact z.2
  ·exact absurd z ip
include R
theorem jF{p:Pt}(h:S.pts.contains p=true):∃i,i<S.pts.length∧S.pt i=p:=by
 rw[C2] at h;obtain⟨i,hi,e⟩:=List.mem_iff_getElem.mp h;exact⟨i,hi,by rw[R.aaY hi,e]⟩
theorem frame:(∃i,i<S.pts.length∧S.pt i=⟨0,0⟩)∧(∃i,i<S.pts.length∧S.pt i=⟨S.w,0⟩)∧(∃i,i<S.pts.length∧S.pt i=⟨0,S.h⟩)∧(∃i,i<S.pts.length∧S.pt i=⟨S.w,S.h⟩) ∧
  chained S (edgePts S fun(p:Pt)=>p.y==0)=true∧chained S (edgePts S fun(p:Pt)=>p.y==S.h)=true∧chained S (edgePts S fun(p:Pt)=>p.x==0)=true∧chained S (edgePts S fun(p:Pt)=>p.x==S.w)=true:=by
 have:=R.r6;unfold frameOk at this;simp only[Ar] at this;obtain⟨a,b,c,d,e⟩:=this;exact⟨R.jF a,R.jF b,R.jF c,R.jF d,e⟩
theorem kz{i j:Nat}(h:S.joined i j=true):(i,j)∈ways S:=by
 unfold Plan.joined at h;rw[C2] at h;have:=R.ln h;dsimp only at this;rw[R.dC]
 by_cases c:i≤j
 ·rw[B2 c,Dk c] at h;exact .inl h
 ·rw[BL (by omega),Nat.max_eq_left (by omega)] at h;exact .inr h
omit R in
theorem iL(on:Pt→Bool):(edgePts S on).Pairwise (· < ·):=by
 unfold edgePts;exact List.Pairwise.filter _ B5
omit R in
theorem cB{on:Pt→Bool}{i:Nat}:i∈edgePts S on↔i<S.pts.length∧on (S.pt i)=true:=by
 unfold edgePts;rw[AY,AZ]
theorem mQ{on:Pt→Bool}(hc:chained S (edgePts S on)=true){v x:Nat}(hv:v<S.pts.length)(ov:on (S.pt v)=true)(hx:x<S.pts.length)(ox:on (S.pt x)=true)(lt:v<x) :
  ∃k,k<S.pts.length∧on (S.pt k)=true∧v<k∧(v,k)∈ways S:=by
 obtain⟨k,h1,h2,h3⟩:=oG (J:=S.joined) (iL on) hc (cB.mpr ⟨hv,ov⟩) (cB.mpr ⟨hx,ox⟩) lt;exact⟨k,(cB.mp h1).1,(cB.mp h1).2,h2,R.kz h3⟩
theorem l7{on:Pt→Bool}(hc:chained S (edgePts S on)=true){v x:Nat}(hv:v<S.pts.length)(ov:on (S.pt v)=true)(hx:x<S.pts.length)(ox:on (S.pt x)=true)(lt:x<v) :
  ∃k,k<S.pts.length∧on (S.pt k)=true∧k<v∧(v,k)∈ways S:=by
 obtain⟨k,h1,h2,h3⟩:=nZ (J:=S.joined) (iL on) hc (cB.mpr ⟨hv,ov⟩) (cB.mpr ⟨hx,ox⟩) lt;exact⟨k,(cB.mp h1).1,(cB.mp h1).2,h2,R.ok0.sym (R.kz h3)⟩
theorem ae1{i j:Nat}(hi:i<S.pts.length)(hj:j<S.pts.length)(h:(S.pt i).y<(S.pt j).y∨((S.pt i).y=(S.pt j).y∧(S.pt i).x<(S.pt j).x)):i<j:=by
 rcases Bd i j with z|z|z
 ·exact z
 ·rw[z] at h;omega
 ·have:=R.po z hi;omega
theorem wA{i j:Nat}:(aq S).Q (i,j)↔∀r,r<S.pts.length→turn (S.pt i) (S.pt j) (S.pt r)≤0:=by
 constructor
 ·intro h r hr
  have:=h r hr;refine Int.not_lt.mp fun z => ?_;have:=(dM S (S.pt i) (S.pt j) (S.pt r)).1.mpr z;have:=h r hr;unfold Net.t aq at this;dsimp only at this;omega
 ·intro h r hr
  refine Int.not_lt.mp fun z => ?_;have:=(dM S (S.pt i) (S.pt j) (S.pt r)).1.mp z;have:=h r hr;omega
omit R in
theorem cO(p q r:Pt):turn p q r=((q.x:Int)-p.x)*((r.y:Int)-q.y)-((q.y:Int)-p.y)*((r.x:Int)-q.x):=rfl
theorem zI:∀e∈(aq S).W,(aq S).Q e→∃k,(e.2,k)∈(aq S).W∧(aq S).Q (e.2,k):=by
 rintro⟨u,v⟩ he q;show ∃k,(v,k)∈ways S∧(aq S).Q (v,k);have hu:=(R.bF he).1;have hv:=(R.bF he).2.1;have ne:S.pt u≠S.pt v:=fun e=>(R.bF he).2.2 (R.qB hu hv e);rw[R.wA] at q;obtain⟨⟨i0,l0,e0⟩,⟨i1,l1,e1⟩,⟨i2,l2,e2⟩,⟨i3,l3,e3⟩,cb,ct,cl,cr⟩:=R.frame;have q0:=q i0 l0;have q1:=q i1 l1;have q2:=q i2 l2;have q3:=q i3 l3;rw[e0,cO] at q0;rw[e1,cO] at q1;rw[e2,cO] at q2;rw[e3,cO] at q3;dsimp only at q0 q1 q2 q3;have pu:=R.pl hu;have pv:=R.pl hv;have w1:=R.w1;have hh1:=R.h1;have il:=fun{i j} hi hj h=>R.ae1 (i:=i) (j:=j) hi hj h;have up:∀k,k<S.pts.length→(S.pt k).x=0→(S.pt v).x=0→(S.pt v).y<(S.pt k).y→(aq S).Q (v,k):=by
  intro k hk xk xv lt;rw[R.wA];intro r hr;rw[cO,xk,xv];have:=A6 (show(0:Int)≤((S.pt k).y:Int)-(S.pt v).y by omega) (show(0:Int)≤((S.pt r).x:Int) by omega);have e:((0:Nat):Int)=0:=rfl;rw[CI,Bw,e,CH];omega
 have right:∀k,k<S.pts.length→(S.pt k).y=S.h→(S.pt v).y=S.h→(S.pt v).x<(S.pt k).x→(aq S).Q (v,k):=by
  intro k hk yk yv lt;rw[R.wA];intro r hr;rw[cO,yk,yv];have:=R.pl hr;have:=A6 (show(0:Int)≤((S.pt k).x:Int)-(S.pt v).x by omega) (show(0:Int)≤(S.h:Int)-(S.pt r).y by omega);rw[CI,Bw,CH];have e:(((S.pt k).x:Int)-(S.pt v).x)*(((S.pt r).y:Int)-S.h) = - ((((S.pt k).x:Int)-(S.pt v).x)*((S.h:Int)-(S.pt r).y)):=by grind
  omega
 have down:∀k,k<S.pts.length→(S.pt k).x=S.w→(S.pt v).x=S.w→(S.pt k).y<(S.pt v).y→(aq S).Q (v,k):=by
  intro k hk xk xv lt;rw[R.wA];intro r hr;rw[cO,xk,xv];have:=R.pl hr;have:=A6 (show(0:Int)≤((S.pt v).y:Int)-(S.pt k).y by omega) (show(0:Int)≤(S.w:Int)-(S.pt r).x by omega);rw[CI,Bw];have e:(((S.pt k).y:Int)-(S.pt v).y)*(((S.pt r).x:Int)-S.w)=(((S.pt v).y:Int)-(S.pt k).y)*((S.w:Int)-(S.pt r).x):=by grind
  omega
 have left:∀k,k<S.pts.length→(S.pt k).y=0→(S.pt v).y=0→(S.pt k).x<(S.pt v).x→(aq S).Q (v,k):=by
  intro k hk yk yv lt;rw[R.wA];intro r hr;rw[cO,yk,yv];have:=A6 (show(0:Int)≤((S.pt v).x:Int)-(S.pt k).x by omega) (show(0:Int)≤((S.pt r).y:Int) by omega);rw[CI,Bw,CH];have e:(((S.pt k).x:Int)-(S.pt v).x)*(((S.pt r).y:Int)-((0:Nat):Int)) = - ((((S.pt v).x:Int)-(S.pt k).x)*((S.pt r).y:Int)):=by
   have:((0:Nat):Int)=0:=rfl;rw[this];grind
  omega
 have goUp:(S.pt v).x=0→((S.pt v).y<S.h∨(S.pt v).y=S.h)→∃k,(v,k)∈ways S∧(aq S).Q (v,k):=by
  intro xv c;rcases c with c|c
  ·obtain⟨k,hk,ok,lt,wk⟩:=R.mQ cl hv (by rw[xv];rfl) l2 (by rw[e2];rfl) (il hv l2 (by rw[e2];exact .inl c))
   have xk:(S.pt k).x=0:=by simpa using ok
   exact⟨k,wk,up k hk xk xv (by have:=R.po lt hk;omega)⟩
  ·obtain⟨k,hk,ok,lt,wk⟩:=R.mQ ct hv (by rw[c];simp) l3 (by rw[e3];simp) (il hv l3 (by rw[e3];exact .inr ⟨c,by dsimp only;omega⟩))
   have yk:(S.pt k).y=S.h:=by simpa using ok
   exact⟨k,wk,right k hk yk c (by have:=R.po lt hk;omega)⟩
 have goDown:(S.pt v).x=S.w→(0<(S.pt v).y∨(S.pt v).y=0)→∃k,(v,k)∈ways S∧(aq S).Q (v,k):=by
  intro xv c;rcases c with c|c
  ·obtain⟨k,hk,ok,lt,wk⟩:=R.l7 cr hv (by rw[xv];simp) l1 (by rw[e1];simp) (il l1 hv (by rw[e1];exact .inl c))
   have xk:(S.pt k).x=S.w:=by simpa using ok
   exact⟨k,wk,down k hk xk xv (by have:=R.po lt hv;omega)⟩
  ·obtain⟨k,hk,ok,lt,wk⟩:=R.l7 cb hv (by rw[c];rfl) l0 (by rw[e0];rfl) (il l0 hv (by rw[e0];exact .inr ⟨c.symm,by dsimp only;omega⟩))
   have yk:(S.pt k).y=0:=by simpa using ok
   exact⟨k,wk,left k hk yk c (by have:=R.po lt hv;omega)⟩
 have goRight:(S.pt v).y=S.h→((S.pt v).x<S.w∨(S.pt v).x=S.w)→∃k,(v,k)∈ways S∧(aq S).Q (v,k):=by
  intro yv c;rcases c with c|c
  ·obtain⟨k,hk,ok,lt,wk⟩:=R.mQ ct hv (by rw[yv];simp) l3 (by rw[e3];simp) (il hv l3 (by rw[e3];exact .inr ⟨yv,c⟩))
   have yk:(S.pt k).y=S.h:=by simpa using ok
   exact⟨k,wk,right k hk yk yv (by have:=R.po lt hk;omega)⟩
  ·exact goDown c (by omega)
 have goLeft:(S.pt v).y=0→(0<(S.pt v).x∨(S.pt v).x=0)→∃k,(v,k)∈ways S∧(aq S).Q (v,k):=by
  intro yv c;rcases c with c|c
  ·obtain⟨k,hk,ok,lt,wk⟩:=R.l7 cb hv (by rw[yv];rfl) l0 (by rw[e0];rfl) (il l0 hv (by rw[e0];exact .inr ⟨yv.symm,c⟩))
   have yk:(S.pt k).y=0:=by simpa using ok
   exact⟨k,wk,left k hk yk yv (by have:=R.po lt hv;omega)⟩
  ·exact goUp c (by omega)
 have zz:((0:Nat):Int)=0:=rfl;rw[zz] at q0 q1 q2;generalize S.pt u=p at *
 generalize S.pt v=o at *
 have nn:∀{a b:Int},0≤a→0≤b→0≤a*b:=fun h1 h2=>A6 h1 h2;have ng:∀a b:Int,a*(0-b) = - (a*b):=by intro a b;grind
 rw[ng,ng] at q0;rw[ng] at q1 q2;rcases BX ((o.x:Int)-p.x) 0 with a|a|a <;> rcases BX ((o.y:Int)-p.y) 0 with b|b|b
 ·
  exfalso
  have m1:=nn (show 0 ≤ - ((o.x:Int)-p.x) by omega) (show(0:Int)≤(o.y:Int) by omega);have m2:0<(- ((o.y:Int)-p.y))*((S.w:Int)-o.x):=A8 (by omega) (by omega);rw[B7] at m1 m2;omega
 ·
  rw[b,Bw] at q0;have oy:o.y=0:=by
   refine Classical.byContradiction fun z => ?_;have:=A8 (show 0 < - ((o.x:Int)-p.x) by omega) (show(0:Int)<(o.y:Int) by omega);rw[B7] at this;omega
  exact goLeft oy (by omega)
 ·exfalso
  have m1:=nn (show 0 ≤ - ((o.x:Int)-p.x) by omega) (show(0:Int)≤(o.y:Int) by omega);have m3:0<(- ((o.x:Int)-p.x))*(o.y:Int):=A8 (by omega) (by omega);have m2:=nn (show 0≤((o.y:Int)-p.y) by omega) (show(0:Int)≤(o.x:Int) by omega);rw[B7] at m3;omega
 ·rw[a,Bw] at q1
  have ox:o.x=S.w:=by
   refine Classical.byContradiction fun z => ?_;have:=A8 (show 0 < - ((o.y:Int)-p.y) by omega) (show(0:Int)<(S.w:Int)-o.x by omega);rw[B7] at this;omega
  exact goDown ox (by omega)
 ·exact absurd (by cases p;cases o;simp only at a b;congr 1 <;> omega) ne
 ·rw[a,Bw] at q0
  have ox:o.x=0:=by
   refine Classical.byContradiction fun z => ?_;have:=A8 b (show(0:Int)<(o.x:Int) by omega);omega
  exact goUp ox (by omega)
 ·exfalso
  have m1:0≤((o.x:Int)-p.x)*((S.h:Int)-o.y):=nn (by omega) (by omega);have m2:0≤(- ((o.y:Int)-p.y))*((S.w:Int)-o.x):=nn (by omega) (by omega);have m3:0<((o.x:Int)-p.x)*((S.h:Int)-o.y):=A8 (by omega) (by omega);rw[B7] at m2;omega
 ·rw[b,Bw] at q2
  have oy:o.y=S.h:=by
   refine Classical.byContradiction fun z => ?_;have:=A8 a (show(0:Int)<(S.h:Int)-o.y by omega);omega
  exact goRight oy (by omega)
 ·exfalso
  have m1:0≤((o.x:Int)-p.x)*((S.h:Int)-o.y):=nn (by omega) (by omega);have m2:0<((o.y:Int)-p.y)*(o.x:Int):=A8 (by omega) (by omega);omega
include R
theorem x4:∀e∈(aq S).W,∃r,r<(aq S).n∧(aq S).t e.1 e.2 r≠0:=by
 rintro⟨u,v⟩ he;have hu:=(R.bF he).1;have hv:=(R.bF he).2.1;have ne:S.pt u≠S.pt v:=fun e=>(R.bF he).2.2 (R.qB hu hv e);obtain⟨⟨i0,l0,e0⟩,⟨i1,l1,e1⟩,⟨i2,l2,e2⟩,_⟩:=R.frame;refine Classical.byContradiction fun no => ?_;have all:∀r,r<S.pts.length→turn (S.pt u) (S.pt v) (S.pt r)=0:=by
  intro r hr;refine Classical.byContradiction fun z=>no ⟨r,hr,fun q=>z ?_⟩;exact(dM S (S.pt u) (S.pt v) (S.pt r)).2.2.mp q
 have q0:=all i0 l0;have q1:=all i1 l1;have q2:=all i2 l2;rw[e0,cO] at q0;rw[e1,cO] at q1;rw[e2,cO] at q2;dsimp only at q0 q1 q2;have w1:=R.w1;have hh1:=R.h1;generalize S.pt u=p at *
 generalize S.pt v=o at *
 have a1:((o.y:Int)-p.y)*S.w=0:=by
  have zz:((0:Nat):Int)=0:=rfl;rw[zz] at q0 q1
  grind
 have a2:((o.x:Int)-p.x)*S.h=0:=by
  have zz:((0:Nat):Int)=0:=rfl;rw[zz] at q0 q2
  grind
 have b1:=dO a1 (by omega);have b2:=dO a2 (by omega);exact ne (by cases p;cases o;simp only at b1 b2;congr 1 <;> omega)
omit R in
theorem gv{z:Pt}(h:clear S z=true):0<z.x∧z.x<S.w∧0<z.y∧z.y<S.h∧onLines S z=false:=by
 unfold clear at h
 simpa using h
omit R in
theorem zA(p q:Pt):isOn p q p=true:=by
 unfold isOn turn dx dy between;simp only[Ar,Ap,Cm];refine⟨by grind,by omega,by omega⟩
omit R in
theorem wy(p q:Pt):isOn p q q=true:=by
 unfold isOn turn dx dy between;simp only[Ar,Ap,Cm];refine⟨by grind,by omega,by omega⟩
theorem ux{z:Pt}(h:clear S z=true):∀i,i<(aq S).n→(aq S).h i≠(posOf S z).h:=by
 intro i hi e;obtain⟨z1,z2,z3,z4,z5⟩:=gv h;have e':S.pt i=z:=o9 (R.pl hi).1 (by omega) e;have r8:=R.r8;rw[Bg] at r8;have:=r8 i (List.mem_range.mpr hi);simp only[Ap] at this;cases q:S.near i with
 | nil=>rw[q] at this;simp at this
 | cons j r =>
  have hj:(i,j)∈ways S:=R.cU.mp (by rw[q];exact Ah ..);unfold onLines at z5;rw[BV] at z5;rcases R.dC.mp hj with y|y
  ·have:=z5 _ y
   dsimp only at this;rw[← e',zA] at this;exact this rfl
  ·have:=z5 _ y
   dsimp only at this;rw[← e',wy] at this;exact this rfl
omit R in
theorem aeP{p q:Pt}(hp:p.x≤S.w)(hq:q.x≤S.w)(h:p.y<q.y):(posOf S p).h<(posOf S q).h:=by
 unfold posOf NN;dsimp only;have m:((S.w:Int)+1)*((p.y:Int)+1)≤((S.w:Int)+1)*q.y:=Bo (by omega) (by omega);rw[Bq] at m;omega
theorem ow{on:Pt→Bool}(hc:chained S (edgePts S on)=true){z:Pt}(hz:clear S z=true){a b:Nat}(ha:a<S.pts.length)(oa:on (S.pt a)=true)(ya:(S.pt a).y=0)(hb:b<S.pts.length)(ob:on (S.pt b)=true)(yb:(S.pt b).y=S.h) :
  ∃f∈(aq S).U,(aq S).at_ (posOf S z).h f∧on (S.pt f.1)=true∧on (S.pt f.2)=true:=by
 obtain⟨z1,z2,z3,z4,z5⟩:=gv hz;have np:=R.ux hz;have ma:=cB.mpr ⟨ha,oa⟩;have mb:=cB.mpr ⟨hb,ob⟩;have srt:=iL (S:=S) on;cases e:edgePts S on with
 | nil=>rw[e] at ma;cases ma
 | cons c E =>
  unfold chained at hc;have mem:∀x∈c::E,x<S.pts.length∧on (S.pt x)=true:=fun x hx=>cB.mp (by rw[e];exact hx);rw[e] at ma mb hc srt;have hcm:=mem c (Ah ..);have ca:c≤a:=by
   rcases List.mem_cons.mp ma with q|q
   ·omega
   ·have:=(List.pairwise_cons.mp srt).1 a q;omega
  have yc:(S.pt c).y=0:=by
   rcases CN ca with q|q
   ·have:=R.po q ha;omega
   ·rw[q];exact ya
  have hlt:(aq S).h c<(posOf S z).h:=aeP (S:=S) (R.pl hcm.1).1 (by omega) (by omega);have hgt:(posOf S z).h<(aq S).h b:=aeP (S:=S) (by omega) (R.pl hb).1 (by omega);have bE:b∈E:=by
   rcases List.mem_cons.mp mb with q|q
   ·rw[q] at hgt;omega
   ·exact q
  obtain⟨k,d,m1,m2,j,k1,k2⟩:=l9 (J:=S.joined) (hh:=(aq S).h) (t:=(posOf S z).h) hc (fun x hx=>np x (mem x (Af _ hx)).1) hlt ⟨b,bE,hgt⟩;exact⟨(k,d),Net.bS.mpr ⟨R.kz j,by dsimp only;omega⟩,⟨k1,k2⟩,(mem k m1).2,(mem d m2).2⟩
theorem yq{z:Pt}(hz:clear S z=true):∃f∈(aq S).U,(aq S).rz (posOf S z) f:=by
 obtain⟨_,⟨i1,l1,e1⟩,_,⟨i3,l3,e3⟩,_,_,_,cr⟩:=R.frame;obtain⟨f,hf,at_,o1,o2⟩:=R.ow cr hz l1 (by rw[e1];simp) (by rw[e1]) l3 (by rw[e3];simp) (by rw[e3]);obtain⟨z1,z2,z3,z4,z5⟩:=gv hz;have x1:(S.pt f.1).x=S.w:=by simpa using o1
 have x2:(S.pt f.2).x=S.w:=by simpa using o2
 refine⟨f,hf,at_.1,at_.2,?_⟩;have lt:=(Net.bS.mp hf).2;have:tn ((aq S).P f.1) ((aq S).P f.2) (posOf S z)=((aq S).h f.2-(aq S).h f.1)*((S.w:Int)-z.x):=by
  unfold tn Net.h aq posOf;dsimp only;rw[x1,x2];grind
 rw[this];exact A8 (by omega) (by omega)
theorem abK{z:Pt}(hz:clear S z=true):∃f∈(aq S).U,(aq S).at_ (posOf S z).h f∧(aq S).x f.1=0∧(aq S).x f.2=0:=by
 obtain⟨⟨i0,l0,e0⟩,_,⟨i2,l2,e2⟩,_,_,_,cl,_⟩:=R.frame;obtain⟨f,hf,at_,o1,o2⟩:=R.ow cl hz l0 (by rw[e0];rfl) (by rw[e0]) l2 (by rw[e2];rfl) (by rw[e2]);have x1:(S.pt f.1).x=0:=by simpa using o1
 have x2:(S.pt f.2).x=0:=by simpa using o2
 refine⟨f,hf,at_,?_,?_⟩
 ·show((S.pt f.1).x:Int)=0;omega
 ·show((S.pt f.2).x:Int)=0;omega
theorem agV{z:Pt}(hz:clear S z=true):∀e∈(aq S).W,(aq S).Q e→tn ((aq S).P e.1) ((aq S).P e.2) (posOf S z)≤0:=by
 rintro⟨u,v⟩ he q;obtain⟨z1,z2,z3,z4,z5⟩:=gv hz;rw[R.wA] at q;obtain⟨⟨i0,l0,e0⟩,⟨i1,l1,e1⟩,⟨i2,l2,e2⟩,⟨i3,l3,e3⟩,_⟩:=R.frame;have q0:=q i0 l0;have q1:=q i1 l1;have q2:=q i2 l2;have q3:=q i3 l3;rw[e0] at q0;rw[e1] at q1;rw[e2] at q2;rw[e3] at q3;show tn (posOf S (S.pt u)) (posOf S (S.pt v)) (posOf S z)≤0;refine Int.not_lt.mp fun p => ?_;have p':=(dM ..).1.mp p;have id:(S.w:Int)*S.h*turn (S.pt u) (S.pt v) z=((S.w:Int)-z.x)*((S.h:Int)-z.y)*turn (S.pt u) (S.pt v) ⟨0,0⟩+(z.x:Int)*((S.h:Int)-z.y)*turn (S.pt u) (S.pt v) ⟨S.w,0⟩ +
   ((S.w:Int)-z.x)*z.y*turn (S.pt u) (S.pt v) ⟨0,S.h⟩+(z.x:Int)*z.y*turn (S.pt u) (S.pt v) ⟨S.w,S.h⟩:=by
  unfold turn dx dy;dsimp only;have zz:((0:Nat):Int)=0:=rfl;rw[zz];generalize ((S.pt u).x:Int)=a;generalize ((S.pt u).y:Int)=b;generalize ((S.pt v).x:Int)=c;generalize ((S.pt v).y:Int)=d;generalize (z.x:Int)=x;generalize (z.y:Int)=y;generalize (S.w:Int)=W;generalize (S.h:Int)=H
  grind
 have w1:=R.w1;have hh1:=R.h1;have np:∀{a b:Int},0≤a→b≤0→a*b≤0:=fun h1 h2=>BC h1 h2;have nn:∀{a b:Int},0≤a→0≤b→0≤a*b:=fun h1 h2=>A6 h1 h2;have m0:=np (nn (show(0:Int)≤(S.w:Int)-z.x by omega) (show(0:Int)≤(S.h:Int)-z.y by omega)) q0;have m1:=np (nn (show(0:Int)≤(z.x:Int) by omega) (show(0:Int)≤(S.h:Int)-z.y by omega)) q1;have m2:=np (nn (show(0:Int)≤(S.w:Int)-z.x by omega) (show(0:Int)≤(z.y:Int) by omega)) q2;have m3:=np (nn (show(0:Int)≤(z.x:Int) by omega) (show(0:Int)≤(z.y:Int) by omega)) q3;have m4:=A8 (A8 (show(0:Int)<(S.w:Int) by omega) (show(0:Int)<(S.h:Int) by omega)) p';omega
theorem fo:(ways S).length=2*S.lines.length:=by
 unfold ways;have:∀l:List (Nat×Nat),(l.flatMap fun(l:Nat×Nat)=>[l,(l.2,l.1)]).length=2*l.length:=by
  intro l
  induction l with
  | nil=>rfl
  | cons a r ih=>rw[Cw,Ai,ih];simp only[Aq,B1];omega
 exact this _
def orb(S:Plan)(s:Nat×Nat):List Nat:=S.round (2*S.lines.length+1) s s
omit R in
theorem uk{s:Nat×Nat}{m:Nat}(hm:(aq S).it m s=s)(hk:∀k,0<k→k<m→(aq S).it k s≠s):∀(d k n:Nat),k+d=m→0<d→d≤n →
  S.round n s ((aq S).it k s)=(List.range' k d).map fun j=>((aq S).it j s).1
 | 0,_,_,_,h,_=>absurd h (Bh 0)
 | d+1,k,0,_,_,h=>by omega
 | d+1,k,n+1,e,_,h=>by
  have st:(((aq S).it k s).2,S.next ((aq S).it k s).1 ((aq S).it k s).2)=(aq S).it (k+1) s:=rfl;unfold Plan.round;dsimp only;rw[st,List.range'_succ,A3]
  congr 1
  by_cases d0:d=0
  ·subst d0
   rw[show k+1=m by omega,hm,Ag rfl];rfl
  ·rw[Ad (hk (k+1) (by omega) (by omega))]
   exact uk hm hk d (k+1) n (by omega) (by omega) (by omega)
theorem w4{s:Nat×Nat}(hs:s∈ways S):∃m,0<m∧(aq S).it m s=s∧(∀k,0<k→k<m→(aq S).it k s≠s)∧orb S s=(List.range m).map fun j=>((aq S).it j s).1:=by
 obtain⟨m,h0,hl,hm,hk⟩:=R.ok.ae9 hs;have hl':m≤(ways S).length:=hl;rw[R.fo] at hl';refine⟨m,h0,hm,hk,?_⟩;have:=uk hm hk m 0 (2*S.lines.length+1) (by omega) h0 (by omega);rw[← BI] at this;exact this
def prs(l:List Nat):List (Nat×Nat):=l.zip (l.drop 1++l.take 1)
omit R in
theorem agJ(ws:List (Nat×Nat)):(ws.map Prod.fst).zip (ws.map Prod.snd)=ws:=by
 induction ws with
 | nil=>rfl
 | cons a r ih=>simp only[A3,Co,ih]
omit R in
theorem acH{s:Nat×Nat}{m:Nat}(h0:0<m)(hm:(aq S).it m s=s):prs ((List.range m).map fun j=>((aq S).it j s).1)=(List.range m).map fun j=>(aq S).it j s:=by
 obtain⟨d,rfl⟩:∃d,m=d+1:=⟨m-1,by omega⟩;have e1:((List.range (d+1)).map fun j=>((aq S).it j s).1)=((List.range (d+1)).map fun j=>(aq S).it j s).map Prod.fst:=by rw[AX];rfl
 have e2:((List.range (d+1)).map fun j=>((aq S).it j s).1).drop 1++((List.range (d+1)).map fun j=>((aq S).it j s).1).take 1=((List.range (d+1)).map fun j=>(aq S).it j s).map Prod.snd:=by
  rw[BR,A3,AX];show(List.range d).map _++[((aq S).it 0 s).1]=_;rw[show((aq S).it 0 s)=(aq S).it (d+1) s by rw[hm];rfl];rw[← BR,Bj,As,As,AX];rfl
 unfold prs;rw[e2,e1,agJ]
theorem adV{ws:List (Nat×Nat)}{l:List Nat}(h:prs l=ws):sm ws (aq S).ar=2*NN S*twiceArea S l:=by
 have:∀w:List (Nat×Nat),sm w (aq S).ar=2*NN S*(w.map fun(x:Nat×Nat)=>((S.pt x.1).x:Int)*((S.pt x.2).y:Int)-((S.pt x.2).x:Int)*((S.pt x.1).y:Int)).foldr (fun(a b:Int)=>a+b) 0:=by
  intro w
  induction w with
  | nil=>rw[Cs,List.foldr_nil,rL,B6]
  | cons a r ih =>
   rw[bh,ih,A3,List.foldr_cons,Bq]
   congr 1
   unfold Net.ar Net.x Net.h aq posOf;dsimp only;generalize NN S=N
   grind
 rw[this ws,← h];rfl
omit R in
theorem x5{p q z:Pt}(hp:p.x≤S.w)(hq:q.x≤S.w)(hz:z.x≤S.w) :
  (p.y≤z.y∧z.y<q.y∧0<turn p q z)↔((posOf S p).h<(posOf S z).h∧(posOf S z).h<(posOf S q).h∧0<tn (posOf S p) (posOf S q) (posOf S z)):=by
 rw[(dM S p q z).1]
 constructor
 ·rintro⟨h1,h2,h3⟩
  refine⟨?_,aeP hz hq h2,h3⟩;rcases CN h1 with h|h
  ·exact aeP hp hz h
  ·have e:turn p q z=((q.y:Int)-p.y)*((p.x:Int)-z.x):=by
    rw[cO,← h];grind
   have:(0:Int)<(p.x:Int)-z.x:=by
    rw[e,A9] at h3;exact bp h3 (by omega)
   unfold posOf;dsimp only;rw[h];omega
 ·rintro⟨h1,h2,h3⟩
  have py:p.y≤z.y:=Nat.not_lt.mp fun c=>by have:=aeP (S:=S) hz hp c;omega
  have zq:z.y≤q.y:=Nat.not_lt.mp fun c=>by have:=aeP (S:=S) hq hz c;omega
  refine⟨py,?_,h3⟩;rcases CN zq with h|h
  ·exact h
  ·exfalso
   have xx:q.x<z.x:=by
    unfold posOf at h2;dsimp only at h2;rw[h] at h2;omega
   have e:turn p q z = - (((q.y:Int)-p.y)*((z.x:Int)-q.x)):=by
    rw[cO,h];grind
   have:=A6 (show(0:Int)≤(q.y:Int)-p.y by omega) (show(0:Int)≤(z.x:Int)-q.x by omega);omega
theorem zP{ws:List (Nat×Nat)}{l:List Nat}(h:prs l=ws)(hw:∀e∈ws,e∈ways S){z:Pt}(hz:z.x≤S.w) :
  insideOf S l z=true↔sm ws (fun e=>ind ((aq S).rz (posOf S z) e∨(aq S).rz (posOf S z) (e.2,e.1))) % 2=1:=by
 have sw:=j9;have one:∀e∈ways S,((decide ((S.pt e.1).y≤z.y)&&(decide (z.y<(S.pt e.2).y)&&decide (0<turn (S.pt e.1) (S.pt e.2) z)))||(decide ((S.pt e.2).y≤z.y)&&(decide (z.y<(S.pt e.1).y)&&decide (turn (S.pt e.1) (S.pt e.2) z<0))))=true ↔
   ((aq S).rz (posOf S z) e∨(aq S).rz (posOf S z) (e.2,e.1)):=by
  intro e he;have x1:=(R.pl (R.bF (i:=e.1) (j:=e.2) he).1).1;have x2:=(R.pl (R.bF (i:=e.1) (j:=e.2) he).2.1).1;simp only[BU,Ar,Ap];refine or_congr (x5 x1 x2 hz) ?_;rw[show turn (S.pt e.1) (S.pt e.2) z<0↔0<turn (S.pt e.2) (S.pt e.1) z by rw[sw (S.pt e.1)];omega];exact x5 x2 x1 hz
 have len:∀w:List (Nat×Nat),(∀e∈w,e∈ways S)→((w.filter fun(x:Nat×Nat)=>(decide ((S.pt x.1).y≤z.y)&&(decide (z.y<(S.pt x.2).y)&&decide (0<turn (S.pt x.1) (S.pt x.2) z)))||(decide ((S.pt x.2).y≤z.y)&&(decide (z.y<(S.pt x.1).y)&&decide (turn (S.pt x.1) (S.pt x.2) z<0)))).length:Int) =
   sm w (fun e=>ind ((aq S).rz (posOf S z) e∨(aq S).rz (posOf S z) (e.2,e.1))):=by
  intro w
  induction w with
  | nil=>intro _;rfl
  | cons a r ih =>
   intro hw;have ih:=ih fun e he=>hw e (Af _ he);have o:=one a (hw a (Ah ..));rw[bh]
   by_cases c:(aq S).rz (posOf S z) a∨(aq S).rz (posOf S z) (a.2,a.1)
   ·have:∀{f:Nat×Nat→Bool},f a=true→(((a::r).filter f).length:Int)=1+((r.filter f).length:Int):=by
     intro f hf;rw[AH hf,Aq];omega
    rw[this (o.mpr c),ih,aO c]
   ·have:∀{f:Nat×Nat→Bool},f a≠true→(((a::r).filter f).length:Int)=0+((r.filter f).length:Int):=by
     intro f hf;rw[AQ hf];omega
    rw[this (fun q=>c (o.mp q)),ih,aw c]
 have e:=len ws hw;unfold insideOf;rw[Ap];have h':l.zip (l.drop 1++l.take 1)=ws:=h;rw[h'];dsimp only;omega
theorem abI{z:Pt}(hz:clear S z=true):∃e∈ways S,∀s∈ways S,
  (0<twiceArea S (orb S s)→(insideOf S (orb S s) z=true↔e∈prs (orb S s)))∧(e∈prs (orb S s)→0<twiceArea S (orb S s)):=by
 obtain⟨z1,z2,z3,z4,z5⟩:=gv hz;obtain⟨e,he,h⟩:=R.ok.within R.conn (η:=fun i=>NN S*(S.pt i).y-(S.pt i).x) (fun i=>rfl) (fun i _=>Int.natCast_nonneg _) R.zI R.x4 (R.ux hz) (R.yq hz) (R.abK hz) (R.agV hz);refine⟨e,he,fun s hs => ?_⟩;obtain⟨m,m0,hm,hk,eo⟩:=R.w4 hs;have ep:=acH (S:=S) m0 hm;rw[← eo] at ep;have k:=h s hs m m0 hm hk;have hw:∀f∈((List.range m).map fun k=>(aq S).it k s),f∈ways S:=by
  intro f hf;obtain⟨k,_,rfl⟩:=List.mem_map.mp hf;exact R.ok.bV hs k
 rw[← R.zP ep hw (by omega),R.adV ep] at k;have kp:0<2*NN S:=by have:=rF S;omega
 rw[ep];refine⟨fun a=>k.1 (A8 kp a),fun a => ?_⟩;exact bp (b:=2*NN S) (by rw[A9];exact k.2 a) kp
end Rules
def mleft(S:Plan)(h t o b:Nat):Bool :=
 if (decide (0<turn (S.pt h) (S.pt t) (S.pt o)))≠(decide (0<turn (S.pt h) (S.pt t) (S.pt b))) then decide (0<turn (S.pt h) (S.pt t) (S.pt o)) else decide (0<turn (S.pt o) (S.pt t) (S.pt b))
def lU(S:Plan)(h t:Nat)(best:Option Nat)(o:Nat):Option Nat :=
 if o=h then best else match best with
  | none=>some o
  | some b=>if mleft S h t o b=true then some o else some b
namespace Rules
variable {S:Plan}(R:Rules S)
include R
theorem xT{u v o b:Nat}(hu:(v,u)∈ways S)(ho:(v,o)∈ways S)(hb:(v,b)∈ways S)(ou:o≠u)(bu:b≠u):mleft S u v o b=true↔(aq S).snr v u o b:=by
 have O:=R.ok0;have s1:0<turn (S.pt u) (S.pt v) (S.pt o)↔(aq S).t v u o<0:=by
  have e:turn (S.pt u) (S.pt v) (S.pt o) = - turn (S.pt v) (S.pt u) (S.pt o):=j9 _ _ _;have k:=(dM S (S.pt v) (S.pt u) (S.pt o)).2.1;have k':(aq S).t v u o<0↔turn (S.pt v) (S.pt u) (S.pt o)<0:=k;rw[k',e];omega
 have s2:0<turn (S.pt u) (S.pt v) (S.pt b)↔(aq S).t v u b<0:=by
  have e:turn (S.pt u) (S.pt v) (S.pt b) = - turn (S.pt v) (S.pt u) (S.pt b):=j9 _ _ _;have k:=(dM S (S.pt v) (S.pt u) (S.pt b)).2.1;have k':(aq S).t v u b<0↔turn (S.pt v) (S.pt u) (S.pt b)<0:=k;rw[k',e];omega
 have s3:0<turn (S.pt o) (S.pt v) (S.pt b)↔(aq S).t v o b<0:=by
  have e:turn (S.pt o) (S.pt v) (S.pt b) = - turn (S.pt v) (S.pt o) (S.pt b):=j9 _ _ _;have k:=(dM S (S.pt v) (S.pt o) (S.pt b)).2.1;have k':(aq S).t v o b<0↔turn (S.pt v) (S.pt o) (S.pt b)<0:=k;rw[k',e];omega
 have hu':=O.hne hu;have ho':=O.hne ho;have hb':=O.hne hb;have pl:=Net.plu (G:=aq S) v u o b;unfold mleft Net.snr
 by_cases c1:(aq S).t v u o<0 <;> by_cases c2:(aq S).t v u b<0
 ·have f1:(aq S).hf v u o=0:=by unfold Net.hf;rw[Ag c1]
  have f2:(aq S).hf v u b=0:=by unfold Net.hf;rw[Ag c2]
  rw[f1,f2,Ak (s1.mpr c1),Ak (s2.mpr c2),Ad (by simp),Ap,s3];omega
 ·have f1:(aq S).hf v u o=0:=by unfold Net.hf;rw[Ag c1]
  have f2:0<(aq S).hf v u b:=by
   unfold Net.hf;rw[Ad c2];split
   ·omega
   ·split <;> omega
  rw[f1,Ak (s1.mpr c1),Ax (fun z=>c2 (s2.mp z)),Ag (by simp)];exact⟨fun _=>.inl f2,fun _=>rfl⟩
 ·have f2:(aq S).hf v u b=0:=by unfold Net.hf;rw[Ag c2]
  have f1:0<(aq S).hf v u o:=by
   unfold Net.hf;rw[Ad c1];split
   ·omega
   ·split <;> omega
  rw[f2,Ax (fun z=>c1 (s1.mp z)),Ak (s2.mpr c2),Ag (by simp)];exact⟨fun z=>(by cases z),fun z=>by omega⟩
 ·rw[Ax (fun z=>c1 (s1.mp z)),Ax (fun z=>c2 (s2.mp z)),Ad (by simp),Ap,s3]
  have opp:∀{x:Nat},(v,x)∈ways S→x≠u→¬(aq S).t v u x<0→¬0<(aq S).t v u x→(((aq S).h v<(aq S).h u∧(aq S).h x<(aq S).h v)∨((aq S).h u<(aq S).h v∧(aq S).h v<(aq S).h x))∧(aq S).hf v u x=1:=by
   intro x hx xu a b;have hx':=O.hne hx;have o:((aq S).h v<(aq S).h u∧(aq S).h x<(aq S).h v)∨((aq S).h u<(aq S).h v∧(aq S).h v<(aq S).h x) :=
    Classical.byContradiction fun n=>O.ray hu hx (Ne.symm xu) (by omega) (by omega)
   refine⟨o,?_⟩;unfold Net.hf;rw[Ad a,Ad b,Ad (by omega)]
  by_cases d1:0<(aq S).t v u o <;> by_cases d2:0<(aq S).t v u b
  ·have f1:(aq S).hf v u o=2:=by unfold Net.hf;rw[Ad c1,Ag d1]
   have f2:(aq S).hf v u b=2:=by unfold Net.hf;rw[Ad c2,Ag d2]
   rw[f1,f2];omega
  ·have f1:(aq S).hf v u o=2:=by unfold Net.hf;rw[Ad c1,Ag d1]
   obtain⟨q,f2⟩:=opp hb bu c2 d2;rw[f1,f2];have z:(aq S).t v u b=0:=by omega
   rw[z,B6] at pl;refine⟨fun y => ?_,fun y=>by omega⟩
   exfalso
   rcases q with⟨g1,g2⟩|⟨g1,g2⟩
   ·have m1:=cK (a:=(aq S).h u-(aq S).h v) (by omega) y
    have m2:=cg (a:=(aq S).h b-(aq S).h v) (b:=(aq S).t v u o) (by omega) d1;omega
   ·have m1:=mI (a:=(aq S).h u-(aq S).h v) (by omega) y
    have m2:=dI (a:=(aq S).h b-(aq S).h v) (b:=(aq S).t v u o) (by omega) d1;omega
  ·have f2:(aq S).hf v u b=2:=by unfold Net.hf;rw[Ad c2,Ag d2]
   obtain⟨q,f1⟩:=opp ho ou c1 d1;rw[f1,f2];have z:(aq S).t v u o=0:=by omega
   rw[z,B6] at pl;refine⟨fun _=>.inl (by omega),fun _ => ?_⟩;rcases q with⟨g1,g2⟩|⟨g1,g2⟩
   ·have m2:=cg (a:=(aq S).h o-(aq S).h v) (b:=(aq S).t v u b) (by omega) d2
    exact aU (b:=(aq S).h u-(aq S).h v) (by rw[A9];omega) (by omega)
   ·have m2:=dI (a:=(aq S).h o-(aq S).h v) (b:=(aq S).t v u b) (by omega) d2
    refine aU (b:=(aq S).h v-(aq S).h u) ?_ (by omega);have:(aq S).t v o b*((aq S).h v-(aq S).h u) = - (((aq S).h u-(aq S).h v)*(aq S).t v o b):=afB _ _ _;omega
  ·obtain⟨q1,f1⟩:=opp ho ou c1 d1
   obtain⟨q2,f2⟩:=opp hb bu c2 d2;rw[f1,f2];omega
theorem vZ{u v:Nat}(h:(u,v)∈ways S):(S.near v).foldl (lU S u v) none=some (S.next u v):=by
 have O:=R.ok0;have hu:(v,u)∈ways S:=O.sym h;obtain⟨wm,wmin⟩:=R.oU h;have all:∀j∈S.near v,(v,j)∈ways S:=fun j hj=>R.cU.mp hj;have ex:∃j∈S.near v,j≠u:=by
  have r8:=R.r8;rw[Bg] at r8;have:=r8 v (List.mem_range.mpr (R.bF hu).1);simp only[Ap] at this;refine Classical.byContradiction fun no => ?_;have nd:(S.near v).Nodup:=by
   unfold List.Nodup Plan.near;rw[Dq];refine R.lo.imp_of_mem ?_;intro a b ha hb lt x hx y hy e;subst e;have la:=R.ln ha;have lb:=R.ln hb
   split at hx
   ·rename_i e1
    injection hx with hx
    split at hy
    ·rename_i e2;injection hy with hy;omega
    ·split at hy
     ·rename_i e2;injection hy with hy;omega
     ·cases hy
   ·split at hx
    ·rename_i e1
     injection hx with hx
     split at hy
     ·rename_i e2;injection hy with hy;omega
     ·split at hy
      ·rename_i e2;injection hy with hy;omega
      ·cases hy
    ·cases hx
  have sub:S.near v ⊆ [u]:=fun j hj=>Classical.byContradiction fun z=>no ⟨j,hj,fun e=>z (by rw[e];exact List.mem_singleton.mpr rfl)⟩;have:=nd.length_le_of_subset sub;simp at this;omega
 obtain⟨j0,hj0,nj0⟩:=ex;have wu:S.next u v≠u:=by
  intro e;exact wmin j0 (all j0 hj0) (by rw[e];exact O.jA hu (all j0 hj0) nj0)
 have inv:∀(l:List Nat) (b:Option Nat),(∀o∈l,(v,o)∈ways S)→(∀c,b=some c→(v,c)∈ways S∧c≠u) →
   (∀c,l.foldl (lU S u v) b=some c→(v,c)∈ways S∧c≠u∧(∀d,b=some d→d=c∨¬(aq S).snr v u d c)∧∀o∈l,o≠u→¬(aq S).snr v u o c) ∧
   ((∃c,b=some c)∨(∃o∈l,o≠u)→∃c,l.foldl (lU S u v) b=some c):=by
  intro l
  induction l with
  | nil =>
   intro b _ hb;refine⟨fun c e=>⟨(hb c e).1,(hb c e).2,fun d ed=>.inl (Ac (ed.symm.trans e)),fun _ z=>nomatch z⟩,?_⟩;rintro(⟨c,e⟩|⟨_,z,_⟩)
   ·exact⟨c,e⟩
   ·cases z
  | cons o r ih =>
   intro b hl hb;have ho:=hl o (Ah ..);have hr:=fun x hx=>hl x (Af o hx);rw[Bk]
   by_cases ou:o=u
   ·have e:lU S u v b o=b:=by unfold lU;rw[Ag ou]
    rw[e];obtain⟨i1,i2⟩:=ih b hr hb;refine⟨fun c ec => ?_,fun z=>i2 ?_⟩
    ·obtain⟨k1,k2,k3,k4⟩:=i1 c ec
     refine⟨k1,k2,k3,fun x hx xu => ?_⟩;rcases List.mem_cons.mp hx with y|y
     ·exact absurd (y.trans ou) xu
     ·exact k4 x y xu
    ·rcases z with z|⟨x,hx,xu⟩
     ·exact .inl z
     ·rcases List.mem_cons.mp hx with y|y
      ·exact absurd (y.trans ou) xu
      ·exact .inr ⟨x,y,xu⟩
   ·cases b with
    | none =>
     have e:lU S u v none o=some o:=by unfold lU;rw[Ad ou]
     rw[e];obtain⟨i1,i2⟩:=ih (some o) hr (fun c ec=>by injection ec with ec;subst ec;exact⟨ho,ou⟩);refine⟨fun c ec => ?_,fun _=>i2 (.inl ⟨o,rfl⟩)⟩;obtain⟨k1,k2,k3,k4⟩:=i1 c ec;refine⟨k1,k2,fun d ed=>(nomatch ed),fun x hx xu => ?_⟩;rcases List.mem_cons.mp hx with y|y
     ·subst y
      rcases k3 x rfl with z|z
      ·rw[z];exact Net.Ok0.p3
      ·exact z
     ·exact k4 x y xu
    | some b =>
     obtain⟨bm,bu⟩:=hb b rfl;have ms:=R.xT hu ho bm ou bu
     by_cases c1:mleft S u v o b=true
     ·have e:lU S u v (some b) o=some o:=by unfold lU;rw[Ad ou];dsimp only;rw[Ag c1]
      rw[e];obtain⟨i1,i2⟩:=ih (some o) hr (fun c ec=>by injection ec with ec;subst ec;exact⟨ho,ou⟩);refine⟨fun c ec => ?_,fun _=>i2 (.inl ⟨o,rfl⟩)⟩;obtain⟨k1,k2,k3,k4⟩:=i1 c ec;have oc:¬(aq S).snr v u o c:=by
       rcases k3 o rfl with z|z
       ·rw[z];exact Net.Ok0.p3
       ·exact z
      refine⟨k1,k2,fun d ed => ?_,fun x hx xu => ?_⟩
      ·injection ed with ed
       subst ed
       right
       intro z;exact oc (O.mR hu ho bm k1 (ms.mp c1) z)
      ·rcases List.mem_cons.mp hx with y|y
       ·rw[y];exact oc
       ·exact k4 x y xu
     ·have e:lU S u v (some b) o=some b:=by unfold lU;rw[Ad ou];dsimp only;rw[Ad c1]
      rw[e];obtain⟨i1,i2⟩:=ih (some b) hr (fun c ec=>by injection ec with ec;subst ec;exact⟨bm,bu⟩);refine⟨fun c ec => ?_,fun _=>i2 (.inl ⟨b,rfl⟩)⟩;obtain⟨k1,k2,k3,k4⟩:=i1 c ec;refine⟨k1,k2,k3,fun x hx xu => ?_⟩;rcases List.mem_cons.mp hx with y|y
      ·subst y
       intro z;rcases k3 b rfl with bc|bc
       ·rw[← bc] at z;exact c1 (ms.mpr z)
       ·
        by_cases e2:c=b
        ·rw[e2] at z;exact c1 (ms.mpr z)
        ·rcases O.sY hu k1 bm e2 with q|q
         ·exact c1 (ms.mpr (O.mR hu ho k1 bm z (O.kh hu k1 bm q)))
         ·exact bc (O.kh hu bm k1 q)
      ·exact k4 x y xu
 obtain⟨i1,i2⟩:=inv (S.near v) none all (fun c e=>(nomatch e));obtain⟨c,ec⟩:=i2 (.inr ⟨j0,hj0,nj0⟩);obtain⟨k1,k2,_,k4⟩:=i1 c ec;rw[ec]
 congr 1
 refine Classical.byContradiction fun ne => ?_;rcases O.sY hu k1 wm ne with q|q
 ·exact wmin c k1 (O.kh hu k1 wm q)
 ·exact k4 _ (R.cU.mpr wm) wu (O.kh hu wm k1 q)
end Rules
namespace Rules
def ows(S:Plan)(s:Nat×Nat):List (Nat×Nat):=prs (orb S s)
theorem f7{α:Type}[BEq α][LawfulBEq α]:∀(n:Nat) (l:List α),l.length≤n→l.eraseDups.Nodup
 | 0,l,h=>by
  have:l=[]:=List.eq_nil_of_length_eq_zero (by omega);subst this;simp
 | n+1,[],_=>by simp
 | n+1,a::r,h=>by
  rw[List.eraseDups_cons,Dy]
  constructor
  ·intro m
   rw[List.mem_eraseDups,AY] at m;simp at m
  ·refine f7 n _ ?_
   have:=D0 (fun b => !b==a) r;simp only[Aq] at h;omega
theorem foldl_min:∀(r:List Nat) (a:Nat),(r.foldl min a=a∨r.foldl min a∈r)∧r.foldl min a≤a∧∀b∈r,r.foldl min a≤b
 | [],a=>⟨.inl rfl,Ae _,fun _ h=>nomatch h⟩
 | c::r,a=>by
  obtain⟨h1,h2,h3⟩:=foldl_min r (min a c);rw[Bk];refine⟨?_,by omega,fun b hb => ?_⟩
  ·rcases h1 with z|z
   ·by_cases q:a≤c
    ·left;omega
    ·right
     have:r.foldl min (min a c)=c:=by omega
     rw[this];exact Ah ..
   ·exact .inr (Af _ z)
  ·rcases List.mem_cons.mp hb with z|z
   ·rw[z];omega
   ·exact h3 b z
variable {S:Plan}(R:Rules S)
include R
theorem cf{s:Nat×Nat}(hs:s∈ways S):∃m,0<m∧(aq S).it m s=s∧(∀k,0<k→k<m→(aq S).it k s≠s)∧orb S s=((List.range m).map fun j=>((aq S).it j s).1)∧ows S s=(List.range m).map fun j=>(aq S).it j s:=by
 obtain⟨m,m0,hm,hk,eo⟩:=R.w4 hs;refine⟨m,m0,hm,hk,eo,?_⟩;unfold ows;rw[eo];exact acH m0 hm
theorem gh{s e:Nat×Nat}(hs:s∈ways S):e∈ows S s↔∃k,(aq S).it k s=e:=by
 obtain⟨m,m0,hm,hk,_,ew⟩:=R.cf hs;rw[ew]
 constructor
 ·intro h
  obtain⟨k,_,e⟩:=List.mem_map.mp h;exact⟨k,e⟩
 ·rintro⟨k,rfl⟩
  exact Net.Ok.zc hm m0
theorem pA{s:Nat×Nat}(hs:s∈ways S):s∈ows S s:=(R.gh hs).mpr ⟨0,rfl⟩
theorem mw{s e:Nat×Nat}(hs:s∈ways S)(he:e∈ows S s):e∈ways S:=by
 obtain⟨k,rfl⟩:=(R.gh hs).mp he;exact R.ok.bV hs k
theorem gr{s e f:Nat×Nat}(hs:s∈ways S)(he:e∈ows S s)(hf:f∈ows S e):f∈ows S s:=by
 obtain⟨k,rfl⟩:=(R.gh hs).mp he;obtain⟨j,rfl⟩:=(R.gh (R.ok.bV hs k)).mp hf;exact(R.gh hs).mpr ⟨j+k,Net.Ok.fc j k s⟩
theorem fB{s e:Nat×Nat}(hs:s∈ways S)(he:e∈ows S s):s∈ows S e:=by
 have hw:=R.mw hs he;obtain⟨m,m0,hm,hk,_,ew⟩:=R.cf hs;rw[ew] at he;obtain⟨k,hk',rfl⟩:=List.mem_map.mp he;rw[AZ] at hk';refine(R.gh hw).mpr ⟨m-k,?_⟩;rw[← Net.Ok.fc,show m-k+k=m by omega,hm]
theorem abB{s:Nat×Nat}(hs:s∈ways S){m k:Nat}(m0:0<m)(hm:(aq S).it m s=s)(hmin:∀k,0<k→k<m→(aq S).it k s≠s)(hk:k<m) :
  orb S ((aq S).it k s)=(orb S s).drop k++(orb S s).take k:=by
 have hw:=R.ok.bV hs k;have mod:∀j,(aq S).it (j+m) s=(aq S).it j s:=fun j=>by rw[Net.Ok.fc,hm]
 have hm':(aq S).it m ((aq S).it k s)=(aq S).it k s:=by
  rw[← Net.Ok.fc,DD,mod]
 have hmin':∀j,0<j→j<m→(aq S).it j ((aq S).it k s)≠(aq S).it k s:=by
  intro j j0 jm e;rw[← Net.Ok.fc,DD,Net.Ok.fc] at e;exact hmin j j0 jm (R.ok.xD (R.ok.bV hs j) hs k e)
 have len:∀(x:Nat×Nat),x∈ways S→∀q,0<q→(aq S).it q x=x→(∀k,0<k→k<q→(aq S).it k x≠x)→orb S x=(List.range q).map fun j=>((aq S).it j x).1:=by
  intro x hx q q0 hq hqm;obtain⟨m2,a,b,c,d⟩:=R.w4 hx;have:m2=q:=by
   rcases Bd m2 q with z|z|z
   ·exact absurd b (hqm m2 a z)
   ·exact z
   ·exact absurd hq (c q q0 z)
  rw[← this];exact d
 rw[len _ hw m m0 hm' hmin',len s hs m m0 hm hmin];refine CY fun i => ?_
 by_cases hi:i<m
 ·rw[Am,AN hi]
  by_cases c:i<m-k
  ·rw[Aw (by rw[Bl,Ab,Au];omega),List.getElem?_drop,Am,AN (by omega)]
   show some ((aq S).it i ((aq S).it k s)).1=some ((aq S).it (k+i) s).1;rw[← Net.Ok.fc,DD]
  ·rw[Ao (by rw[Bl,Ab,Au];omega),Bl,Ab,Au,AF (by omega),Am,AN (by omega)]
   show some ((aq S).it i ((aq S).it k s)).1=some ((aq S).it (i-(m-k)) s).1;rw[← Net.Ok.fc,show i+k=(i-(m-k))+m by omega,mod]
 ·rw[AA (by rw[Ab,Au];omega),AA (by rw[Ai,Bl,A2,Ab,Au];omega)]
def cX(S:Plan)(s:Nat×Nat):Prop:=s∈ways S∧∀e∈ows S s,s.1≤e.1
instance (S:Plan) (s:Nat×Nat):Decidable (cX S s):=by unfold cX;infer_instance
theorem tO{s e f:Nat×Nat}(hs:s∈ways S)(he:e∈ows S s)(hf:f∈ows S s)(h:e.1=f.1):e=f:=by
 obtain⟨m,m0,hm,hk,eo,ew⟩:=R.cf hs;rw[ew] at he hf;obtain⟨i,hi,rfl⟩:=List.mem_map.mp he;obtain⟨j,hj,rfl⟩:=List.mem_map.mp hf;rw[AZ] at hi hj;rcases Bd i j with z|z|z
 ·exact absurd h (R.ok.once hs R.conn hm hk z hj)
 ·rw[z]
 ·exact absurd h.symm (R.ok.once hs R.conn hm hk z hi)
theorem ve{r r' s:Nat×Nat}(hs:s∈ways S)(h:cX S r)(h':cX S r')(m:r∈ows S s)(m':r'∈ows S s):r=r':=by
 have a:=h.2 r' (R.gr h.1 (R.fB hs m) m');have b:=h'.2 r (R.gr h'.1 (R.fB hs m') m);exact R.tO hs m m' (by omega)
theorem pz{e:Nat×Nat}(he:e∈ways S):∃r,cX S r∧r∈ows S e∧fromLeast (orb S e)=orb S r:=by
 obtain⟨m,m0,hm,hk,eo,ew⟩:=R.cf he;have len:(orb S e).length=m:=by rw[eo,Ab,Au]
 cases q:orb S e with
 | nil=>rw[q] at len;simp at len;omega
 | cons a r =>
  obtain⟨h1,h2,h3⟩:=foldl_min r a;have hin:r.foldl min a∈orb S e:=by
   rw[q];rcases h1 with z|z
   ·rw[z];exact Ah ..
   ·exact Af _ z
  have hi:(orb S e).idxOf (r.foldl min a)<m:=by rw[← len];exact List.idxOf_lt_length_of_mem hin
  have el:(orb S e)[(orb S e).idxOf (r.foldl min a)]'(by rw[len];exact hi)=r.foldl min a:=List.getElem_idxOf _;have em:=R.ok.bV he ((orb S e).idxOf (r.foldl min a));have min1:((aq S).it ((orb S e).idxOf (r.foldl min a)) e).1=r.foldl min a:=by
   have g:∀(i:Nat) (h:i<(orb S e).length),(orb S e)[i]=((aq S).it i e).1:=by
    intro i h;simp only[eo];rw[C4,Cp]
   exact(g _ _).symm.trans el
  have mem1:(aq S).it ((orb S e).idxOf (r.foldl min a)) e∈ows S e:=(R.gh he).mpr ⟨_,rfl⟩;refine⟨(aq S).it ((orb S e).idxOf (r.foldl min a)) e,⟨em,fun f hf => ?_⟩,mem1,?_⟩
  ·rw[min1]
   have hf':=R.gr he mem1 hf;rw[ew] at hf';obtain⟨j,hj,rfl⟩:=List.mem_map.mp hf';have:((aq S).it j e).1∈orb S e:=by
    rw[eo];exact List.mem_map.mpr ⟨j,hj,rfl⟩
   rw[q] at this;rcases List.mem_cons.mp this with z|z
   ·rw[z];exact h2
   ·exact h3 _ z
  ·rw[R.abB he m0 hm hk hi,q]
   rfl
theorem wK{s:Nat×Nat}(hs:s∈ways S):∃l,orb S s=s.1::s.2::l:=by
 obtain⟨m,m0,hm,hk,eo,_⟩:=R.cf hs;have m2:2≤m:=by
  refine Nat.not_lt.mp fun z => ?_;have:m=1:=by omega
  subst this;have e:(aq S).phi s=s:=hm;have:=congrArg Prod.fst e;exact(R.bF (i:=s.1) (j:=s.2) hs).2.2 this.symm
 obtain⟨d,rfl⟩:∃d,m=d+2:=⟨m-2,by omega⟩;rw[eo,BR,BR,A3,A3,A3];exact⟨_,rfl⟩
theorem adX{r s:Nat×Nat}(hr:r∈ways S)(hs:s∈ways S)(h:orb S r=orb S s):r=s:=by
 obtain⟨l,e1⟩:=R.wK hr;obtain⟨k,e2⟩:=R.wK hs;rw[e1,e2] at h;injection h with h1 h2
 injection h2 with h2 _
 exact Prod.ext h1 h2
theorem qZ{l:List Nat}:l∈S.outlines↔∃r,cX S r∧l=orb S r∧0<twiceArea S l:=by
 unfold Plan.outlines;rw[AY,List.mem_eraseDups,Du,Ap]
 constructor
 ·rintro⟨⟨e,he,rfl⟩,ha⟩
  obtain⟨r,hr,_,er⟩:=R.pz he;exact⟨r,hr,er,ha⟩
 ·rintro⟨r,hr,rfl,ha⟩
  obtain⟨r',hr',hm,er⟩:=R.pz hr.1;have:r'=r:=R.ve hr.1 hr' hr hm (R.pA hr.1);rw[this] at er;exact⟨⟨r,hr.1,er⟩,ha⟩
theorem nE:S.outlines.Nodup:=by
 unfold Plan.outlines;exact(f7 _ _ (Ae _)).filter _
def de(S:Plan):List (Nat×Nat):=(List.range S.pts.length).flatMap fun u=>(S.near u).map fun v=>(u,v)
def bK(S:Plan):List (List Nat):=(((de S).filter fun s=>decide (cX S s)).filter fun s=>decide (0<twiceArea S (orb S s))).map (orb S)
theorem cN{e:Nat×Nat}:e∈de S↔e∈ways S:=by
 unfold de;rw[Dj]
 constructor
 ·rintro⟨u,_,h⟩
  obtain⟨v,hv,rfl⟩:=List.mem_map.mp h;exact R.cU.mp hv
 ·intro h
  exact⟨e.1,List.mem_range.mpr (R.bF (i:=e.1) (j:=e.2) h).1,List.mem_map.mpr ⟨e.2,R.cU.mpr h,rfl⟩⟩
theorem wb(v:Nat):(S.near v).Nodup:=by
 unfold List.Nodup Plan.near;rw[Dq];refine R.lo.imp_of_mem ?_;intro a b ha hb lt x hx y hy e;subst e;have la:=R.ln ha;have lb:=R.ln hb
 split at hx
 ·rename_i e1
  injection hx with hx
  split at hy
  ·rename_i e2;injection hy with hy;omega
  ·split at hy
   ·rename_i e2;injection hy with hy;omega
   ·cases hy
 ·split at hx
  ·rename_i e1
   injection hx with hx
   split at hy
   ·rename_i e2;injection hy with hy;omega
   ·split at hy
    ·rename_i e2;injection hy with hy;omega
    ·cases hy
  ·cases hx
theorem dB:(de S).Nodup:=by
 unfold de List.Nodup;rw[D1];refine⟨fun u _ => ?_,?_⟩
 ·rw[BH]
  refine(R.wb u).imp ?_;intro a b ne e;exact ne (Prod.mk.inj e).2
 ·refine(B5 (n:=S.pts.length)).imp ?_
  intro a b lt x hx y hy e;obtain⟨v,_,rfl⟩:=List.mem_map.mp hx;obtain⟨w,_,rfl⟩:=List.mem_map.mp hy;have:=(Prod.mk.inj e).1;omega
theorem nO:(de S).Pairwise fun a b=>a.1≤b.1:=by
 unfold de;rw[D1];refine⟨fun u _ => ?_,?_⟩
 ·rw[BH]
  exact List.pairwise_of_forall fun _ _=>Ae _
 ·refine(B5 (n:=S.pts.length)).imp ?_
  intro a b lt x hx y hy;obtain⟨v,_,rfl⟩:=List.mem_map.mp hx;obtain⟨w,_,rfl⟩:=List.mem_map.mp hy;exact Br lt
theorem gz{l:List Nat}:l∈bK S↔∃r,cX S r∧l=orb S r∧0<twiceArea S l:=by
 unfold bK;rw[Du]
 constructor
 ·rintro⟨r,h,rfl⟩
  rw[AY,AY,Ap,Ap] at h;exact⟨r,h.1.2,rfl,h.2⟩
 ·rintro⟨r,hr,rfl,ha⟩
  refine⟨r,?_,rfl⟩;rw[AY,AY,Ap,Ap];exact⟨⟨R.cN.mpr hr.1,hr⟩,ha⟩
theorem mr:(bK S).Nodup:=by
 unfold bK List.Nodup;rw[BH];refine Cf ?_ ((R.dB.filter _).filter _);intro a b ha hb ne e;rw[AY,AY,Ap] at ha hb;exact ne (R.adX ha.1.2.1 hb.1.2.1 e)
theorem kr:(bK S).Perm S.outlines:=by
 rw[Cb R.mr R.nE];intro l;rw[R.gz,R.qZ]
theorem aeA{z:Pt}(hz:clear S z=true):∃l∈bK S,insideOf S l z=true∧(∀l'∈bK S,insideOf S l' z=true→l'=l)∧S.among S.outlines z=some l:=by
 obtain⟨e,he,h⟩:=R.abI hz;obtain⟨r,hr,hm,_⟩:=R.pz he;have er:e∈ows S r:=R.fB he hm;have pos:=(h r hr.1).2 er;have ins:=((h r hr.1).1 pos).mpr er;have uni:∀l'∈bK S,insideOf S l' z=true→l'=orb S r:=by
  intro l' hl' hi;obtain⟨r',hr',rfl,ha⟩:=R.gz.mp hl';have e':=((h r' hr'.1).1 ha).mp hi;have:r'=r:=R.ve he hr' hr (R.fB hr'.1 e') hm;rw[this]
 have inp:orb S r∈bK S:=R.gz.mpr ⟨r,hr,rfl,pos⟩;refine⟨orb S r,inp,ins,uni,?_⟩;unfold Plan.among;rw[Ag hz];have ino:=R.kr.mem_iff.mp inp;cases q:S.outlines.find? fun l=>insideOf S l z with
 | none =>
  rw[Bg] at q;exact absurd ins (q _ ino)
 | some l =>
  have h1:=List.find?_some q;have h2:=CT q;rw[uni l (R.kr.mem_iff.mpr h2) h1]
end Rules
end Geo
namespace Gs
open PySem PySem.Spec PyProof.Rows L2
structure Def(K:DG)(mg:DH)(x:Str)(st:Stmt)(ps:List Str):Prop where
 ex:∃f fd,Fun K x x st f fd∧mg x=some (.ref f)∧Binds K fd ps []
structure Fn(P:Program)(w:World)(K:DG)(mg:DH)(base:Heap)(k:Nat)(x:Str)(ps:List Str)(sp:Sp):Prop where
 ex:∃f fd,mg x=some (.ref f)∧PySem.W.keepIn K (.ref f)=true∧Binds K fd ps []∧nB P w K mg base CX0 k f fd ps sp
structure vN(K:DG)(C:Addr)(m q:Str)(st:Stmt)(ps:List Str):Prop where
 ex:∃f fd,Fun K m q st f fd∧Meth K C m f∧Binds K fd ps []
structure Me(P:Program)(w:World)(K:DG)(mg:DH)(base:Heap)(k:Nat)(C:Addr)(m:Str)(ps:List Str)(sp:Sp):Prop where
 cl:Cls K C
 ex:∃f fd,Meth K C m f∧Binds K fd ps []∧nB P w K mg base CX0 k f fd ps sp
structure mf(K:DG)(mg:DH)(x q:Str)(C:Addr)(st:Stmt)(ps fs:List Str):Prop where
 cl:Cls K C
 at_:mg x=some (.ref C)
 no:∀f∈fs,fg K C f
 ex:∃f fd,Fun K "__init__" q st f fd∧Mk K C f∧Binds K fd ps []
def spI(C:Addr)(n:Nat)(fs:List V→List (Str×V)):Sp:=fun vs H Q _=>∃p dx us,vs=.ref p::us∧us.length=n∧H p=some (.ins C dx [])∧Q .non (upd H p (.ins C dx (fs us)))
structure Kl(P:Program)(w:World)(K:DG)(mg:DH)(base:Heap)(k:Nat)(x:Str)(C:Addr)(n:Nat)(fs:List V→List (Str×V)):Prop where
 cl:Cls K C
 at_:mg x=some (.ref C)
 ex:∃f fd ps,Mk K C f∧Binds K fd ps []∧nB P w K mg base CX0 k f fd ps (spI C n fs)
section
variable {P:Program}{w:World}{K:DG}{mg:DH}{base:Heap}{k:Nat}{x m q:Str}{ps N:List Str}{sp:Sp}{st:Stmt}{C:Addr}{n:Nat}{fs:List V→List (Str×V)}
theorem Def.fn(D:Def K mg x st ps)(S:bG N ps (aE st))(len:∀vs H Q E,sp vs H Q E→vs.length=ps.length)
  (i6:∀(f:Addr) (cdv:Value) (A:Around) (outer:List Env) (s:Shared) (H:Hp) (vs:List V) (Q:VK) (E:XK),e6 k (A.deeper (envOfC x (aE st) s.heap.objs.size f cdv))→sp vs H Q E →
   ∃t,PSs (wI CX0 P w K mg base N x (aE st) f cdv A outer s H E).nox (bT st) t∧t { nx:=fun _ H'=>Q .non H',rt:=Q } (start N vs) H) :
  Fn P w K mg base (k+1) x ps sp:=by
 obtain⟨f,fd,F,hm,hb⟩:=D.ex;exact⟨f,fd,hm,F.kp,hb,F.ok S len (i6 f)⟩
theorem vN.me(D:vN K C m q st ps)(cl:Cls K C)(S:bG N ps (aE st))(len:∀vs H Q E,sp vs H Q E→vs.length=ps.length)
  (i6:∀(f:Addr) (cdv:Value) (A:Around) (outer:List Env) (s:Shared) (H:Hp) (vs:List V) (Q:VK) (E:XK),e6 k (A.deeper (envOfC q (aE st) s.heap.objs.size f cdv))→sp vs H Q E →
   ∃t,PSs (wI CX0 P w K mg base N q (aE st) f cdv A outer s H E).nox (bT st) t∧t { nx:=fun _ H'=>Q .non H',rt:=Q } (start N vs) H) :
  Me P w K mg base (k+1) C m ps sp:=by
 obtain⟨f,fd,F,hm,hb⟩:=D.ex;exact⟨cl,f,fd,hm,hb,F.ok S len (i6 f)⟩
theorem mf.kl{fl:List Str}(D:mf K mg x q C st ps fl)(S:bG N ps (aE st))(len:ps.length=n+1)
  (i6:∀(f:Addr) (cdv:Value) (A:Around) (outer:List Env) (s:Shared) (H:Hp) (p dx:Addr) (us:List V) (Q:VK) (E:XK),e6 k (A.deeper (envOfC q (aE st) s.heap.objs.size f cdv))→us.length=n→H p=some (.ins C dx []) →
   Q .non (upd H p (.ins C dx (fs us))) →
   ∃t,PSs (wI CX0 P w K mg base N q (aE st) f cdv A outer s H E).nox (bT st) t∧t { nx:=fun _ H'=>Q .non H',rt:=Q } (start N (.ref p::us)) H) :
  Kl P w K mg base (k+1) x C n fs:=by
 obtain⟨f,fd,F,hm,hb⟩:=D.ex;refine⟨D.cl,D.at_,f,fd,ps,hm,hb,F.ok S (fun vs H Q E h => ?_) (fun cdv A outer s H vs Q E hr h => ?_)⟩
 ·obtain⟨p,dx,us,rfl,hl,_⟩:=h
  rw[Aq,hl,len]
 ·obtain⟨p,dx,us,rfl,hl,hp,hq⟩:=h
  exact i6 f cdv A outer s H p dx us Q E hr hl hp hq
end
section
variable {X:Cx}{k:Nat}{x m:Str}{ps:List Str}{sp:Sp}{e o:Expr}{es:List Expr}{t:TA}{ta:TE}{p pos apos:Pos}{C:Addr}{n:Nat}{fs:List V→List (Str×V)}
theorem ahN(F:Fn X.prog X.w X.K X.mg X.base k x ps sp)(hr:e6 k X.A)(ha:PA X (e::es) t)(hg:Gl X x:=by rfl)(hdb:(x==("__debug__" : Str))=false:=by decide)
  (he:starEach (e::es) X.env=(false,eval e X.env)::starEach es X.env:=by rfl) (hpl:(backTo pos (starEach es X.env)).any (·.1)=false:=by rfl) (hx:Passes CX0 X E0:=by exact tI) :
  PE X (.Call (.Name x p) (e::es) [] pos) (aek sp [] E0 t):=by
 obtain⟨f,fd,hm,hk,hb,F⟩:=F.ex;exact adp F hr hg hm hk hb .nil hx ha hdb he hpl
theorem jr{pl:Sem Bool}(he:PE X o ta)(M:Me X.prog X.w X.K X.mg X.base k C m ps sp)(hr:e6 k X.A)(ha:PA X (e::es) t)(hst:starEach (e::es) X.env=(false,eval e X.env)::starEach es X.env:=by rfl)
  (hpl:(backTo pos (starEach es X.env)).any (·.1)=false:=by rfl)
  (ht:eval (.Call (.Attribute o m apos) (e::es) [] pos) X.env=(do
   let ov ← eval o X.env
   standAt apos.atName
   let (f,first) ← holding [ov] (getMethod ov m pl)
   callWith pos f first (backTo pos (starEach (e::es) X.env)) (backToKw pos (keywordEach [] X.env))):=by rfl) (hx:Passes CX0 X E0:=by exact tI) :
  PE X (.Call (.Attribute o m apos) (e::es) [] pos) (abh C m sp [] E0 ta t):=by
 obtain⟨f,fd,hm,hb,F⟩:=M.ex;exact adO he M.cl hm F hr hb .nil hx ha hst hpl ht
theorem afr{pl:Sem Bool}(he:PE X o ta)(M:Me X.prog X.w X.K X.mg X.base k C m ps sp)(hr:e6 k X.A)
  (ht:eval (.Call (.Attribute o m apos) [] [] pos) X.env=(do
   let ov ← eval o X.env
   standAt apos.atName
   let (f,first) ← holding [ov] (getMethod ov m pl)
   callWith pos f first (backTo pos (starEach [] X.env)) (backToKw pos (keywordEach [] X.env))):=by rfl) (hx:Passes CX0 X E0:=by exact tI) :
  PE X (.Call (.Attribute o m apos) [] [] pos) (abh C m sp [] E0 ta aed):=by
 obtain⟨f,fd,hm,hb,F⟩:=M.ex;exact aa0 he M.cl hm F hr hb .nil hx ht
theorem ahp(M:Kl X.prog X.w X.K X.mg X.base k x C n fs)(hr:e6 (k+1) X.A)(ha:PA X (e::es) t)(hg:Gl X x:=by rfl)(hdb:(x==("__debug__" : Str))=false:=by decide)
  (he:starEach (e::es) X.env=(false,eval e X.env)::starEach es X.env:=by rfl) (hpl:(backTo pos (starEach es X.env)).any (·.1)=false:=by rfl) (hx:Passes CX0 X E0:=by exact tI) :
  PE X (.Call (.Name x p) (e::es) [] pos) (aef C (spI C n fs) [] E0 t):=by
 obtain⟨f,fd,ps,hm,hb,F⟩:=M.ex;exact aez (p:=p) (pos:=pos) hm F hr hg M.at_ hb (.nil) hx ha hdb he hpl
theorem ro{H1:Hp}{us:List V}{Q:VK}(hl:us.length=n)(h:∀x dx,H1 x=Option.none→H1 dx=Option.none→dx≠x→Q (.ref x) (upd (upd H1 dx (.own x)) x (.ins C dx (fs us)))) :
  ∀x dx,H1 x=Option.none→H1 dx=Option.none→dx≠x→spI C n fs (.ref x::(us++[])) (upd (upd H1 dx (.own x)) x (.ins C dx [])) (fun v H2=>v=.non∧Q (.ref x) H2) E0:=by
 intro x dx n1 n2 ne;refine⟨x,dx,us,by rw[AR],hl,ag,rfl,?_⟩;rw[bQ];exact h x dx n1 n2 ne
def iN(mg:DH)(x:Str)(n:Int):Prop:=∃t,mg x=some (.int n t)
theorem aa8{i:Int}(hg:Gl X x)(h:iN X.mg x i)(hd:(x==("__debug__" : Str))=false:=by decide):PE X (.Name x pos) (tC (.int i)):=by
 obtain⟨t,h⟩:=h;exact yH hg h ⟨t,rfl⟩ hd
theorem abd{a:Addr}(hg:Gl X x)(h:X.mg x=some (.ref a))(hd:(x==("__debug__" : Str))=false:=by decide):PE X (.Name x pos) (tC (.ref a)):=yH hg h rfl hd
end
def vi(K:DG)(H:Hp)(a:Addr)(x y:Int):Prop:=∃xs,SqT K H a xs∧xs[0]? = some (.int x)∧xs[1]? = some (.int y)
theorem vi.of2{K:DG}{H:Hp}{a:Addr}{x y:Int}{r:List V}(h:H a=some (.tup (.int x::.int y::r))):vi K H a x y:=⟨_,SqT.of h,rfl,rfl⟩
def Rows(H:Hp)(a:Addr)(R:List (List Int)):Prop:=∃as:List Addr,H a=some (.lst (as.map V.ref))∧as.length=R.length∧∀(i:Nat) (p:Addr) (r:List Int),as[i]? = some p→R[i]? = some r→H p=some (.tup (r.map V.int))
theorem Rows.same{H H':Hp}{a:Addr}{R:List (List Int)}(h:Rows H a R)(s:aL H H'):Rows H' a R:=by
 obtain⟨as,h1,h2,h3⟩:=h;exact⟨as,s _ _ h1,h2,fun i p r e1 e2=>s _ _ (h3 i p r e1 e2)⟩
theorem Rows.get{H:Hp}{a:Addr}{R:List (List Int)}(h:Rows H a R):∃xs:List V,H a=some (.lst xs)∧xs.length=R.length∧∀(i:Nat) (r:List Int),R[i]? = some r→∃p,xs[i]? = some (.ref p)∧H p=some (.tup (r.map V.int)):=by
 obtain⟨as,h1,h2,h3⟩:=h;refine⟨as.map V.ref,h1,by rw[Ab,h2],fun i r e => ?_⟩;have hi:i<as.length:=by
  have:=(List.getElem?_eq_some_iff.mp e).1;omega
 refine⟨as[i],by rw[Am,Aa hi];rfl,h3 i _ r (Aa hi) e⟩
def Sm(z:Int):Prop:=0≤z∧z<4294967296
theorem afp{a b c:Int}(ha:Sm a)(hb:Sm b):wD (a-b) c:=by
 unfold Sm at *;exact .inl ⟨by omega,by omega⟩
theorem ack{a c:Int}(ha:Sm a):wD a c:=by
 unfold Sm at *;exact .inl ⟨by omega,by omega⟩
section
variable {K:DG}{σ:L2.St}{H:Hp}{Q:VK}{i:Nat}{a:Addr}{xs:List V}{v:V}{n:Int}
theorem dG{j:Nat}(h1:σ[i]? = some (some (.ref a)))(h2:SqT K H a xs)(h3:xs[j]? = some v)(h:Q v H)(e:n=(j:Int):=by rfl):tOp (agD K) (acB i) (tC (.int n)) σ H Q :=
 ⟨_,h1,_,_,_,_,rfl,rfl,h2,by rw[e];exact aM h3,h⟩
end
theorem u4{J:It}{g:TG}{tb:TS}{D:Ends}{σ:L2.St}{H:Hp}(n:Nat)(Pv:Nat→L2.St→Hp→Prop)(h0:Pv 0 σ H)(hgo:∀i σ H,i<n→Pv i σ H→J.go i H)
  (hs:∀i x σ H H',i<n→Pv i σ H→J.yld i H x H'→g x σ H' fun σ2 H2=>tb { D with nx:=Pv (i+1),ct:=Pv (i+1),bk:=D.nx } σ2 H2) (hd:∀σ H,Pv n σ H→J.stop n H∧D.nx σ H) :
  ∃W:Nat→Nat→L2.St→Hp→Prop,(∃m,W 0 m σ H)∧∀i m σ H,W i m σ H →
   (J.stop i H∧D.nx σ H)∨(J.go i H∧∃N:L2.St→Hp→Prop,(∀σ' H',N σ' H'→∃m',m'<m∧W (i+1) m' σ' H')∧∀x H',J.yld i H x H'→g x σ H' fun σ2 H2=>tb { D with nx:=N,ct:=N,bk:=D.nx } σ2 H2):=by
 refine⟨fun i m σ H=>m=n-i∧i≤n∧Pv i σ H,⟨n,by simp,Av _,h0⟩,?_⟩;rintro i m σ H ⟨rfl,hi,p⟩
 by_cases hlt:i<n
 ·exact .inr ⟨hgo i σ H hlt p,Pv (i+1),fun σ' H' p'=>⟨n-(i+1),by omega,rfl,hlt,p'⟩,fun x H' y=>hs i x σ H H' hlt p y⟩
 ·have e:i=n:=by omega
  subst e;exact .inl (hd σ H p)
theorem kq{J:It}{g:TG}{tt:TT}{te:TE}{vs:List Nat}{σ:L2.St}{H:Hp}{R:Hp→Prop}(D:Addr)(n:Nat)(Pv:Nat→Hp→Prop)(h0:Pv 0 H)(hgo:∀i H,i<n→Pv i H→J.go i H)
  (hs:∀i x H H',i<n→Pv i H→J.yld i H x H'→g x (wipe σ vs) H' fun σ2 H2=>wipe σ2 vs=wipe σ vs∧tt σ2 H2 fun b H3 =>
   if b=true then te σ2 H3 fun y H4=>∃acc,H4 D=some (.lst acc)∧acc.length<sizeLine∧Pv (i+1) (upd H4 D (.lst (acc++[y]))) else Pv (i+1) H3) (hd:∀H,Pv n H→J.stop n H∧R H) :
  ∃W:Nat→Nat→Hp→Prop,(∃m,W 0 m H)∧∀i m H,W i m H →
   (J.stop i H∧R H)∨(J.go i H∧∃Nx:Hp→Prop,(∀H',Nx H'→∃m',m'<m∧W (i+1) m' H')∧∀x H',J.yld i H x H'→g x (wipe σ vs) H' fun σ2 H2=>wipe σ2 vs=wipe σ vs∧tt σ2 H2 fun b H3 =>
    if b=true then te σ2 H3 fun y H4=>∃acc,H4 D=some (.lst acc)∧acc.length<sizeLine∧Nx (upd H4 D (.lst (acc++[y]))) else Nx H3):=by
 refine⟨fun i m H=>m=n-i∧i≤n∧Pv i H,⟨n,by simp,Av _,h0⟩,?_⟩;rintro i m H ⟨rfl,hi,p⟩
 by_cases hlt:i<n
 ·exact .inr ⟨hgo i H hlt p,Pv (i+1),fun H' p'=>⟨n-(i+1),by omega,rfl,hlt,p'⟩,fun x H' y=>hs i x H H' hlt p y⟩
 ·have e:i=n:=by omega
  subst e;exact .inl (hd H p)
def leZ:List Int→Int
 | []=>0
 | c::r=>c+256*leZ r
def eV(ns:List Int)(st len:Nat):Int:=leZ ((ns.drop st).take len)
theorem oP(xs:List V)(a b:Nat):kS xs (some (a:Int)) (some (b:Int))=(xs.drop a).take (b-a):=by
 unfold kS;rw[HT.mj,HT.mj]
 by_cases h:a≤xs.length
 ·rw[B2 h]
  by_cases h2:b≤xs.length
  ·rw[B2 h2]
  ·rw[BL (by omega),AK (by rw[Bl];omega),AK (by rw[Bl];omega)]
 ·rw[show min a xs.length=xs.length by omega,Cz (Ae _),Cz (show xs.length≤a by omega),List.take_nil,List.take_nil]
theorem ah{H:Hp}{p:Addr}{o:HO}(h:H p=Option.none):aL H (upd H p o):=fun b u e=>by
 rw[az (aN e h)];exact e
theorem mG:∀{l:List Int},(∀z∈l,0≤z∧z<256)→0≤leZ l∧(l.length≤4→leZ l<4294967296)∧(l.length≤3→leZ l<16777216)∧(l.length≤2→leZ l<65536)∧(l.length≤1→leZ l<256)∧(l.length≤0→leZ l<1)
 | [],_=>⟨C8 0,fun _=>by decide,fun _=>by decide,fun _=>by decide,fun _=>by decide,fun _=>by decide⟩
 | c::r,h=>by
  have ih:=mG (l:=r) fun z hz=>h z (Af _ hz);have hc:=h c (Ah ..);show 0≤c+256*leZ r∧_;simp only[leZ,Aq];refine⟨by omega,fun q => ?_,fun q => ?_,fun q => ?_,fun q => ?_,fun q=>by omega⟩
  ·have:=ih.2.2.1 (by omega);omega
  ·have:=ih.2.2.2.1 (by omega);omega
  ·have:=ih.2.2.2.2.1 (by omega);omega
  ·have:=ih.2.2.2.2.2 (by omega);omega
def nA(K:DG)(a:Addr)(xs:List V):Prop:=∀H:Hp,SqT K H a xs
theorem vd:∀l m:List Int,PyData.eqvAll (l.map PyData.int) (m.map PyData.int)=decide (l=m)
 | [],[]=>rfl
 | [],b::m=>by simp[PyData.eqvAll]
 | a::l,[]=>by simp[PyData.eqvAll]
 | a::l,b::m=>by
  show(PyData.eqv (.int a) (.int b)&&PyData.eqvAll (l.map PyData.int) (m.map PyData.int))=_;rw[vd l m,PyData.eqv]
  by_cases h:a=b
  ·subst h;simp
  ·simp[h]
theorem lay_ints:∀l:List Int,PyData.canLayAll0 (l.map PyData.int)=true
 | []=>rfl
 | a::l=>by
  show(PyData.canLay0 (.int a)&&PyData.canLayAll0 (l.map PyData.int))=true;rw[lay_ints l];rfl
theorem ot:∀l:List Int,PyData.depthAll (l.map PyData.int)≤1
 | []=>by simp[PyData.depthAll]
 | a::l=>by
  have:=ot l;simp only[A3,PyData.depthAll,PyData.depth];omega
theorem oC(l:List Int):SeqAt.shaped (.tuple (l.map PyData.int))=true:=by
 unfold SeqAt.shaped;have h1:PyData.canLay0 (.tuple (l.map PyData.int))=true:=lay_ints l;have h2:PyData.depth (.tuple (l.map PyData.int))≤64:=by
  have:=ot l;simp only[PyData.depth];omega
 rw[h1,Ak h2];rfl
theorem sQ{K:DG}{H:Hp}:∀l:List Int,tH K H (l.map V.int) (l.map PyData.int)
 | []=>.nil
 | a::l=>.cons (.int a) (sQ l)
theorem aH{H0 H:Hp}{D:Addr}{o:HO}(s:aL H0 H)(n:H0 D=Option.none):aL H0 (upd H D o):=fun b u e=>by
 rw[az (aN e n)];exact s b u e
theorem Rows.nil{H:Hp}{a:Addr}(h:H a=some (.lst [])):Rows H a []:=⟨[],h,rfl,fun i p r e=>by simp at e⟩
theorem Rows.snoc{H:Hp}{a p:Addr}{R:List (List Int)}{acc:List V}{r:List Int}(h:Rows H a R)(ha:H a=some (.lst acc))(hp:H p=some (.tup (r.map V.int))):Rows (upd H a (.lst (acc++[.ref p]))) a (R++[r]):=by
 obtain⟨as,h1,h2,h3⟩:=h;rw[ha] at h1;obtain rfl:acc=as.map V.ref:=by injection h1 with h1;injection h1
 refine⟨as++[p],by rw[ag,As];rfl,by rw[Ai,Ai,h2];rfl,fun i q t e1 e2 => ?_⟩;have ne:∀{q:Addr} {ys:List V},H q=some (.tup ys)→q≠a:=fun hq=>sV hq ha (fun z=>nomatch z)
 by_cases hi:i<as.length
 ·rw[Aw hi] at e1
  rw[Aw (by omega)] at e2;have hq:=h3 i q t e1 e2;rw[az (ne hq)];exact hq
 ·have hi':i=as.length:=by
   have:=(List.getElem?_eq_some_iff.mp e1).1;rw[Ai] at this;simp at this;omega
  subst hi';rw[Ao (Ae _),AO] at e1;rw[Ao (by omega),← h2,AO] at e2;obtain rfl:p=q:=Ac e1;obtain rfl:r=t:=Ac e2;rw[az (ne hp)];exact hp
theorem Rows.lst{H:Hp}{a:Addr}{R:List (List Int)}(h:Rows H a R):∃acc,H a=some (.lst acc)∧acc.length=R.length:=by
 obtain⟨as,h1,h2,_⟩:=h;exact⟨_,h1,by rw[Ab,h2]⟩
theorem rgc{i:Int}{n:Nat}{c:Int}(hc:c=4∨c=8∨c=12)(h0:0≤i)(h1:i+c*n<2 ^ 62):RgC i (i+c*n) c n:=by
 have sz:Builtin.Range.rangeSize i (i+c*n) c=n:=by
  unfold Builtin.Range.rangeSize;rcases hc with rfl|rfl|rfl
  ·rw[Ag (by decide)];split <;> omega
  ·rw[Ag (by decide)];split <;> omega
  ·rw[Ag (by decide)];split <;> omega
 refine⟨by omega,by omega,?_,sz⟩;unfold Builtin.Range.small;rw[sz,Ag (show c>0 by omega)];simp only[Builtin.Range.rangeFitsLong,Ar,BU,Ap,Cm];have nn:(n:Int)≤c*n:=by rcases hc with rfl|rfl|rfl <;> omega
 have b:4≤c∧c≤12:=by omega
 clear hc sz;generalize c*(n:Int)=s at *
 omega
def bz(b:List UInt8):List Int:=b.map fun c=>(c.toNat:Int)
theorem za(b:List UInt8):leZ (bz b)=(Gla.numLe b:Int):=by
 induction b with
 | nil=>rfl
 | cons c r ih =>
  show(c.toNat:Int)+256*leZ (bz r)=_;rw[ih];simp[Gla.numLe]
theorem iT(b:List UInt8)(st len:Nat):eV (bz b) st len=(Gla.num b st len:Int):=by
 unfold eV Gla.num;rw[← za];unfold bz;rw[Ci,C7]
theorem l6(b:List UInt8):∀z∈bz b,0≤z∧z<256:=by
 intro z hz;obtain⟨c,_,rfl⟩:=List.mem_map.mp hz;have:c.toNat<256:=c.toNat_lt;omega
theorem zj(b:List UInt8)(st:Nat):Gla.num b st 4<4294967296:=by
 have:=(mG (l:=bz ((b.drop st).take 4)) (l6 _)).2.1 (by unfold bz;rw[Ab,A2];omega);rw[za] at this;have e:Gla.num b st 4=Gla.numLe ((b.drop st).take 4):=rfl;omega
theorem iJ(b:List UInt8)(st:Nat):Gla.num b st 2<65536:=by
 have:=(mG (l:=bz ((b.drop st).take 2)) (l6 _)).2.2.2.1 (by unfold bz;rw[Ab,A2];omega);rw[za] at this;have e:Gla.num b st 2=Gla.numLe ((b.drop st).take 2):=rfl;omega
def aiJ(N:List Str)(sc scope:Scope)(own:List (Str×Nat)):Bool :=
 decide (scope.kind=.function)&&(scope.names.all fun y=>decide (scope.names.lookup y.1=some y.2))&&(own.all fun p=>decide (N[p.2]? = some p.1)) &&
 (scope.names.all fun y => !decide (y.2=.free)||(decide (sc.names.lookup y.1=some .cell)||decide (sc.names.lookup y.1=some .free))) &&
 (scope.names.all fun y => !(decide (y.2=.local)||decide (y.2=.cell))||(decide (y.1∈own.map (·.1)) || !decide (y.1∈N)))
theorem ff{N:List Str}{sc scope:Scope}{own:List (Str×Nat)}(h:aiJ N sc scope own=true):w6 N sc scope own:=by
 unfold aiJ at h;simp only[Ar,BM,Ap,BU,Bool.not_eq_true',Bz] at h;obtain⟨⟨⟨⟨h1,h2⟩,h3⟩,h4⟩,h5⟩:=h;refine⟨h1,fun y hy=>h2 y hy,fun p hp=>h3 p hp,fun y hy e => ?_,fun y hy e => ?_⟩
 ·rcases h4 y hy with z|z
  ·exact absurd e z
  ·exact z
 ·rcases h5 y hy with z|z
  ·rw[AW] at z
   simp only[Bz] at z;rcases e with e|e
   ·exact absurd e z.1
   ·exact absurd e z.2
  ·exact z
theorem lA{σ:L2.St}{H:Hp}{A B:Hp→Prop}(h:A H):aib σ H (fun b H3=>if b=true then A H3 else B H3):=by
 show if true=true then A H else B H
 rw[Ag rfl];exact h
theorem tf{σ:L2.St}{H:Hp}{Q:List V→Hp→Prop}(h:Q [] H):aed σ H Q:=h
theorem fsc{N ps:List Str}{sc:Scope}(h1:sc.kind=.function:=by rfl)(h2:sc.isCoroutine=false:=by rfl)(h3:sc.isGenerator=false:=by rfl)(h4:N.Nodup:=by decide +kernel)(h5:N.take ps.length=ps:=by rfl)
  (h6:∀x∈ps,sc.names.lookup x=some .local∨sc.names.lookup x=some .cell:=by decide +kernel) (h7:∀y∈sc.names,y.2≠.free:=by decide +kernel):bG N ps sc:=⟨h1,h2,h3,h4,h5,h6,h7⟩
section
variable {P:Program}{w:World}{K:DG}{mg:DH}{base:Heap}{k:Nat}{x m q:Str}{ps:List Str}{sp:Sp}{st:Stmt}{C:Addr}
theorem Def.fx(D:Def K mg x st ps)(N:List Str)
  (i6:N.Nodup→∀(f:Addr) (cdv:Value) (A:Around) (outer:List Env) (s:Shared) (H:Hp) (vs:List V) (Q:VK) (E:XK),e6 k (A.deeper (envOfC x (aE st) s.heap.objs.size f cdv))→sp vs H Q E →
   ∃t,PSs (wI CX0 P w K mg base N x (aE st) f cdv A outer s H E).nox (bT st) t∧t { nx:=fun _ H'=>Q .non H',rt:=Q } (start N vs) H)
  (S:bG N ps (aE st):=by exact fsc) (len:∀vs H Q E,sp vs H Q E→vs.length=ps.length:=by intro _ _ _ _ h;cases h;subst_vars;rfl) :
  Fn P w K mg base (k+1) x ps sp:=D.fn S len (i6 S.nd)
theorem vN.fx(D:vN K C m q st ps)(cl:Cls K C)(N:List Str)
  (i6:N.Nodup→∀(f:Addr) (cdv:Value) (A:Around) (outer:List Env) (s:Shared) (H:Hp) (vs:List V) (Q:VK) (E:XK),e6 k (A.deeper (envOfC q (aE st) s.heap.objs.size f cdv))→sp vs H Q E →
   ∃t,PSs (wI CX0 P w K mg base N q (aE st) f cdv A outer s H E).nox (bT st) t∧t { nx:=fun _ H'=>Q .non H',rt:=Q } (start N vs) H)
  (S:bG N ps (aE st):=by exact fsc) (len:∀vs H Q E,sp vs H Q E→vs.length=ps.length:=by intro _ _ _ _ h;cases h;subst_vars;rfl) :
  Me P w K mg base (k+1) C m ps sp:=D.me cl S len (i6 S.nd)
theorem Fun.fx{f:Addr}{fd:FuncData}(F:Fun K x q st f fd)(N:List Str)
  (i6:N.Nodup→∀(cdv:Value) (A:Around) (outer:List Env) (s:Shared) (H:Hp) (vs:List V) (Q:VK) (E:XK),e6 k (A.deeper (envOfC q (aE st) s.heap.objs.size f cdv))→sp vs H Q E →
   ∃t,PSs (wI CX0 P w K mg base N q (aE st) f cdv A outer s H E).nox (bT st) t∧t { nx:=fun _ H'=>Q .non H',rt:=Q } (start N vs) H)
  (S:bG N ps (aE st):=by exact fsc) (len:∀vs H Q E,sp vs H Q E→vs.length=ps.length:=by intro _ _ _ _ h;cases h;subst_vars;rfl) :
  nB P w K mg base CX0 (k+1) f fd ps sp:=F.ok S len (i6 S.nd)
end
section
variable {X:Cx}{a b c e o:Expr}{es:List Expr}{te ta tb to:TE}{tc:TT}{t:TA}{u:TS}{sts:List Stmt}{x:Str}{p pos apos cpos:Pos}{j k n:Nat}{ps:List Str}{sp:Sp}{C:Addr}{fs:List V→List (Str×V)}
theorem kxL(hm:X.mg "len" = none)(ha:PE X e te)(hg:Gl X "len" := by rfl)(he:starEach [e] X.env=(false,eval e X.env)::starEach [] X.env:=by rfl):PE X (.Call (.Name "len" p) [e] [] pos) (tCB (fun xs H Q=>ahG X.K xs H Q) (aa4 te aed)) :=
 cT qd hg hm PySem.boot_len (ab ha ak he) (he:=he)
theorem kxI(ha:PE X a ta)(hb:PE X b tb)(hs:tu b:=by exact fun _ _=>rfl):PE X (.Subscript a b pos) (tOp (af5 X.K) ta tb):=sS zm ha hb hs
theorem kxT(ha:PE X a ta)(hb:PE X b tb)(hs:tu b:=by exact fun _ _=>rfl):PE X (.Subscript a b pos) (tOp (agD X.K) ta tb):=sS acz ha hb hs
theorem kxG{i:Int}(h:iN X.mg x i)(hg:Gl X x:=by rfl)(hd:(x==("__debug__" : Str))=false:=by decide):PE X (.Name x pos) (tC (.int i)):=aa8 hg h hd
theorem kxR{a:Addr}(h:X.mg x=some (.ref a))(hg:Gl X x:=by rfl)(hd:(x==("__debug__" : Str))=false:=by decide):PE X (.Name x pos) (tC (.ref a)):=abd hg h hd
theorem kxA(ho:PE X o to)(ha:PE X e te)(tZ:attributeBase o "append" X.env (eval o X.env)=eval o X.env:=by rfl)
  (agX:((backTo cpos (starEach [e] X.env)).all (fun x => !x.1)&&(backToKw cpos (keywordEach [] X.env)).all (fun x=>x.1.isSome)&&decide ([e].length+([]:List Keyword).length+(if ([]:List Keyword).isEmpty then 0 else 1)<30))=true:=by rfl)
  (t6:(apos.endLine==cpos.line)=true:=by rfl) (hs:starEach [e] X.env=(false,eval e X.env)::starEach [] X.env:=by rfl):PE X (.Call (.Attribute o "append" apos) [e] [] cpos) (tBM X.K "list" tE to (aa4 te aed)) :=
 agF PySem.F.plainAttrs_list PySem.F.slot_list_append PySem.F.type_list_append zJ ho (ab ha ak hs) tZ agX t6 hs
theorem kxX(ho:PE X o to)(ha:PE X e te)(tZ:attributeBase o "extend" X.env (eval o X.env)=eval o X.env:=by rfl)
  (agX:((backTo cpos (starEach [e] X.env)).all (fun x => !x.1)&&(backToKw cpos (keywordEach [] X.env)).all (fun x=>x.1.isSome)&&decide ([e].length+([]:List Keyword).length+(if ([]:List Keyword).isEmpty then 0 else 1)<30))=true:=by rfl)
  (t6:(apos.endLine==cpos.line)=true:=by rfl) (hs:starEach [e] X.env=(false,eval e X.env)::starEach [] X.env:=by rfl):PE X (.Call (.Attribute o "extend" apos) [e] [] cpos) (tBM X.K "list" xZ to (aa4 te aed)) :=
 agF PySem.F.plainAttrs_list PySem.F.slot_list_extend PySem.F.type_list_extend yL ho (ab ha ak hs) tZ agX t6 hs
theorem kxq(ha:PE X a ta)(hb:PE X b tb):PT X (.Compare a [.Eq] [b] pos) (vY (tOp rEq ta tb)):=gn adl ha hb (a8 _)
theorem kxn(ha:PE X a ta)(hb:PE X b tb):PT X (.Compare a [.NotEq] [b] pos) (vY (tOp rNe ta tb)):=gn ahu ha hb (a8 _)
theorem kxl(ha:PE X a ta)(hb:PE X b tb):PT X (.Compare a [.Lt] [b] pos) (vY (tOp (rI0 fun i j=>.bl (decide (i<j))) ta tb)):=gn vH ha hb (a8 _)
theorem kxg(ha:PE X a ta)(hb:PE X b tb):PT X (.Compare a [.Gt] [b] pos) (vY (tOp (rI0 fun i j=>.bl (decide (j<i))) ta tb)):=gn lD ha hb (a8 _)
theorem ag3(ha:PE X a ta)(hb:PE X b tb):PT X (.Compare a [.GtE] [b] pos) (vY (tOp (rI0 fun i j=>.bl (decide (j≤i))) ta tb)):=gn agb ha hb (a8 _)
theorem kxF(F:Fn X.prog X.w X.K X.mg X.base j x ps sp)(hr:e6 k X.A)(ha:PA X (e::es) t)(hk:j≤k:=by decide)(hg:Gl X x:=by rfl)(hdb:(x==("__debug__" : Str))=false:=by decide)
  (he:starEach (e::es) X.env=(false,eval e X.env)::starEach es X.env:=by rfl) (hpl:(backTo pos (starEach es X.env)).any (·.1)=false:=by rfl) (hx:Passes CX0 X E0:=by exact tI) :
  PE X (.Call (.Name x p) (e::es) [] pos) (aek sp [] E0 t):=ahN F (hr.mono hk) ha hg hdb he hpl hx
theorem kxK(M:Kl X.prog X.w X.K X.mg X.base j x C n fs)(hr:e6 k X.A)(ha:PA X (e::es) t)(hk:j+1≤k:=by decide)(hg:Gl X x:=by rfl)(hdb:(x==("__debug__" : Str))=false:=by decide)
  (he:starEach (e::es) X.env=(false,eval e X.env)::starEach es X.env:=by rfl) (hpl:(backTo pos (starEach es X.env)).any (·.1)=false:=by rfl) (hx:Passes CX0 X E0:=by exact tI) :
  PE X (.Call (.Name x p) (e::es) [] pos) (aef C (spI C n fs) [] E0 t):=ahp M (hr.mono hk) ha hg hdb he hpl hx
theorem kxr(he:PE X e te):PSs X [.Return (some e) pos] (ahf te):=aF (aeU he)
theorem kxf(hc:PT X c tc)(he:PE X e te)(hb:PSs X sts u):PSs X (.If c [.Return (some e) p] [] pos::sts) (adW (aiA tc (ahf te) agz) u):=aA (di hc (kxr he) bb) hb
theorem kxs(i:Nat)(hN:X.N.Nodup)(he:PE X e te)(hb:PSs X sts u)(hi:X.N[i]? = some x:=by rfl)(hx:Loc X.env.scope x:=by first|exact .inl rfl|exact .inr rfl)(hs:swapsWith e (some (.Name x p)) pos.line X.env=pure false:=by rfl)(hf:X.fn x=true∨X.env.scope.names.lookup x=some .local:=by first|exact .inl rfl|exact .inr rfl) :
  PSs X (.Assign [.Name x p] e pos::sts) (adW (ahT te (o8 i)) u):=aA (lV hN hi hx he hs hf) hb
theorem kxo(i:Nat)(hN:X.N.Nodup)(hi:X.N[i]? = some x:=by rfl)(hx:Loc X.env.scope x:=by first|exact .inl rfl|exact .inr rfl)(hf:X.fn x=true∨X.env.scope.names.lookup x=some .local:=by first|exact .inl rfl|exact .inr rfl|assumption):PG X (.Name x pos) (o8 i):=aea hN hi hx hf
theorem kxe(he:PE X e te)(hb:PSs X sts u)(hs:swapsWith e none pos.line X.env=pure false:=by rfl):PSs X (.Expr e pos::sts) (adW (afC te) u):=aA (iM he hs) hb
end
theorem us1{α:Type}{l:List α}(h:l.length=1):∃a,l=[a]:=match l,h with|[a],_=>⟨a,rfl⟩
theorem us2{α:Type}{l:List α}(h:l.length=2):∃a b,l=[a,b]:=match l,h with|[a,b],_=>⟨a,b,rfl⟩
theorem us3{α:Type}{l:List α}(h:l.length=3):∃a b c,l=[a,b,c]:=match l,h with|[a,b,c],_=>⟨a,b,c,rfl⟩
theorem us4{α:Type}{l:List α}(h:l.length=4):∃a b c d,l=[a,b,c,d]:=match l,h with|[a,b,c,d],_=>⟨a,b,c,d,rfl⟩
theorem us5{α:Type}{l:List α}(h:l.length=5):∃a b c d e,l=[a,b,c,d,e]:=match l,h with|[a,b,c,d,e],_=>⟨a,b,c,d,e,rfl⟩
theorem us6{α:Type}{l:List α}(h:l.length=6):∃a b c d e f,l=[a,b,c,d,e,f]:=match l,h with|[a,b,c,d,e,f],_=>⟨a,b,c,d,e,f,rfl⟩
def af2:HO→Nat
 | .ins _ _ _=>0
 | .lst _=>1
 | .dK _=>2
 | .tup _=>3
 | _=>4
theorem bw{H:Hp}{a b:Addr}{o u:HO}(h:H a=some o)(h':H b=some u)(d:(af2 o==af2 u)=false:=by rfl):a≠b:=sV h h' fun e=>by rw[e,Di] at d;cases d
abbrev IsZ(h:Heap)(z TI TO:Addr)(f0 f1:Value):Prop :=
 h.get? z=some { cls:=.type "zip",dict:=none,data:=.fields #[f0,f1,.bool false,.ref TI,.ref TO],slots := #[] }
def qU(f0:Value):Prop:=f0=.none∨∃T:Addr,f0=rawInt T
section
variable {prog:Program}{w:World}{A:Around}{E:Value→Shared→Prop}{s:Shared}
theorem abx{a:Addr}{Q:Option Obj→Shared→Prop}(h:Q (s.heap.get? a) s):wpAny (model prog w) A (loadIfAlive a) Q E s:=fun Γ p _=>by
 show Sem.wp _ _ (Sem.loadIfAlive a Sem.pure) _ _ _ _;simp only[Sem.wp];exact h
theorem abU{z TI TO:Addr}{f0:Value}{b1:Bool}{Q:Bool→Shared→Prop}(hz:IsZ s.heap z TI TO f0 (.bool b1))(hf:qU f0)(h1:Q true s)
  (h2:∀h',IsZ h' z TI TO f0 (.bool true)→Heap.SameBut z s.heap h'→Q false { s with heap:=h' }):wpAny (model prog w) A (Builtin.SmallTypes.ownedTupleIsFree (.ref z)) Q E s:=by
 unfold Builtin.SmallTypes.ownedTupleIsFree;rcases hf with rfl|⟨T,rfl⟩
 ·exact wpAny_bind (wpAny_field hz rfl (x:=.none) rfl (wpAny_pure h1))
 ·refine wpAny_bind (wpAny_field hz rfl (x:=rawInt T) rfl ?_)
  show wpAny _ _ (loadIfAlive ((T:Int).toNat) >>= _) _ _ _;refine wpAny_bind (abx ?_);cases q:s.heap.get? (T:Int).toNat with
  | none=>exact wpAny_pure h1
  | some o =>
   show wpAny _ _ (field (.ref z) 1 >>= _) _ _ _;refine wpAny_bind (wpAny_field hz rfl (x:=.bool b1) rfl ?_);cases b1 with
   | true=>exact wpAny_pure (h2 _ hz ⟨rfl,fun _ _=>rfl⟩)
   | false=>exact wpAny_bind (wpAny_setField_rec hz (by simp) fun h' hz' sb=>wpAny_pure (h2 h' hz' sb))
theorem af1{z TI TO i1 i2 l1 l2:Addr}{k1 k2:Nat}{xs ys:Array Value}{x y f0:Value}{b1:Bool}{Q:Value→Shared→Prop}(D:ZipApart z TI TO i1 i2 l1 l2)(hz:IsZ s.heap z TI TO f0 (.bool b1))(hf:qU f0)
  (hTI:IsPair s.heap TI (.ref i1) (.ref i2)) (hTO:∃a b,IsPair s.heap TO a b) (h1:s.heap.IsListIter i1 l1 k1) (h2:s.heap.IsListIter i2 l2 k2) (hl1:s.heap.IsList l1 xs) (hl2:s.heap.IsList l2 ys)
  (hx:xs[k1]? = some x) (hy:ys[k2]? = some y)
  (hQ:∀h' f0' b',IsZ h' z TI TO f0' (.bool b')→qU f0'→(∃a b,IsPair h' TO a b)→h'.IsListIter i1 l1 (k1+1)→h'.IsListIter i2 l2 (k2+1)→IsPair h' s.heap.objs.size x y →
   (∀c o,c≠z→c≠TO→c≠i1→c≠i2→s.heap.get? c=some o→h'.get? c=some o)→Q (.ref s.heap.objs.size) { s with heap:=h' }) :
  wpAny (model prog w) A (Builtin.«zip.__next__» ⟨[.ref z],[]⟩) (fun fin s'=>∃v,fin=.done (.ret v)∧Q v s') E s:=by
 obtain⟨a,b,hTO⟩:=hTO;show wpAny _ _ (field (.ref z) 2 >>= _) _ _ _;refine wpAny_bind (wpAny_field hz rfl (x:=.bool false) rfl ?_);show wpAny _ _ (field (.ref z) 3 >>= _) _ _ _;refine wpAny_bind (wpAny_field hz rfl (x:=.ref TI) rfl ?_);refine wpAny_bind (wpAny_seqItems hTI rfl ?_);show wpAny _ _ (Builtin.SmallTypes.ownedTupleIsFree (.ref z) >>= _) _ _ _;refine wpAny_bind (abU hz hf ?_ fun g hg sg => ?_)
 ·simp only[CU]
  refine wpAny_bind (wpAny_rule (wpAny_bind (wpAny_field hz rfl (x:=.ref TO) rfl (wpAny_bind (wpAny_setField_rec hz (by simp) fun g1 z1 e1 => ?_)))))
  replace z1:IsZ g1 z TI TO .ellipsis (.bool b1):=z1
  refine wpAny_bind ?_;simp only[Dr,List.zipIdx_nil,Ck,Ca];refine wpAny_bind (wpAny_bind (wpAny_onRaise ?_));show wpAny _ _ (Builtin.SmallTypes.nextOf (.ref i1) >>= _) _ _ _;refine wpAny_bind (wpAny_nextOf_list_item (h1.extBut e1.extBut D.i1z) (hl1.extBut e1.extBut D.l1z) hx fun g2 it2 e2=>wpAny_pure ?_);have o2:IsPair g2 TO a b:=e2.extBut _ _ D.TOi1 (e1.extBut _ _ D.TOz hTO);refine wpAny_bind (wpAny_seqItems o2 rfl (wpAny_bind (wpAny_updateSeq_pair o2 fun g3 o3 e3 => ?_)))
  replace o3:IsPair g3 TO x b:=o3
  refine wpAny_bind (wpAny_letGo (wpAny_pure (wpAny_bind (wpAny_bind (wpAny_onRaise ?_)))));show wpAny _ _ (Builtin.SmallTypes.nextOf (.ref i2) >>= _) _ _ _;refine wpAny_bind (wpAny_nextOf_list_item (((h2.extBut e1.extBut D.i2z).extBut e2.extBut D.i12.symm).extBut e3.extBut D.TOi2.symm) (((hl2.extBut e1.extBut D.l2z).extBut e2.extBut D.l2i1).extBut e3.extBut D.l2TO) hy fun g4 it4 e4=>wpAny_pure ?_);have o4:IsPair g4 TO x b:=e4.extBut _ _ D.TOi2 o3;refine wpAny_bind (wpAny_seqItems o4 rfl (wpAny_bind (wpAny_updateSeq_pair o4 fun g5 o5 e5 => ?_)))
  replace o5:IsPair g5 TO x y:=o5
  refine wpAny_bind (wpAny_letGo (wpAny_pure (wpAny_pure ?_)));refine wpAny_bind (wpAny_seqItems o5 rfl (wpAny_bind (wpAny_newTuple ?_)));have sz:g5.objs.size=s.heap.objs.size:=by rw[e5.1,e4.1,e3.1,e2.1,e1.1]
  have z5:IsZ g5 z TI TO .ellipsis (.bool b1):=e5.extBut _ _ D.TOz.symm (e4.extBut _ _ D.i2z.symm (e3.extBut _ _ D.TOz.symm (e2.extBut _ _ D.i1z.symm z1)));have k5:∀c o,c≠z→c≠TO→c≠i1→c≠i2→s.heap.get? c=some o→g5.get? c=some o:=fun c o c1 c2 c3 c4 e =>
   e5.extBut _ _ c2 (e4.extBut _ _ c4 (e3.extBut _ _ c2 (e2.extBut _ _ c3 (e1.extBut _ _ c1 e))))
  have n1:g5.IsListIter i1 l1 (k1+1):=((it2.extBut e3.extBut D.TOi1.symm).extBut e4.extBut D.i12).extBut e5.extBut D.TOi1.symm;have n2:g5.IsListIter i2 l2 (k2+1):=it4.extBut e5.extBut D.TOi2.symm;have zl:z<g5.objs.size:=Heap.lt_size z5;show wpAny _ _ (Builtin.SmallTypes.ownedTupleHandOut (.ref z) (.ref g5.objs.size) >>= _) _ _ _;refine wpAny_bind ?_;unfold Builtin.SmallTypes.ownedTupleHandOut;have z6:IsZ (g5.push { cls:=.type "tuple",data:=.seq #[x,y] }) z TI TO .ellipsis (.bool b1):=Heap.get?_push_of_some _ z5;refine wpAny_bind (wpAny_setField_rec z6 (by simp) fun g7 z7 e7 => ?_)
  replace z7:IsZ g7 z TI TO (rawInt g5.objs.size) (.bool b1):=z7
  refine wpAny_setField_rec z7 (by simp) fun g8 z8 e8 => ?_
  replace z8:IsZ g8 z TI TO (rawInt g5.objs.size) (.bool false):=z8
  have up:∀c o,c≠z→g5.get? c=some o→g8.get? c=some o:=fun c o c1 e=>e8.extBut _ _ c1 (e7.extBut _ _ c1 (Heap.get?_push_of_some _ e));have t8:IsPair g8 g5.objs.size x y:=e8.extBut _ _ (BG zl) (e7.extBut _ _ (BG zl) (Heap.get?_push_size _ rfl));refine wpAny_pure ⟨_,rfl,?_⟩;show Q (.ref g5.objs.size) _;rw[sz] at t8 ⊢;exact hQ g8 _ _ z8 (.inr ⟨_,rfl⟩) ⟨_,_,up _ _ D.TOz o5⟩ (n1.at fun o e=>up _ o D.i1z e) (n2.at fun o e=>up _ o D.i2z e) t8 fun c o c1 c2 c3 c4 e=>up c o c1 (k5 c o c1 c2 c3 c4 e)
 ·simp only[BA,Cq]
  refine wpAny_bind ?_;rw[← Array.forIn_toList];simp only[Ck,Ca];refine wpAny_bind (wpAny_bind (wpAny_holding ?_));show wpAny _ _ (Builtin.SmallTypes.nextOf (.ref i1) >>= _) _ _ _;refine wpAny_bind (wpAny_nextOf_list_item (h1.extBut sg.extBut D.i1z) (hl1.extBut sg.extBut D.l1z) hx fun g2 it2 e2=>wpAny_pure (wpAny_pure ?_));refine wpAny_bind (wpAny_bind (wpAny_holding ?_));show wpAny _ _ (Builtin.SmallTypes.nextOf (.ref i2) >>= _) _ _ _;refine wpAny_bind (wpAny_nextOf_list_item ((h2.extBut sg.extBut D.i2z).extBut e2.extBut D.i12.symm) ((hl2.extBut sg.extBut D.l2z).extBut e2.extBut D.l2i1) hy fun g4 it4 e4=>wpAny_pure (wpAny_pure (wpAny_pure ?_)));refine wpAny_bind (wpAny_newTuple (hsz:=by show 2≤sizeLine;decide) ?_);have sz:g4.objs.size=s.heap.objs.size:=by rw[e4.1,e2.1,sg.1]
  have z4:IsZ g4 z TI TO f0 (.bool true):=e4.extBut _ _ D.i2z.symm (e2.extBut _ _ D.i1z.symm hg);have o4:IsPair g4 TO a b:=e4.extBut _ _ D.TOi2 (e2.extBut _ _ D.TOi1 (sg.extBut _ _ D.TOz hTO));have n1:g4.IsListIter i1 l1 (k1+1):=it2.extBut e4.extBut D.i12;refine wpAny_pure ⟨_,rfl,?_⟩;show Q (.ref g4.objs.size) _;have t4:IsPair (g4.push { cls:=.type "tuple",data:=.seq #[x,y] }) g4.objs.size x y:=Heap.get?_push_size _ rfl;rw[sz] at t4 ⊢;exact hQ _ _ _ (Heap.get?_push_of_some _ z4) hf ⟨_,_,Heap.get?_push_of_some _ o4⟩ (n1.at fun o e=>Heap.get?_push_of_some _ e) (it4.at fun o e=>Heap.get?_push_of_some _ e) t4
   fun c o c1 c2 c3 c4 e=>Heap.get?_push_of_some _ (e4.extBut _ _ c4 (e2.extBut _ _ c3 (sg.extBut _ _ c1 e)))
theorem z_end{z TI TO i1 i2 l1 l2:Addr}{k1 k2:Nat}{xs ys:Array Value}{f0:Value}{b1:Bool}{Q:PySem.Fin→Shared→Prop}(hh:A.handled=none)(D:ZipApart z TI TO i1 i2 l1 l2)(hz:IsZ s.heap z TI TO f0 (.bool b1))(hf:qU f0)
  (hTI:IsPair s.heap TI (.ref i1) (.ref i2)) (hTO:∃a b,IsPair s.heap TO a b) (h1:s.heap.IsListIter i1 l1 k1) (h2:s.heap.IsListIter i2 l2 k2) (hl1:s.heap.IsList l1 xs) (hl2:s.heap.IsList l2 ys)
  (hend:xs[k1]? = none∨ys[k2]? = none)
  (hE:∀h' e,(∀c o,c≠z→c≠TO→c≠i1→c≠i2→s.heap.get? c=some o→h'.get? c=some o)→(∃o,h'.get? e=some o∧o.cls=.type "StopIteration")→E (.ref e) { s with heap:=h' }) :
  wpAny (model prog w) A (Builtin.«zip.__next__» ⟨[.ref z],[]⟩) Q E s:=by
 obtain⟨a,b,hTO⟩:=hTO;show wpAny _ _ (field (.ref z) 2 >>= _) _ _ _;refine wpAny_bind (wpAny_field hz rfl (x:=.bool false) rfl ?_);show wpAny _ _ (field (.ref z) 3 >>= _) _ _ _;refine wpAny_bind (wpAny_field hz rfl (x:=.ref TI) rfl ?_);refine wpAny_bind (wpAny_seqItems hTI rfl ?_);show wpAny _ _ (Builtin.SmallTypes.ownedTupleIsFree (.ref z) >>= _) _ _ _;refine wpAny_bind (abU hz hf ?_ fun g hg sg => ?_)
 ·simp only[CU]
  refine wpAny_bind (wpAny_rule (wpAny_bind (wpAny_field hz rfl (x:=.ref TO) rfl (wpAny_bind (wpAny_setField_rec hz (by simp) fun g1 z1 e1 => ?_)))))
  replace z1:IsZ g1 z TI TO .ellipsis (.bool b1):=z1
  refine wpAny_bind ?_;simp only[Dr,List.zipIdx_nil,Ck,Ca];refine wpAny_bind (wpAny_bind (wpAny_onRaise ?_));show wpAny _ _ (Builtin.SmallTypes.nextOf (.ref i1) >>= _) _ _ _;cases hx:xs[k1]? with
  | none =>
   refine wpAny_bind (wpAny_nextOf_list_end hh (h1.extBut e1.extBut D.i1z) (hl1.extBut e1.extBut D.l1z) hx fun g2 e e2 he => ?_);obtain⟨oe,ge,ce⟩:=he;have z2:IsZ g2 z TI TO .ellipsis (.bool b1):=e2 _ _ D.i1z.symm z1;have ez:e≠z:=fun q=>by subst q;rw[z2] at ge;cases ge;simp at ce
   exact wpAny_setField_rec z2 (by simp) fun g3 _ e3=>hE g3 e (fun c o c1 _ c3 _ q=>e3.extBut _ _ c1 (e2 _ _ c3 (e1.extBut _ _ c1 q))) ⟨oe,e3.extBut _ _ ez ge,ce⟩
  | some x =>
   have hy:ys[k2]? = none:=by
    rcases hend with q|q
    ·rw[hx] at q;cases q
    ·exact q
   refine wpAny_bind (wpAny_nextOf_list_item (h1.extBut e1.extBut D.i1z) (hl1.extBut e1.extBut D.l1z) hx fun g2 it2 e2=>wpAny_pure ?_);have o2:IsPair g2 TO a b:=e2.extBut _ _ D.TOi1 (e1.extBut _ _ D.TOz hTO);refine wpAny_bind (wpAny_seqItems o2 rfl (wpAny_bind (wpAny_updateSeq_pair o2 fun g3 o3 e3 => ?_)));refine wpAny_bind (wpAny_letGo (wpAny_pure (wpAny_bind (wpAny_bind (wpAny_onRaise ?_)))));show wpAny _ _ (Builtin.SmallTypes.nextOf (.ref i2) >>= _) _ _ _;refine wpAny_bind (wpAny_nextOf_list_end hh (((h2.extBut e1.extBut D.i2z).extBut e2.extBut D.i12.symm).extBut e3.extBut D.TOi2.symm) (((hl2.extBut e1.extBut D.l2z).extBut e2.extBut D.l2i1).extBut e3.extBut D.l2TO) hy fun g4 e e4 he => ?_);obtain⟨oe,ge,ce⟩:=he;have z4:IsZ g4 z TI TO .ellipsis (.bool b1):=e4 _ _ D.i2z.symm (e3.extBut _ _ D.TOz.symm (e2.extBut _ _ D.i1z.symm z1));have ez:e≠z:=fun q=>by subst q;rw[z4] at ge;cases ge;simp at ce
   exact wpAny_setField_rec z4 (by simp) fun g5 _ e5=>hE g5 e (fun c o c1 c2 c3 c4 q=>e5.extBut _ _ c1 (e4 _ _ c4 (e3.extBut _ _ c2 (e2.extBut _ _ c3 (e1.extBut _ _ c1 q))))) ⟨oe,e5.extBut _ _ ez ge,ce⟩
 ·simp only[BA,Cq]
  refine wpAny_bind ?_;rw[← Array.forIn_toList];simp only[Ck,Ca];refine wpAny_bind (wpAny_bind (wpAny_holding ?_));show wpAny _ _ (Builtin.SmallTypes.nextOf (.ref i1) >>= _) _ _ _;cases hx:xs[k1]? with
  | none =>
   exact wpAny_bind (wpAny_nextOf_list_end hh (h1.extBut sg.extBut D.i1z) (hl1.extBut sg.extBut D.l1z) hx fun g2 e e2 he=>hE g2 e (fun c o c1 _ c3 _ q=>e2 _ _ c3 (sg.extBut _ _ c1 q)) he)
  | some x =>
   have hy:ys[k2]? = none:=by
    rcases hend with q|q
    ·rw[hx] at q;cases q
    ·exact q
   refine wpAny_bind (wpAny_nextOf_list_item (h1.extBut sg.extBut D.i1z) (hl1.extBut sg.extBut D.l1z) hx fun g2 it2 e2=>wpAny_pure (wpAny_pure ?_));refine wpAny_bind (wpAny_bind (wpAny_holding ?_));show wpAny _ _ (Builtin.SmallTypes.nextOf (.ref i2) >>= _) _ _ _;exact wpAny_bind (wpAny_nextOf_list_end hh ((h2.extBut sg.extBut D.i2z).extBut e2.extBut D.i12.symm) ((hl2.extBut sg.extBut D.l2z).extBut e2.extBut D.l2i1) hy fun g4 e e4 he=>hE g4 e (fun c o c1 c2 c3 c4 q=>e4 _ _ c4 (e2.extBut _ _ c3 (sg.extBut _ _ c1 q))) he)
theorem afK{z TI TO i1 i2 l1 l2:Addr}{k1 k2:Nat}{xs ys:Array Value}{x y f0:Value}{b1:Bool}{Q:Option Value→Shared→Prop}(D:ZipApart z TI TO i1 i2 l1 l2)(hz:IsZ s.heap z TI TO f0 (.bool b1))(hf:qU f0)
  (hTI:IsPair s.heap TI (.ref i1) (.ref i2)) (hTO:∃a b,IsPair s.heap TO a b) (h1:s.heap.IsListIter i1 l1 k1) (h2:s.heap.IsListIter i2 l2 k2) (hl1:s.heap.IsList l1 xs) (hl2:s.heap.IsList l2 ys)
  (hx:xs[k1]? = some x) (hy:ys[k2]? = some y)
  (hQ:∀h' f0' b',IsZ h' z TI TO f0' (.bool b')→qU f0'→(∃a b,IsPair h' TO a b)→h'.IsListIter i1 l1 (k1+1)→h'.IsListIter i2 l2 (k2+1)→IsPair h' s.heap.objs.size x y →
   (∀c o,c≠z→c≠TO→c≠i1→c≠i2→s.heap.get? c=some o→h'.get? c=some o)→Q (some (.ref s.heap.objs.size)) { s with heap:=h' }) :
  wpAny (model prog w) A (pyNext (.ref z)) Q E s:=by
 have hT:s.TypeIs (.ref z) "zip" := ⟨_,hz,rfl⟩;unfold pyNext;exact wpAny_bind (wpAny_attempt (wpAny_callSpecial?_slot (name:=Str.ofString "__next__") hT F.slot_zip_next
  (wpAny_call_entry F.slot_zip_next hT F.entry_zip_next (af1 D hz hf hTI hTO h1 h2 hl1 hl2 hx hy fun h' a b c1 c2 c3 c4 c5 c6 c7=>wpAny_pure (hQ h' a b c1 c2 c3 c4 c5 c6 c7)) (F.args_zip_next_1 _))))
theorem agf{z TI TO i1 i2 l1 l2:Addr}{k1 k2:Nat}{xs ys:Array Value}{f0:Value}{b1:Bool}{Q:Option Value→Shared→Prop}(hh:A.handled=none)(D:ZipApart z TI TO i1 i2 l1 l2)(hz:IsZ s.heap z TI TO f0 (.bool b1))(hf:qU f0)
  (hTI:IsPair s.heap TI (.ref i1) (.ref i2)) (hTO:∃a b,IsPair s.heap TO a b) (h1:s.heap.IsListIter i1 l1 k1) (h2:s.heap.IsListIter i2 l2 k2) (hl1:s.heap.IsList l1 xs) (hl2:s.heap.IsList l2 ys)
  (hend:xs[k1]? = none∨ys[k2]? = none) (hQ:∀h',(∀c o,c≠z→c≠TO→c≠i1→c≠i2→s.heap.get? c=some o→h'.get? c=some o)→Q none { s with heap:=h' }):wpAny (model prog w) A (pyNext (.ref z)) Q E s:=by
 have hT:s.TypeIs (.ref z) "zip" := ⟨_,hz,rfl⟩;unfold pyNext;refine wpAny_bind (wpAny_attempt (wpAny_callSpecial?_slot (name:=Str.ofString "__next__") hT F.slot_zip_next
  (wpAny_call_entry F.slot_zip_next hT F.entry_zip_next (z_end hh D hz hf hTI hTO h1 h2 hl1 hl2 hend fun h' e hk he => ?_) (F.args_zip_next_1 _))))
 obtain⟨o,ho,hc⟩:=he;exact wpAny_bind (wpAny_isInstance (T := "StopIteration") (b:=true) ⟨o,ho,hc⟩ isSubtype_stop (wpAny_pure (hQ _ hk)))
theorem xE{z TI TO:Addr}{f0 f1:Value}{Q:Value→Shared→Prop}(hz:IsZ s.heap z TI TO f0 f1)(h:Q (.ref z) s):wpAny (model prog w) A (pyIter (.ref z)) Q E s:=by
 have hT:s.TypeIs (.ref z) "zip" := ⟨_,hz,rfl⟩;refine wpAny_pyIter_slot hT F.slot_zip_iter (wpAny_call_entry F.slot_zip_iter hT F.entry_zip_iter ?_ (F.args_zip_iter_1 _));show wpAny _ _ (ret (.ref z)) _ _ s;exact wpAny_pure ⟨_,rfl,"zip",_,hT,F.slot_zip_next.lookup,h⟩
end
structure ZSt(h:Heap)(z TI TO i1 i2 a b:Addr)(i:Nat):Prop where
 hz:∃f0 b1,IsZ h z TI TO f0 (.bool b1)∧qU f0
 ti:IsPair h TI (.ref i1) (.ref i2)
 to:∃x y,IsPair h TO x y
 h1:h.IsListIter i1 a i
 h2:h.IsListIter i2 b i
theorem ZSt.keep{h h':Heap}{z TI TO i1 i2 a b:Addr}{i:Nat}(S:ZSt h z TI TO i1 i2 a b i)(k:∀c∈[z,TI,TO,i1,i2],∀o,h.get? c=some o→h'.get? c=some o):ZSt h' z TI TO i1 i2 a b i:=by
 obtain⟨⟨f0,b1,hz,hf⟩,hTI,⟨x,y,hTO⟩,h1,h2⟩:=S;exact⟨⟨f0,b1,k z (by simp) _ hz,hf⟩,k TI (by simp) _ hTI,⟨x,y,k TO (by simp) _ hTO⟩,h1.at fun o q=>k i1 (by simp) o q,h2.at fun o q=>k i2 (by simp) o q⟩
theorem ZSt.lt{h:Heap}{z TI TO i1 i2 a b:Addr}{i:Nat}(S:ZSt h z TI TO i1 i2 a b i):∀c∈[z,TI,TO,i1,i2],c<h.objs.size:=by
 obtain⟨⟨f0,b1,hz,hf⟩,hTI,⟨x,y,hTO⟩,⟨_,e1,_⟩,⟨_,e2,_⟩⟩:=S;intro c hc;have e':c=z∨c=TI∨c=TO∨c=i1∨c=i2:=by simpa using hc
 rcases e' with q|q|q|q|q
 ·rw[q];exact Heap.lt_size hz
 ·rw[q];exact Heap.lt_size hTI
 ·rw[q];exact Heap.lt_size hTO
 ·rw[q];exact Heap.lt_size e1
 ·rw[q];exact Heap.lt_size e2
section
variable {X:Cx}{pins:List (Addr×Obj)}{σ:L2.St}{H:Hp}{s:Shared}{A:Around}{E:Value→Shared→Prop}
theorem acb{z TI TO i1 i2 a b:Addr}{i:Nat}{xs ys:List V}{x y:V}{Q:Option Value→Shared→Prop}(D:ZipApart z TI TO i1 i2 a b)(I:Inv X pins σ H s)(hf:∀c∈[z,TI,TO,i1,i2],p9 X pins H c)(S:ZSt s.heap z TI TO i1 i2 a b i)
  (hqx:SqL X.K H a xs) (hqy:SqL X.K H b ys) (hx:xs[i]? = some x) (hy:ys[i]? = some y)
  (hQ:∀h',Inv X pins σ (upd H s.heap.objs.size (.tup [x,y])) { s with heap:=h' }→H s.heap.objs.size=Option.none→ZSt h' z TI TO i1 i2 a b (i+1)→(∀c∈[z,TI,TO,i1,i2],(upd H s.heap.objs.size (.tup [x,y])) c=Option.none)→Q (some (.ref s.heap.objs.size)) { s with heap:=h' }) :
  wpAny (model X.prog X.w) A (pyNext (.ref z)) Q E s:=by
 have lt:=S.lt;obtain⟨⟨f0,b1,hz,hfo⟩,hTI,hTO,h1,h2⟩:=S;obtain⟨its,rv,p,_⟩:=I.list hqx;obtain⟨its2,rv2,p2,_⟩:=I.list hqy;obtain⟨u,hu,ru⟩:=rv.get hx;obtain⟨u2,hu2,ru2⟩:=rv2.get hy;refine afK D hz hfo hTI hTO h1 h2 p.isList p2.isList (x:=u) (y:=u2) (by simpa using hu) (by simpa using hu2) fun h' f0' b' z' o' TO' h1' h2' hT hk => ?_;have new:cJ X.prog X.w (upd H s.heap.objs.size (.tup [x,y])) h' s.heap.objs.size (.tup [x,y]) :=
  ⟨by show 2≤sizeLine;decide,[u,u2],.cons ru (.cons ru2 .nil),⟨_,hT,rfl,_,rfl⟩⟩
 have I1:Inv X pins σ (upd H s.heap.objs.size (.tup [x,y])) { s with heap:=h' } :=
  I.mF (t':=s.toks) (ch := [z,TI,TO,i1,i2]) (fun c o hb q=>hk c o (fun q'=>hb (by simp[q'])) (fun q'=>hb (by simp[q'])) (fun q'=>hb (by simp[q'])) (fun q'=>hb (by simp[q'])) q) hf (Ae _) new
 refine hQ h' I1 (I.hok.fresh (Ae _)) ⟨⟨f0',b',z',o'⟩,hk _ _ D.TIz D.TITO D.TIi1 D.TIi2 hTI,TO',h1',h2'⟩ fun c hc => ?_;rw[az (AG (lt c hc))];exact(hf c hc).1
theorem ab9{z TI TO i1 i2 a b:Addr}{i:Nat}{xs ys:List V}{Q:Option Value→Shared→Prop}(hh:A.handled=none)(D:ZipApart z TI TO i1 i2 a b)(I:Inv X pins σ H s)(hf:∀c∈[z,TI,TO,i1,i2],p9 X pins H c)(S:ZSt s.heap z TI TO i1 i2 a b i)
  (hqx:SqL X.K H a xs) (hqy:SqL X.K H b ys) (he:xs.length≤i∨ys.length≤i) (hQ:∀h',Inv X pins σ H { s with heap:=h' }→Q Option.none { s with heap:=h' }):wpAny (model X.prog X.w) A (pyNext (.ref z)) Q E s:=by
 obtain⟨⟨f0,b1,hz,hfo⟩,hTI,hTO,h1,h2⟩:=S;obtain⟨its,rv,p,_⟩:=I.list hqx;obtain⟨its2,rv2,p2,_⟩:=I.list hqy;have l1:=rv.length;have l2:=rv2.length;have he':its.toArray[i]? = none∨its2.toArray[i]? = none:=by
  rcases he with q|q
  ·exact .inl (by simp;omega)
  ·exact .inr (by simp;omega)
 exact agf hh D hz hfo hTI hTO h1 h2 p.isList p2.isList he' fun h' hk=>hQ h' (I.aex (t':=s.toks) (ch := [z,TI,TO,i1,i2]) (fun c o hb q =>
  hk c o (fun q'=>hb (by simp[q'])) (fun q'=>hb (by simp[q'])) (fun q'=>hb (by simp[q'])) (fun q'=>hb (by simp[q'])) q) hf)
end
theorem xR{P:Program}{w:World}{K:DG}{x:Str}{tpos:Pos}{a b z TI TO i1 i2:Addr}(D:ZipApart z TI TO i1 i2 a b) :
  Turn P w K (.Name x tpos) (Itz K a b) [z,TI,TO,i1,i2] z (fun i h=>ZSt h z TI TO i1 i2 a b i) where
 mem:=by simp
 obj:=fun i h st c hc=>by
  obtain⟨⟨f0,b1,hz,_⟩,hTI,⟨x,y,hTO⟩,⟨o1,e1,_,d1⟩,⟨o2,e2,_,d2⟩⟩:=st;have e':c=z∨c=TI∨c=TO∨c=i1∨c=i2:=by simpa using hc
  rcases e' with q|q|q|q|q
  ·rw[q];exact⟨_,hz,fun v q=>nomatch q⟩
  ·rw[q];exact⟨_,hTI,fun v q=>nomatch q⟩
  ·rw[q];exact⟨_,hTO,fun v q=>nomatch q⟩
  ·rw[q];exact⟨o1,e1,fun v q=>by rw[d1] at q;cases q⟩
  ·rw[q];exact⟨o2,e2,fun v q=>by rw[d2] at q;cases q⟩
 keep:=fun i h h' st k=>st.keep k
 item:=by
  intro X hP hw hK hc i pins s σ H E I hf st hg;subst hP hw hK;obtain⟨xs,ys,x,y,hqx,hqy,hx,hy⟩:=hg;refine acb D I hf st hqx hqy hx hy fun h' I1 fr st' no=>⟨_,rfl,?_⟩;refine wpAny_pure ⟨.ref s.heap.objs.size,_,I1,rfl,⟨_,x,y,rfl,fr,rfl,fun l hl => ?_,fun l hl => ?_⟩,st',no⟩
  ·rw[I.jy hl hqx];exact hx
  ·rw[I.jy hl hqy];exact hy
 done:=by
  intro X hP hw hK hc i pins s σ H E I hf st hg;subst hP hw hK;obtain⟨xs,ys,hqx,hqy,hend⟩:=hg;exact ab9 (I.ok.hd hc) D I hf st hqx hqy hend fun h' I'=>⟨rfl,I'⟩
 self:=fun A i s Q E st h=>by
  obtain⟨f0,b1,hz,_⟩:=st.hz;exact xE hz h
section
variable {X:Cx}
theorem afo{e e2:Expr}{ta:TA}{p pos:Pos}(hg:Gl X "zip")(hm:X.mg "zip" = none)(ha:PA X [e,e2] ta){pins:List (Addr×Obj)}{s:Shared}{σ:L2.St}{H:Hp}(I:Inv X pins σ H s){R:Addr→Addr→List V→List V→Hp→Prop}
  (h:ta σ H fun vs H1=>∃a b xs ys,vs=[.ref a,.ref b]∧SqL X.K H1 a xs∧SqL X.K H1 b ys∧R a b xs ys H1)
  {Q:Value→Shared→Prop} (hQ:∀s1 z TI TO i1 i2 a b xs ys H1,ZipApart z TI TO i1 i2 a b→ZSt s1.heap z TI TO i1 i2 a b 0→Inv X pins σ H1 s1→(∀c∈[z,TI,TO,i1,i2],p9 X pins H1 c)→SqL X.K H1 a xs→SqL X.K H1 b ys→R a b xs ys H1→Q (.ref z) s1)
  (hs:starEach [e,e2] X.env=(false,eval e X.env)::starEach [e2] X.env:=by rfl) (hpl:(backTo pos (starEach [e2] X.env)).any (·.1)=false:=by rfl) :
  wpAny (model X.prog X.w) X.A (eval (.Call (.Name "zip" p) [e,e2] [] pos) X.env) Q X.xe s:=by
 refine Call_ (iz I hg hm yu (PyProof.Rows.callWith_type1 (thn (ha pos pins s σ H _ I h) fun us s1 ⟨vs,H1,I1,r1,q1⟩ => ?_) hs hpl));obtain⟨a,b,xs,ys,ex,hqx,hqy,q⟩:=q1;subst ex;cases r1 with
 | cons r rr =>
  cases rr with
  | cons r' rr =>
   cases rr
   cases r
   cases r'
   obtain⟨its,rv,p1,_⟩:=I1.list hqx;obtain⟨its2,rv2,p2,_⟩:=I1.list hqy;have la:a<s1.heap.objs.size:=p1.lt;have lb:b<s1.heap.objs.size:=p2.lt;refine call_zip_2 p1.isList p2.isList fun h' hz hTI hTO h1 h2 hsz hk => ?_;have I2:Inv X pins σ H1 { s1 with heap:=h' }:=I1.kept (t':=s1.toks) hk;refine hQ _ (s1.heap.objs.size+4) (s1.heap.objs.size+2) (s1.heap.objs.size+3) s1.heap.objs.size (s1.heap.objs.size+1) a b xs ys H1 (PySem.W.ktu_apart s1.heap.objs.size a b la lb) ⟨⟨_,_,hz,.inl rfl⟩,hTI,⟨_,_,hTO⟩,h1,h2⟩ I2 (fun c hcm => ?_) hqx hqy q;have e':c=s1.heap.objs.size+4∨c=s1.heap.objs.size+2∨c=s1.heap.objs.size+3∨c=s1.heap.objs.size∨c=s1.heap.objs.size+1:=by simpa using hcm
   have hle:s1.heap.objs.size≤c:=by
    rcases e' with q'|q'|q'|q'|q' <;> rw[q'] <;> first|exact Ae _|exact Dh _ _
   exact(I1.aa1 hle (I1.hok.fresh hle))
theorem aeq{e e2:Expr}{ta:TA}{p pos tpos:Pos}{x:Str}(hg:Gl X "zip")(hm:X.mg "zip" = none)(ha:PA X [e,e2] ta)
  (hs:starEach [e,e2] X.env=(false,eval e X.env)::starEach [e2] X.env:=by rfl) (hpl:(backTo pos (starEach [e2] X.env)).any (·.1)=false:=by rfl) :
  PI X (.Name x tpos) (.Call (.Name "zip" p) [e,e2] [] pos) (aiU X.K ta):=by
 intro pins s σ H R I h;refine afo hg hm ha I (R:=fun a b xs ys H1=>R (Itz X.K a b) H1) h (fun s1 z TI TO i1 i2 a b xs ys H1 D st I1 hf hqx hqy q => ?_) hs hpl;obtain⟨f0,b1,hz,_⟩:=st.hz;exact xE hz ⟨z,[z,TI,TO,i1,i2],_,_,H1,rfl,I1,xR D,st,hf,q⟩
theorem vK:typeLookup (.type "zip") "__len__" = pure Option.none:=by rw[typeLookup_type,builtinLookup_eq_fast];kernel_rfl
theorem tD:typeLookup (.type "zip") "__length_hint__" = pure Option.none:=by rw[typeLookup_type,builtinLookup_eq_fast];kernel_rfl
theorem wM{P:Program}{w:World}{z TI TO i1 i2 a b l:Addr}{pins:List (Addr×Obj)}{σ:L2.St}{xs ys:List V}{A:Around}{R:Result→Shared→Prop}{H1:Hp}(hP:X.prog=P)(hw:X.w=w)(hh:A.handled=none)(D:ZipApart z TI TO i1 i2 a b)
  (hA:H1 a=some (.lst xs)) (hB:H1 b=some (.lst ys)) (hl:xs.length=ys.length) (hln:H1 l=Option.none) (hlf:l ∉ [z,TI,TO,i1,i2]) :
  ∀(k i:Nat) (s:Shared) (H:Hp) (ts:List Addr),xs.length-i=k→i≤xs.length→Inv X pins σ H s→(∀c∈[z,TI,TO,i1,i2],p9 X pins H c)→ZSt s.heap z TI TO i1 i2 a b i→aL H1 H →
   H l=some (.lst (ts.map V.ref))→ts.length=i→(∀(j:Nat) (t:Addr) (x y:V),ts[j]? = some t→xs[j]? = some x→ys[j]? = some y→H t=some (.tup [x,y])) →
   (∀(s':Shared) (H':Hp) (ts':List Addr),Inv X pins σ H' s'→aL H1 H'→H' l=some (.lst (ts'.map V.ref))→ts'.length=xs.length→(∀(j:Nat) (t:Addr) (x y:V),ts'[j]? = some t→xs[j]? = some x→ys[j]? = some y→H' t=some (.tup [x,y]))→R (.ok (.ret .none)) s') →
   codeAny (model P w) A (.builtin "list.extend.loop" ⟨[.ref l,.ref z,.none],[]⟩) R s:=by
 subst hP hw;intro k
 induction k with
 | zero =>
  intro i s H ts hk hi I hf st sm hL ht hts hR;refine codeAny_builtin F.entry_extend_loop ?_;rw[Around.under_plainId F.plain_extend_loop _];show wpAny _ A.in1 (pyNext (.ref z) >>= _) _ _ s;refine wpAny_bind (ab9 hh D I hf st (SqL.of (sm _ _ hA)) (SqL.of (sm _ _ hB)) (.inl (by omega)) fun h' I'=>wpAny_pure ?_);exact hR _ H ts I' sm hL (by omega) hts
 | succ k ih =>
  intro i s H ts hk hi I hf st sm hL ht hts hR;have hlt:i<xs.length:=by omega
  refine codeAny_builtin F.entry_extend_loop ?_;rw[Around.under_plainId F.plain_extend_loop _];show wpAny _ A.in1 (pyNext (.ref z) >>= _) _ _ s;refine wpAny_bind (acb D I hf st (SqL.of (sm _ _ hA)) (SqL.of (sm _ _ hB)) (Aa hlt) (Aa (by omega)) fun h' I1 fr st' no => ?_);have lne:l≠s.heap.objs.size:=fun e=>by rw[e,fr] at hL;cases hL
  have hL1:(upd H s.heap.objs.size (.tup [xs[i],ys[i]])) l=some (.lst (ts.map V.ref)):=by rw[az lne];exact hL
  obtain⟨z1,its,n,rv,le,ge⟩:=I1.ac1 hL1;have hlen:its.length=i:=by rw[← le,Ab,ht]
  have zx:xs.length≤sizeLine:=by obtain⟨_,_,_,q⟩:=I.list (SqL.of (sm _ _ hA));exact q
  show wpAny _ A.in1 (updateSeq l (·.push (Value.ref s.heap.objs.size)) >>= _) _ _ _;refine wpAny_bind ?_;have I2:Inv X pins σ (upd (upd H s.heap.objs.size (.tup [xs[i],ys[i]])) l (.lst ((ts++[s.heap.objs.size]).map V.ref))) { s with heap:=h'.update l (Obj.mapSeq (·.push (Value.ref s.heap.objs.size))) } :=
   I1.ag0 (t':=s.toks) (its':=its++[Value.ref s.heap.objs.size]) hL1 ge (by simp) (by
    rw[As];exact Vals.append rv (.cons rfl .nil)) (by rw[Ab,Ai,ht];simp;omega)
  refine wpAny_updateSeq ge rfl (wpAny_pure ⟨plainId_quiet F.plain_extend_loop _,?_⟩) (by rw[Ay,hlen];omega) (by rw[Array.size_push,Ay,hlen];omega);have sm0:aL H (upd H s.heap.objs.size (.tup [xs[i],ys[i]])):=ah fr;have sm1:aL H1 (upd H s.heap.objs.size (.tup [xs[i],ys[i]])):=fun c o e=>sm0 _ _ (sm _ _ e);have nl:∀{c:Addr} {q:List V},(upd H s.heap.objs.size (.tup [xs[i],ys[i]])) c=some (.tup q)→c≠l:=fun e=>sV e hL1 (fun q=>nomatch q);refine ih (i+1) _ _ (ts++[s.heap.objs.size]) (by omega) (by omega) I2 (fun c hc => ?_) (st'.keep fun c hc o q => ?_) (aH sm1 hln) ag (by rw[Ai,ht];rfl) (fun j t x y ej ex ey => ?_) hR
  ·have cl:c≠l:=fun e=>hlf (e▸hc)
   exact⟨by rw[az cl];exact no c hc,(hf c hc).2⟩
  ·have cl:l≠c:=fun e=>hlf (e.symm▸hc)
   exact(Heap.get?_update_other _ _ cl).trans q
  ·by_cases hj:j<ts.length
   ·rw[Aw hj] at ej
    have q:=sm0 _ _ (hts j t x y ej ex ey);rw[az (nl q)];exact q
   ·have hj':j=ts.length:=by
     have:=(List.getElem?_eq_some_iff.mp ej).1;rw[Ai] at this;simp at this;omega
    rw[hj',Ao (Ae _),AO] at ej;have et:s.heap.objs.size=t:=Ac ej;have ji:j=i:=by omega
    subst ji;rw[Aa hlt] at ex;rw[Aa (by omega)] at ey;obtain rfl:=Ac ex;obtain rfl:=Ac ey;have q:(upd H s.heap.objs.size (.tup [xs[j],ys[j]])) t=some (.tup [xs[j],ys[j]]):=by rw[← et];exact ag
    rw[az (nl q)];exact q
def LZ(a b:Addr)(xs ys:List V)(H1:Hp)(Q:VK):Prop:=H1 a=some (.lst xs)∧H1 b=some (.lst ys)∧xs.length=ys.length ∧
 ∀(l:Addr) (H':Hp) (ts:List Addr),H1 l=Option.none→aL H1 H'→H' l=some (.lst (ts.map V.ref))→ts.length=xs.length→(∀(j:Nat) (t:Addr) (x y:V),ts[j]? = some t→xs[j]? = some x→ys[j]? = some y→H' t=some (.tup [x,y]))→Q (.ref l) H'
def tLZ(K:DG)(ta:TA):TE:=fun σ H Q=>ta σ H fun vs H1=>∃a b xs ys,vs=[.ref a,.ref b]∧SqL K H1 a xs∧SqL K H1 b ys∧LZ a b xs ys H1 Q
theorem tL{z TI TO i1 i2 a b:Addr}{pins:List (Addr×Obj)}{σ:L2.St}{xs ys:List V}{H1:Hp}{s:Shared}{Q:VK}(hh:X.A.handled=none)(D:ZipApart z TI TO i1 i2 a b)(st:ZSt s.heap z TI TO i1 i2 a b 0)(I:Inv X pins σ H1 s)
  (hf:∀c∈[z,TI,TO,i1,i2],p9 X pins H1 c) (q:LZ a b xs ys H1 Q):wpAny (model X.prog X.w) X.A (call (.type "list") [.ref z]) (EP X pins σ Q) X.xe s:=by
 have lt:=st.lt;have hlf:s.heap.objs.size ∉ [z,TI,TO,i1,i2]:=fun hm=>Bh _ (lt _ hm);have hln:H1 s.heap.objs.size=Option.none:=I.hok.fresh (Ae _);obtain⟨hA,hB,hl,fin⟩:=q;refine callType_codes (Q₁:=fun obj s₁=>obj=.ref s.heap.objs.size∧s₁={ s with heap:=s.heap.push { cls:=.type "list",data:=.seq #[] } }) F.called_list (F.typeCall_list_1 _) F.entry_list_init (code_list_new _ ⟨rfl,rfl⟩) fun obj s₁ h₁ => ?_;obtain⟨rfl,rfl⟩:=h₁;have hS:(s.heap.push { cls:=.type "list",data:=.seq #[] }).get? s.heap.objs.size=some { cls:=.type "list",data:=.seq #[] }:=Heap.get?_push_size _ rfl;refine⟨⟨_,hS,rfl⟩,F.args_list_init_2 _ _,?_⟩;show wpAny _ _ (do let old ← Builtin.List.listItems (.ref s.heap.objs.size);Builtin.List.listUpdate (.ref s.heap.objs.size) (fun _ => #[]);letGo old.toList.reverse;Builtin.List.listExtendWith (.ref s.heap.objs.size) (.ref z) .none) _ _ _;refine wpAny_bind ?_;unfold Builtin.List.listItems;refine wpAny_bind (wpAny_seqItems hS rfl (wpAny_pure ?_));show wpAny _ _ (updateSeq s.heap.objs.size (fun _ => #[]) >>= fun _=>letGo (#[]:Array Value).toList.reverse >>= fun _=>Builtin.List.listExtendWith (.ref s.heap.objs.size) (.ref z) .none) _ _ _;refine wpAny_bind (wpAny_updateSeq hS rfl ?_);have g2:=Heap.get?_update_self (Obj.mapSeq (fun _=>(#[]:Array Value))) hS rfl;refine wpAny_bind (wpAny_letGo ?_);obtain⟨f0,b1,hz,hfo⟩:=st.hz;have up1:∀c o,s.heap.get? c=some o→((s.heap.push { cls:=.type "list",data:=.seq #[] }).update s.heap.objs.size (Obj.mapSeq (fun _=>(#[]:Array Value)))).get? c=some o:=fun c o e =>
  (Heap.get?_update_other _ _ (BG (Heap.lt_size e))).trans (Heap.get?_push_of_some _ e)
 unfold Builtin.List.listExtendWith;refine wpAny_bind (wpAny_typeOf (T := "zip") ⟨_,up1 _ _ hz,rfl⟩ ?_);have n1:Builtin.List.listSameRef (.ref s.heap.objs.size) (.ref z)=false:=by
  have:s.heap.objs.size≠z:=BG (Heap.lt_size hz);simp[Builtin.List.listSameRef,this]
 have n2:(Value.type "zip" == Value.type "list")=false:=by decide
 have n3:(Value.type "zip" == Value.type "tuple")=false:=by decide
 simp only[n1,n2,n3,DA,BA,Cq];refine wpAny_bind (xE (up1 _ _ hz) (wpAny_bind (wpAny_holding ?_)));unfold Builtin.List.listLengthHint;refine wpAny_bind (wpAny_specialOf (T := "zip") ⟨_,up1 _ _ hz,rfl⟩ vK ?_);show wpAny _ _ (specialOf (Value.ref z) (Str.ofString "__length_hint__") >>= _) _ _ _;refine wpAny_bind (wpAny_specialOf (T := "zip") ⟨_,up1 _ _ hz,rfl⟩ tD (wpAny_pure ?_));show wpAny _ _ (rule "list.extend.makes-room" >>= fun _=>Builtin.List.listTouch (.ref s.heap.objs.size) >>= fun _=>again (.builtin "list.extend.loop" ⟨[.ref s.heap.objs.size,.ref z,.none],[]⟩)) _ _ _;refine wpAny_bind (wpAny_rule (wpAny_bind ?_));show wpAny _ _ (updateSeq s.heap.objs.size (·.push .none) >>= fun _=>updateSeq s.heap.objs.size (·.pop)) _ _ _;refine wpAny_bind (wpAny_updateSeq g2 rfl ?_);have g3:=Heap.get?_update_self (Obj.mapSeq (·.push Value.none)) g2 rfl;refine wpAny_updateSeq (hz:=by seq_fits) g3 rfl ?_;have g4:=Heap.get?_update_self (Obj.mapSeq (·.pop)) g3 rfl;have up:∀c o,s.heap.get? c=some o→((((s.heap.push { cls:=.type "list",data:=.seq #[] }).update s.heap.objs.size (Obj.mapSeq (fun _=>(#[]:Array Value)))).update s.heap.objs.size (Obj.mapSeq (·.push Value.none))).update s.heap.objs.size (Obj.mapSeq (·.pop))).get? c=some o:=fun c o e =>
  (Heap.get?_update_other _ _ (BG (Heap.lt_size e))).trans ((Heap.get?_update_other _ _ (BG (Heap.lt_size e))).trans (up1 c o e))
 have I3:=I.laid (t':=s.toks) (o:=.lst []) up (Ae _) ⟨Av _,[],_,.nil,g4⟩;refine wpAny_pure ⟨plainId_quiet F.plain_extend_loop _,wM (A:=X.A.in1) (xs:=xs) (ys:=ys) (H1:=H1) rfl rfl hh D hA hB hl hln hlf xs.length 0 _ _ [] (BP _) (Av _) I3 (fun c hc => ?_) (st.keep fun c hc o e=>up c o e) (ah hln) ag rfl (fun j t x y e=>by simp at e) ?_⟩
 ·refine⟨by rw[az (AG (lt c hc))];exact(hf c hc).1,(hf c hc).2⟩
 ·intro s' H' ts I' sm hL ht hts
  exact⟨rfl,.ref s.heap.objs.size,H',I',rfl,fin _ H' ts hln sm hL ht hts⟩
theorem vQ{e e2:Expr}{ta:TA}{p pos p2 pos2:Pos}(hcalm:X.calm=true)(hg:Gl X "list")(hm:X.mg "list" = none)(hg2:Gl X "zip")(hm2:X.mg "zip" = none)(ha:PA X [e,e2] ta)
  (hs:starEach [e,e2] X.env=(false,eval e X.env)::starEach [e2] X.env:=by rfl) (hpl:(backTo pos2 (starEach [e2] X.env)).any (·.1)=false:=by rfl)
  (hs2:starEach [.Call (.Name "zip" p2) [e,e2] [] pos2] X.env=(false,eval (.Call (.Name "zip" p2) [e,e2] [] pos2) X.env)::starEach [] X.env:=by rfl) :
  PE X (.Call (.Name "list" p) [.Call (.Name "zip" p2) [e,e2] [] pos2] [] pos) (tLZ X.K ta):=by
 intro pins s σ H Q I h;refine wpAny_Call_Name_kw (iz I hg hm (show bootBuiltins "list" = some (.type "list") by decide +kernel) (PyProof.Rows.callWith_type1 ?_ hs2 rfl));rw[hs2];show wpAny _ _ (spliced ((false,eval (.Call (.Name "zip" p2) [e,e2] [] pos2) X.env)::backTo pos (starEach [] X.env))) _ _ s;refine Calls.spliced_cons (afo hg2 hm2 ha I (R:=fun a b xs ys H1=>LZ a b xs ys H1 Q) h (fun s1 z TI TO i1 i2 a b xs ys H1 D st I1 hf hqx hqy q => ?_) hs hpl);exact Calls.spliced_nil (tL (I1.ok.hd hcalm) D st I1 hf q)
end
def lx(le:Bool):List Int→List Int→Bool
 | [],[]=>le
 | [],_::_=>true
 | _::_,[]=>false
 | a::r,b::t=>if a=b then lx le r t else decide (a<b)
section
variable {prog:Program}{w:World}{A:Around}{E:Value→Shared→Prop}{s:Shared}
theorem p4{x y:List Int}{a b:Addr}{P:PySem.Fin→Shared→Prop}(hx:IsTupleKey (intKind prog w) s.heap x a)(hy:IsTupleKey (intKind prog w) s.heap y b)(h:P (.done (.ret (.bool (lx true x y)))) s) :
  wpAny (model prog w) A (Builtin.«tuple.__le__» ⟨[.ref a,.ref b],[]⟩) P E s:=by
 have tyB:=hy.typeIs;obtain⟨oa,us,na,atA,_,dtA,itA⟩:=hx;obtain⟨ob,ws,nb,atB,_,dtB,itB⟩:=hy;show wpAny _ _ (isInstance (.ref b) (.type "tuple") >>= _) _ _ s;refine wpAny_bind (wpAny_isInstance tyB isSubtype_tuple_tuple ?_);simp only[DB,BA,Cq];refine wpAny_bind (wpAny_tupleItemsOf atA dtA ?_);refine wpAny_bind (wpAny_tupleItemsOf atB dtB ?_);refine wpAny_bind ?_;refine wpAny_forIn_list _
  (fun rs r s'=>r.1=none∧s'=s∧∃x' y' us' ws',rs=List.zip us' ws'∧ItemsAre (intKind prog w) x' us'∧ItemsAre (intKind prog w) y' ws'∧lx true x' y'=lx true x y∧(decide (us'.length≤ws'.length))=(decide (us.size≤ws.size)))
  _ ?_ ?_ _ _ ⟨rfl,rfl,x,y,us.toList,ws.toList,rfl,itA,itB,rfl,by simp⟩
 ·rintro⟨u,v⟩ rs r s' ⟨rn,rfl,x',y',us',ws',zq,ix,iy,dq,lq⟩
  cases ix with
  | nil=>simp at zq
  | @cons c1 ua xr usr m1 ixr =>
   cases iy with
   | nil=>simp at zq
   | @cons c2 va yr wsr m2 iyr =>
    simp only[Co,List.cons.injEq,Prod.mk.injEq] at zq;obtain⟨⟨rfl,rfl⟩,rfl⟩:=zq;refine wpAny_bind ((intKind prog w).eqBool (a:=c1) (b:=c2) m1 m2 ?_)
    by_cases ceq:c1=c2
    ·subst ceq
     rw[Ak rfl];simp only[DB,BA,Cq];refine wpAny_pure ⟨rfl,rfl,xr,yr,usr,wsr,rfl,ixr,iyr,?_,by simpa using lq⟩;rw[← dq];simp[lx]
    ·rw[Ax ceq]
     simp only[Bool.not_false,CU];have fq:lx true x y=decide (c1≤c2):=by
      rw[← dq];simp only[lx,Ad ceq];exact decide_eq_decide.mpr ⟨fun q=>by omega,fun q=>by omega⟩
     rw[fq] at h;obtain⟨t1,rfl⟩:∃t,u=.int c1 t:=Value.isInt_shape m1;obtain⟨t2,rfl⟩:∃t,v=.int c2 t:=Value.isInt_shape m2;refine wpAny_bind (wpAny_rule ?_);refine wpAny_bind (richCompare_gives (op:=.LtE) (typeIs_int s' _ t1) (typeIs_int s' _ t2) F.slot_int_le F.entry_int_le (F.args_int_le_2 _ _) (gives_int_le _ _ t1 t2) (fun x=>nomatch x) ?_);exact wpAny_bind (wpAny_pure (wpAny_pure (wpAny_pure h)))
 ·rintro⟨ra,rb⟩ s' ⟨rn,rfl,x',y',us',ws',zq,ix,iy,dq,lq⟩
  simp only at rn;subst rn;refine wpAny_pure ?_;have lastq:(decide (us.size≤ws.size))=lx true x y:=by
   rw[← dq,← lq];cases ix with
   | nil =>
    cases iy with
    | nil=>simp[lx]
    | cons _ _=>simp[lx]
   | cons _ _ =>
    cases iy with
    | nil=>simp[lx]
    | cons _ _=>simp at zq
  show P (.done (.ret (.bool (decide (us.size≤ws.size))))) s';rw[lastq];exact h
theorem afl{x y:List Int}{a b:Addr}{Q:Value→Shared→Prop}(hu:A.units<cLine)(hx:IsTupleKey (intKind prog w) s.heap x a)(hy:IsTupleKey (intKind prog w) s.heap y b)(h:Q (.bool (lx true x y)) s) :
  wpAny (model prog w) A (richCompare .LtE (.ref a) (.ref b)) Q E s :=
 wpAny_richCompare_same_room (op:=.LtE) hx.typeIs hy.typeIs F.slot_tuple_le
  (wpAny_call_entry F.slot_tuple_le hx.typeIs F.entry_tuple_le (p4 hx hy ⟨_,rfl,(fun e=>nomatch e),h⟩) (F.args_tuple_le_2 _ _)) hu
end
theorem oF{prog:Program}{w:World}:∀{ns:List Int} {us:List Value},Vals (ns.map V.int) us→ItemsAre (intKind prog w) ns us
 | [],_,r=>by
  rw[Cs] at r;cases r
  exact .nil
 | n::ns,_,r=>by
  rw[A3] at r;cases r with
  | cons h t =>
   obtain⟨t',rfl⟩:=h;exact .cons (by show Value.isInt n (.int n t')=true;simp[Value.isInt]) (oF t)
section
variable {X:Cx}
def ajh(K:DG):R2:=fun x y H Q=>∃a b ns ms,x=.ref a∧y=.ref b∧SqT K H a (ns.map V.int)∧SqT K H b (ms.map V.int)∧Q (.bl (lx true ns ms)) H
theorem p5{pins:List (Addr×Obj)}{σ:L2.St}{H:Hp}{s:Shared}(I:Inv X pins σ H s){a:Addr}{ns:List Int}(h:SqT X.K H a (ns.map V.int))(P:Program)(w:World):IsTupleKey (intKind P w) s.heap ns a:=by
 obtain⟨its,r1,p1,_⟩:=I.tuple h;obtain⟨o,ho,hc,n,hd⟩:=p1;exact⟨o,its.toArray,n,ho,hc,hd,oF r1⟩
theorem afU(hu:X.A.units<cLine):OpR X (compareOp .LtE) (ajh X.K):=by
 intro pins s σ H x y v u Q I rx ry h;obtain⟨a,b,ns,ms,rfl,rfl,ha,hb,q⟩:=h;cases rx
 cases ry
 show wpAny _ _ (richCompare .LtE (.ref a) (.ref b)) _ _ _;exact afl hu (p5 I ha _ _) (p5 I hb _ _) ⟨.bl (lx true ns ms),H,I,rfl,q⟩
def ahC(K:DG):R2:=fun x y H Q=>∃a p ns R,x=.ref a∧y=.ref p∧SqT K H a (ns.map V.int)∧Rows H p R∧Q (.bl (!decide (ns∈R))) H
theorem yt(hu:X.A.units+64<cLine):OpR X (compareOp .NotIn) (ahC X.K):=by
 intro pins s σ H x y v u Q I rx ry h;obtain⟨a,p,ns,R,rfl,rfl,ha,hR,q⟩:=h;cases rx
 cases ry
 obtain⟨as,h1,h2,h3⟩:=hR;obtain⟨its,rv,pl,_⟩:=I.list (SqL.of (K:=X.K) h1);have ei:=sy rv;subst ei;have e1:∀t:Addr,t∈as→∃(i:Nat) (r:List Int),as[i]? = some t∧R[i]? = some r∧H t=some (.tup (r.map V.int)):=fun t ht=>by
  obtain⟨i,hi,rfl⟩:=List.mem_iff_getElem.mp ht;exact⟨i,_,Aa hi,Aa (by omega),h3 i _ _ (Aa hi) (Aa (by omega))⟩
 have inj:∀{r r':List Int},r.map V.int=r'.map V.int→r=r':=fun{r r'} h=>by
  have:=congrArg (List.map fun v:V=>match v with|.int z=>z|_=>0) h
  simpa[AX,Function.comp_def] using this
 refine SeqAt.notIn_listAt (fun v=>@decide (∃t:Addr,v=Value.ref t∧H t=some (.tup (ns.map V.int))) (Classical.propDecidable _)) pl.isList (fun y hy => ?_) ⟨.bl _,H,I,rfl,?_⟩
 ·have hy':y∈as.map Value.ref:=by simpa using hy
  obtain⟨t,ht,rfl⟩:=List.mem_map.mp hy';obtain⟨i,r,ea,er,hr⟩:=e1 t ht;intro prog w E Q' hq;refine wpAny_eqBool_tuple (by show X.A.units+1<cLine;omega) (p5 I (SqT.of hr) prog w) (p5 I ha prog w) ?_;have ed:@decide (∃t':Addr,Value.ref t=Value.ref t'∧H t'=some (.tup (ns.map V.int))) (Classical.propDecidable _)=decide (r=ns):=by
   by_cases c:r=ns
   ·rw[Ak c]
    exact @decide_eq_true _ (Classical.propDecidable _) ⟨t,rfl,c▸hr⟩
   ·rw[Ax c]
    refine @decide_eq_false _ (Classical.propDecidable _) fun⟨t',e,ht'⟩=>c ?_;injection e with e
    subst e;rw[hr] at ht';injection ht' with ht'
    injection ht' with ht'
    exact inj ht'
  rw[← ed];exact hq
 ·have ea:((as.map Value.ref).toArray.any fun v=>@decide (∃t:Addr,v=Value.ref t∧H t=some (.tup (ns.map V.int))) (Classical.propDecidable _))=decide (ns∈R):=by
   rw[AM];simp only[List.any_toArray,List.any_map,AV,Ap,Function.comp]
   constructor
   ·rintro⟨t,ht,t',e,hH⟩
    injection e with e
    subst e;obtain⟨i,r,ea,er,hr⟩:=e1 t ht;rw[hr] at hH;injection hH with hH
    injection hH with hH
    exact inj hH▸A4 er
   ·intro hm
    obtain⟨i,hi,e⟩:=List.mem_iff_getElem.mp hm;exact⟨as[i],Bb _,as[i],rfl,e▸h3 i _ _ (Aa (by omega)) (Aa hi)⟩
  rw[ea];exact q
end
def pK(e:Nat×Nat):List Key := [Sum.inl (e.1:Int),Sum.inl (e.2:Int)]
def yX(kvs:List (List Key×V))(L:List (Nat×Nat)):List (List Key×V):=L.foldl (fun kvs e=>putK kvs (pK e) (.bl true)) kvs
theorem afW{e f:Nat×Nat}(h:pK e=pK f):e=f:=by
 unfold pK at h;injection h with h1 h2
 injection h2 with h2 _
 have a:=Sum.inl.inj h1;have b:=Sum.inl.inj h2;exact Prod.ext (by omega) (by omega)
theorem vp:∀(L:List (Nat×Nat)) (kvs:List (List Key×V)) (e:Nat×Nat),i5 (yX kvs L) (pK e)=if e∈L then some (.bl true) else i5 kvs (pK e)
 | [],kvs,e=>by simp[yX]
 | a::L,kvs,e=>by
  have:yX kvs (a::L)=yX (putK kvs (pK a) (.bl true)) L:=rfl;rw[this,vp L,aba]
  by_cases h:e∈L
  ·rw[Ag h,Ag (Af _ h)]
  ·rw[Ad h]
   by_cases h2:pK e=pK a
   ·rw[Ag h2,Ag (by rw[afW h2];exact Ah ..)]
   ·rw[Ad h2,Ad (fun z=>(List.mem_cons.mp z).elim (fun y=>h2 (by rw[y])) h)]
theorem u5:∀(L:List (Nat×Nat)) (kvs:List (List Key×V)),(yX kvs L).length≤kvs.length+L.length
 | [],kvs=>Ae _
 | a::L,kvs=>by
  have h:=u5 L (putK kvs (pK a) (.bl true));have:=dH kvs (pK a) (.bl true);have e:yX kvs (a::L)=yX (putK kvs (pK a) (.bl true)) L:=rfl;rw[e,Aq];omega
section
variable {X:Cx}{pins:List (Addr×Obj)}{σ:L2.St}
theorem afT{H:Hp}{s:Shared}{a b:Addr}{kvs:List (List Key×V)}{k:List Key}{v:V}{r:Value}{A:Around}{E:Value→Shared→Prop}{Q:Unit→Shared→Prop}(hu:A.units+2<cLine)(I:Inv X pins σ H s)(e:H a=some (.dT kvs))(eb:H b=some (.tup (k.map kV)))(l:kvs.length<sizeLine)(rv:RelV v r)
  (h:∀s',Inv X pins σ (upd H a (.dT (putK kvs k v))) s'→Heap.SameBut a s.heap s'.heap→Q () s'):wpAny (model X.prog X.w) A (dictSet a (.ref b) r) Q E s:=by
 obtain⟨z,hd,xs,rel,dd⟩:=agA I.hok e;have hz:xs.length≤sizeLine:=by rw[← Paired.length rel];exact z
 have hl:(putK kvs k v).length≤sizeLine:=by have:=dH kvs k v;omega
 have hroom:(tupleKind (bR X.prog X.w)).room A:=by
  show A.units<cLine;omega
 refine wpAny_dictSet_heap (hsz:=hz) hroom (qP I.hok eb) dd fun h' dd' hs=>h _ ?_ hs;obtain⟨q,es,ep,hq,h2,h3,h4,_,h5⟩:=dd';refine oO I (by rw[e];exact True.intro) hs ⟨q,hq⟩ ⟨hl,hd,_,(rel.put k eb rv).keeps fun c ys ec => ?_,q,es,ep,hq,h2,h3,h4,h5⟩;rw[az (sV ec e (fun z=>nomatch z))];exact ec
structure PT2(H:Hp)(l:Addr)(ps:List Addr)(L:List (Nat×Nat)):Prop where
 lst:H l=some (.lst (ps.map V.ref))
 len:ps.length=L.length
 at_:∀(j:Nat) (p:Addr) (e:Nat×Nat),ps[j]? = some p→L[j]? = some e→∃t,H p=some (.tup [.ref t,.bl true])∧H t=some (.tup [.int (e.1:Int),.int (e.2:Int)])
theorem PT2.same{H H':Hp}{l:Addr}{ps:List Addr}{L:List (Nat×Nat)}(h:PT2 H l ps L)(s:aL H H'):PT2 H' l ps L :=
 ⟨s _ _ h.lst,h.len,fun j p e e1 e2=>let ⟨t,a,b⟩:=h.at_ j p e e1 e2;⟨t,s _ _ a,s _ _ b⟩⟩
theorem adf{P:Program}{w:World}{A:Around}{R:Result→Shared→Prop}{S I l:Addr}{ps:List Addr}{L:List (Nat×Nat)}{H1:Hp}(hP:X.prog=P)(hw:X.w=w)(hh:A.handled=none)(hu:A.units+3<cLine)(pt:PT2 H1 l ps L)(hSn:H1 S=Option.none)(hlI:l≠I)(hSI:S≠I)(hsz:L.length<sizeLine) :
  ∀(k i:Nat) (ix:Int) (t:Tok) (s:Shared) (H:Hp),L.length-i=k→i≤L.length→Inv X pins σ H s→p9 X pins H I→s.heap.IsListIter I l i→aL H1 H→H S=some (.dT (yX [] (L.take i))) →
   (∀(s':Shared) (H':Hp),Inv X pins σ H' s'→aL H1 H'→H' S=some (.dT (yX [] L))→R (.ok (.ret .none)) s') →
   codeAny (model P w) A (.builtin "dict.update.loop" ⟨[.ref S,.ref I,.int ix t,.none],[]⟩) R s:=by
 subst hP hw;intro k
 induction k with
 | zero =>
  intro i ix t s H hk hi Iv hf hit sm hS hR;have ei:i=L.length:=by omega
  subst ei;obtain⟨its,rv,pl,_⟩:=Iv.list (SqL.of (K:=X.K) (sm _ _ pt.lst));have hl:=rv.length;rw[Ab,pt.len] at hl;obtain⟨f0,f1,f2,f3,f4,f5⟩:=hf;refine codeAny_builtin uZ ?_;rw[Around.under_plainId jq _];show wpAny _ A.in1 (pyNext (.ref I) >>= _) _ _ s;refine wpAny_bind (wpAny_pyNext_list_end (A:=A.in1) hh hit pl.isList (by simp;omega) fun h' he => ?_);show wpAny _ A.in1 (Builtin.Dict.addKeywords S [] >>= _) _ _ _;refine wpAny_bind (wpAny_pure (wpAny_pure ?_));rw[Bm] at hS;exact hR _ H (Iv.turned (t':=s.toks) (fun b o hb q=>he b o hb q) f0 f1 f3 f4 f5) sm hS
 | succ k ih =>
  intro i ix t s H hk hi Iv hf hit sm hS hR;have hlt:i<L.length:=by omega
  have hlp:i<ps.length:=by rw[pt.len];exact hlt
  obtain⟨its,rv,pl,_⟩:=Iv.list (SqL.of (K:=X.K) (sm _ _ pt.lst));have ei:=sy rv;subst ei;obtain⟨tt,hp,ht⟩:=pt.at_ i _ _ (Aa hlp) (Aa hlt);have hf':=hf;obtain⟨f0,f1,f2,f3,f4,f5⟩:=hf;refine codeAny_builtin uZ ?_;rw[Around.under_plainId jq _];show wpAny _ A.in1 (pyNext (.ref I) >>= _) _ _ s;refine wpAny_bind (wpAny_pyNext_list_item (x:=.ref ps[i]) hit pl.isList (by simp[hlp]) fun h1 hit1 hs1 => ?_);have I1:Inv X pins σ H { s with heap:=h1 }:=Iv.turned (t':=s.toks) (fun b o hb q=>hs1.extBut b o hb q) f0 f1 f3 f4 f5;obtain⟨its2,rv2,p2,_⟩:=I1.tuple (SqT.of (K:=X.K) (sm _ _ hp));obtain⟨u,y,eu,ru,ry⟩:=vals2 rv2;subst eu;cases ru
  cases ry
  obtain⟨o,ho,hc,n,hd⟩:=p2;show wpAny _ A.in1 (holding [Value.ref ps[i]] _ >>= _) _ _ _;refine wpAny_bind (wpAny_holding ?_);refine wpAny_bind (wpAny_tryCatch ?_);unfold Builtin.Dict.pairItems;refine wpAny_bind (wpAny_typeOf (T := "tuple") ⟨o,ho,hc⟩ ?_);rw[Ag (by first|decide|rfl|simp)];refine wpAny_bind (wpAny_seqItems ho hd (wpAny_pure ?_));show wpAny _ A.in1 (holding [Value.ref tt,Value.bool true] (dictSet S (Value.ref tt) (Value.bool true))) _ _ _;have eT:L.take (i+1)=L.take i++[L[i]]:=by rw[List.take_add_one,Aa hlt];rfl
  refine wpAny_holding (afT (k:=pK L[i]) (v:=.bl true) (by show A.units+1+2<cLine;omega) I1 hS (sm _ _ ht) ?_ rfl fun s2 I2 hs2 => ?_)
  ·have:=u5 (L.take i) []
   rw[A2] at this;simp at this;omega
  refine wpAny_pure ⟨plainId_quiet jq _,ih (i+1) (ix+1) 0 _ _ (by omega) (by omega) I2 ⟨?_,hf'.2⟩ (hit1.at fun o' e=>hs2.extBut I o' (Ne.symm hSI) e) (aH sm hSn) ?_ hR⟩
  ·rw[az (Ne.symm hSI)];exact f0
  ·rw[ag,eT]
   unfold yX;rw[BY];rfl
def afV:List V→Hp→VK→Prop:=fun xs H Q=>∃(a:Addr) (ps:List Addr) (L:List (Nat×Nat)),xs=[.ref a]∧PT2 H a ps L∧L.length<sizeLine∧∀d H',H d=Option.none→aL H H'→H' d=some (.dT (yX [] L))→Q (.ref d) H'
theorem vz(hcalm:X.calm=true)(hu:X.A.units+64<cLine):nD X (.type "dict") afV:=by
 intro pins s σ H xs us Q I r q;obtain⟨a,ps,L,ex,pt,hsz,q⟩:=q;subst ex;obtain⟨u,eu,rx⟩:=vals1 r;subst eu;cases rx
 obtain⟨its,rv,pl,hz⟩:=I.list (SqL.of (K:=X.K) pt.lst);obtain⟨ol,n,hl,hc,hd,hdat⟩:=pl;have hh:=I.ok.hd hcalm;have hS0:H s.heap.objs.size=Option.none:=I.hok.fresh (Ae _);refine callType_codes (Q₁:=fun obj s₁=>obj=.ref s.heap.objs.size∧s₁={ s with heap:=s.heap.push { cls:=.type "dict",data:=.dict #[] } }) PySem.F.kt_called_dict (PySem.F.kt_typeCall_dict_1 _) PySem.F.entry_dict_init (kt_code_dict_new _ ⟨rfl,rfl⟩) ?_;rintro obj s₁ ⟨rfl,rfl⟩;have hnew:(s.heap.push { cls:=.type "dict",data:=.dict #[] }).DictOf (bR X.prog X.w) s.heap.objs.size []:=Heap.DictOf.new s.heap;have k0:∀b o,s.heap.get? b=some o→(s.heap.push { cls:=.type "dict",data:=.dict #[] }).get? b=some o:=fun b o e=>Heap.get?_push_of_some _ e;have I1:Inv X pins σ (upd H s.heap.objs.size (.dT [])) { s with heap:=s.heap.push { cls:=.type "dict",data:=.dict #[] } } :=
  I.laid (a:=s.heap.objs.size) (o:=.dT []) (t':=s.toks) k0 (Ae _) (vm s.heap I.big)
 refine⟨hnew.typeIs,PySem.F.args_dict_init_2 _ _,?_⟩;unfold Builtin.«dict.__init__»;refine wpAny_bind ?_;unfold Builtin.Dict.selfAndRest;refine wpAny_bind (wpAny_notOrdered_dict hnew.typeIs ?_);show wpAny _ _ (pure (s.heap.objs.size,[Value.ref a])) _ _ _;refine wpAny_pure ?_;show wpAny _ _ (Builtin.Dict.updateFrom "dict.__init__" s.heap.objs.size (.ref a) [] .none) _ _ _;unfold Builtin.Dict.updateFrom;refine wpAny_bind (wpAny_typeOf (T := "list") ⟨ol,k0 _ _ hl,hc⟩ ?_);rw[Ag (by first|decide|rfl|simp)];refine wpAny_bind (xo (k0 _ _ hl) hc hdat hd hh fun h1 tk1 hk1 => ?_);rw[Ag (show(none:Option Value).isNone=true from rfl)];refine wpAny_bind (wpAny_rule ?_);have I2:=I1.kept (t':=tk1) hk1;have hl1:h1.IsList a its.toArray:=⟨ol,hk1 _ _ (k0 _ _ hl),hc,n,hdat⟩;have hS1:s.heap.objs.size<h1.objs.size:=by
  have e:(s.heap.push { cls:=.type "dict",data:=.dict #[] }).get? s.heap.objs.size=some { cls:=.type "dict",data:=.dict #[] }:=Heap.get?_push_size _ rfl;exact Heap.lt_size (hk1 _ _ e)
 refine wpAny_bind (wpAny_pyIter_list hl1 ?_);have k2:∀b o,h1.get? b=some o→(h1.push { cls:=.type "list_iterator",data:=.fields #[.ref a,.int 0 0] }).get? b=some o:=fun b o e=>Heap.get?_push_of_some _ e;have I3:=I2.kept (t':=tk1) k2;have hlt:a<s.heap.objs.size:=Heap.lt_size hl;have hfr:(upd H s.heap.objs.size (.dT [])) h1.objs.size=Option.none:=I2.hok.fresh (Ae _);have key:=adf (X:=X) (pins:=pins) (σ:=σ) (A:=X.A.in1) (R:=wants (fun r s₂=>r=.none∧EP X pins σ Q (.ref s.heap.objs.size) s₂) X.xe) (S:=s.heap.objs.size) (I:=h1.objs.size) (l:=a) (ps:=ps) (L:=L) (H1:=H) rfl rfl hh (by show X.A.units+1+3<cLine;omega) pt hS0
  (AG (Nat.lt_trans hlt hS1)) (AG hS1) hsz L.length 0 0 0 _ _ (BP _) (Av _) I3 (I2.aa1 (Ae _) hfr) ⟨_,Heap.get?_push_size _ rfl,rfl,rfl⟩ (ah hS0) ag
  (fun s' H' I' sm hd'=>⟨rfl,.ref s.heap.objs.size,H',I',rfl,q _ H' hS0 sm hd'⟩)
 first
  | exact wpAny_pure ⟨plainId_quiet jq _,key⟩
  | exact wpAny_bind (wpAny_pure (wpAny_pure ⟨plainId_quiet jq _,key⟩))
end
section
variable {prog:Program}{w:World}{A:Around}{E:Value→Shared→Prop}{s:Shared}
theorem vL{it t:Addr}{i:Nat}{items:Array Value}{x:Value}{Q:Value→Shared→Prop}(hit:s.heap.IsTupleIter it t i)(ht:s.heap.IsTuple t items)(hx:items[i]? = some x)
  (hQ:∀h',h'.IsTupleIter it t (i+1)→Heap.SameBut it s.heap h'→Q x { s with heap:=h' }):wpAny (model prog w) A (Builtin.SmallTypes.nextOf (.ref it)) Q E s:=by
 obtain⟨o,ho,hc,hd⟩:=id hit;obtain⟨ol,hol,_,nl,hdl⟩:=ht;unfold Builtin.SmallTypes.nextOf;refine wpAny_bind (wpAny_callSpecial?_slot (name:=Str.ofString "__next__") hit.typeIs F.slot_tuple_iterator_next (wpAny_call_entry F.slot_tuple_iterator_next hit.typeIs F.entry_tuple_iterator_next ?_ (F.args_tuple_iterator_next_1 _)));show wpAny _ _ (field (.ref it) 0 >>= _) _ _ s;refine wpAny_bind (wpAny_field ho hd (x:=.ref t) rfl ?_);show wpAny _ _ (if (Value.ref t==Value.none)=true then _ else _) _ _ s;rw[Ad (show ¬((Value.ref t==Value.none)=true) from Az)];show wpAny _ _ (field (.ref it) 1 >>= _) _ _ s;refine wpAny_bind (wpAny_field ho hd (x:=.int i 0) rfl ?_);show wpAny _ _ (seqItems? (.ref t) >>= _) _ _ s;refine wpAny_bind (wpAny_seqItems hol hdl ?_);simp only[BW,hx];refine wpAny_bind (wpAny_setField ho hd (by simp) (wpAny_pure ⟨x,rfl,wpAny_pure (hQ _ ?_ (Heap.SameBut.update ..))⟩));exact⟨_,Heap.get?_update_self _ ho (Obj.isFreed_of_fields (Obj.data_mapFields hd _)),(Obj.cls_mapFields ..).trans hc,by rw[Obj.data_mapFields hd];simp[rawInt]⟩
theorem iA{it t:Addr}{i:Nat}{items:Array Value}{Q:Value→Shared→Prop}(hh:A.handled=none)(hit:s.heap.IsTupleIter it t i)(ht:s.heap.IsTuple t items)(hx:items[i]? = none)
  (hE:∀h' e,Heap.ExtBut it s.heap h'→(∃o,h'.get? e=some o∧o.cls=.type "StopIteration")→E (.ref e) { s with heap:=h' }):wpAny (model prog w) A (Builtin.SmallTypes.nextOf (.ref it)) Q E s:=by
 obtain⟨o,ho,hc,hd⟩:=id hit;obtain⟨ol,hol,_,nl,hdl⟩:=ht;unfold Builtin.SmallTypes.nextOf;refine wpAny_bind (wpAny_callSpecial?_slot (name:=Str.ofString "__next__") hit.typeIs F.slot_tuple_iterator_next (wpAny_call_entry F.slot_tuple_iterator_next hit.typeIs F.entry_tuple_iterator_next ?_ (F.args_tuple_iterator_next_1 _)));show wpAny _ _ (field (.ref it) 0 >>= _) _ _ s;refine wpAny_bind (wpAny_field ho hd (x:=.ref t) rfl ?_);show wpAny _ _ (if (Value.ref t==Value.none)=true then _ else _) _ _ s;rw[Ad (show ¬((Value.ref t==Value.none)=true) from Az)];show wpAny _ _ (field (.ref it) 1 >>= _) _ _ s;refine wpAny_bind (wpAny_field ho hd (x:=.int i 0) rfl ?_);show wpAny _ _ (seqItems? (.ref t) >>= _) _ _ s;refine wpAny_bind (wpAny_seqItems hol hdl ?_);simp only[BW,hx];refine wpAny_bind (wpAny_rule (wpAny_bind (wpAny_setField ho hd (by simp) ?_)));show wpAny _ _ (newExc (.type "StopIteration") [] >>= _) _ _ _;refine wpAny_bind ?_;simp only[newExc,newTuple];refine wpAny_bind (wpAny_newObj_type ?_ (by size_fits));refine wpAny_bind (m:=firstArgMember _ _) (wpAny_of_eq (a:=Value.none) (by first|rfl|(simp only[firstArgMember];rfl)) ?_);refine wpAny_newObj_type ?_ (by size_fits);simp only[raiseNew];refine wpAny_bind (wpAny_handled ?_)
 first|rw[show A.in1.handled=none from hh]|rw[hh]
 refine wpAny_bind (wpAny_pure (wpAny_throw ?_));exact hE _ _ (((Heap.SameBut.update ..).extBut.push _).push _) ⟨_,Heap.get?_push_size _ rfl,rfl⟩
theorem wR(hh:A.handled=none)(st:Nat)(it t:Addr)(hne:t≠it)(items:Array Value) :
  Draws prog w A it [it,t] (items.size+st) (fun j v=>∃i,j=i+st∧items[i]? = some v) (fun j h=>(∃i,j=i+st∧h.IsTupleIter it t i)∧h.IsTuple t items) where
 live:=fun _ _ q=>let ⟨_,_,o,ho,_⟩:=q.1;⟨o,ho⟩
 frame:=fun _ _ _ q hk=>by
  obtain⟨⟨i,e,hi⟩,ht⟩:=q;exact⟨⟨i,e,hi.at fun o e=>hk it (by simp) o e⟩,let ⟨o,ho,r⟩:=ht;⟨o,hk t (by simp) _ ho,r⟩⟩
 item:=fun j s Q E hj q hQ=>by
  obtain⟨⟨i,e,hi⟩,ht⟩:=q;have hlt:i<items.size:=by omega
  refine vL hi ht (x:=items[i]) (by simp[hlt]) fun h' hit' hs' => ?_;exact hQ _ h' s.toks ⟨i,e,by simp[hlt]⟩ ⟨⟨i+1,by omega,hit'⟩,let ⟨o,ho,r⟩:=ht;⟨o,hs'.extBut _ _ hne ho,r⟩⟩ hs'
 done:=fun s Q E q hE=>by
  obtain⟨⟨i,e,hi⟩,ht⟩:=q;exact iA hh hi ht (by simp;omega) hE
theorem nT{T newId:String}{self a:Value}{rest:List Value}{kw:List (Str×Value)}(hl:typeLookup (.type T) "__init__" = pure (some (.builtin "object.__init__")))
  (hm:Bind.madeBy (.type T)=pure (some newId)) (hne:(some newId != some "object.__new__")=true) :
  Meets (Builtin.«object.__init__» ⟨self::a::rest,kw⟩) (fun _ R s=>s.TypeIs self T∧R (.ok (.ret .none)) s):=by
 refine Meets.of_wp fun prog w A R s hs => ?_;obtain⟨hT,hq⟩:=hs
 repeat (any_goals (first|assumption|wp_step))
 exact⟨_,rfl,hq⟩
theorem sM{T newId initId:String}{Bn Bi:Builtin}{args:List Value}{kw:List (Str×Value)}{S:PySem.Spec}{Q Q₁:Value→Shared→Prop}(ft:TypeCalled T newId initId)
  (hct:checkTypeCall T ⟨args,kw⟩=pure ()) (hcn:checkBuiltinCall newId ⟨.type T::args,kw⟩=pure ())
  (entryN:entryFor table newId=some Bn) (entryI:entryFor table initId=some Bi) (g:Meets (Bn ⟨.type T::args,kw⟩) S)
  (h:S A.in1 (wants Q₁ E) s)
  (hnext:∀obj s₁,Q₁ obj s₁→s₁.TypeIs obj T∧argsOk initId ⟨obj::args,kw⟩∧∃Si,Meets (Bi ⟨obj::args,kw⟩) Si∧Si A.in1 (wants (fun r s₂=>r=.none∧Q obj s₂) E) s₁) :
  wpAny (model prog w) A (call (.type T) args kw) Q E s:=by
 obtain⟨c,tl,hmro⟩:=ft.mro;have hmade:=ft.made;have hsub:=ft.sub;refine wpAny_call (codeAny_of_tree ?_);show wpAny _ _ (callAny (.type T) _) _ _ _;refine wpAny_pure ⟨Code.quiet_builtin _ (by decide +kernel),codeAny_builtin F.entry_type_call ?_⟩;rw[Around.under_plain (weight_type_call_type T args kw) (units_type_call_type T args kw)];have h1:=ft.notType;have h2:=ft.canCreate
 repeat (any_goals (first|assumption|wp_step))
 refine codeAny_mono (codeAny_call_builtin ft.plain entryN (wpAny_of_eq hcn (g prog w A.in1 _ s h))) fun r s₁ hr => ?_;cases r with
 | error e=>exact hr
 | ok fl =>
  cases fl with
  | ret obj =>
   obtain⟨hT,hok,Si,gi,hsi⟩:=hnext _ _ hr;have hli:=ft.init.lookup;have hbi:=ft.init.bind obj
   repeat (any_goals (first|assumption|wp_step))
   refine codeAny_mono (codeAny_call_builtin ft.init.plain entryI (ft.init.check _ _ _ _ _ _ _ _ hT hok (gi prog w A.in1 _ s₁ hsi))) fun r₂ s₂ hr₂ => ?_;cases r₂ with
   | error e=>exact hr₂
   | ok fl₂ =>
    cases fl₂ with
    | ret r =>
     obtain⟨rfl,hq⟩:=hr₂
     repeat (any_goals (first|assumption|wp_step))
    | _=>exact hr₂.elim
  | _=>exact hr.elim
theorem nF(a b:Value):checkTypeCall "enumerate" ⟨[a],[(Str.ofString "start",b)]⟩=pure ():=by kernel_rfl
theorem pU(a b:Value):checkBuiltinCall "enumerate.__new__" ⟨[.type "enumerate",a],[(Str.ofString "start",b)]⟩=pure ():=by kernel_rfl
theorem qM(a b c:Value):argsOk "object.__init__" ⟨[a,b],[(Str.ofString "start",c)]⟩:=by
 unfold argsOk;rw[signature?_of (id := "object.__init__") (n := ['_','_','t','i','n','i','_','_']) (o := ['t','c','e','j','b','o']) (by kernel_rfl) F.owner_object];kernel_rfl
theorem tQ(t:Addr)(items:Array Value)(n:Nat)(dct:Option Addr)(sl:Array (Option Value))(tk:Tok) :
  Meets (Builtin.«enumerate.__new__» ⟨[.type "enumerate",.ref t],[(Str.ofString "start",.int 4 tk)]⟩) (fun _ R s=>s.heap.get? t=some { cls:=.type "tuple",dict:=dct,data:=.seq items n,slots:=sl } ∧
   R (.ok (.ret (.ref (s.heap.push { cls:=.type "tuple_iterator",data:=.fields #[.ref t,.int 0 0] }).objs.size)))
    { s with heap:=(s.heap.push { cls:=.type "tuple_iterator",data:=.fields #[.ref t,.int 0 0] }).push { cls:=.type "enumerate",data:=.fields #[.none,.bool false,.ref s.heap.objs.size,rawInt 4,.none,.none] } }) :=
 .of_wp fun prog w A R s h=>by
  obtain⟨hp,g,d,tk,os⟩:=s;obtain⟨hl,h⟩:=h;have hsub:=sub_enumerate;have hL:Heap.IsTuple (Shared.heap ⟨hp,g,d,tk,os⟩) t items:=⟨_,hl,rfl,n,rfl⟩
  wp_walk using AutoSeq1.wpAny_loadPart' hl
  refine wpAny_stack_any fun st=>wpAny_pure ?_
  split
  ·rename_i c _ _ _ _ _
   cases(c==Value.type "enumerate")
   ·wp_walk using AutoSeq1.wpAny_loadPart' hl,wpAny_pyIter_tuple hL
    exact⟨_,rfl,h⟩
   ·wp_walk using AutoSeq1.wpAny_loadPart' hl,wpAny_pyIter_tuple hL
    exact⟨_,rfl,h⟩
  ·wp_walk using AutoSeq1.wpAny_loadPart' hl,wpAny_pyIter_tuple hL
   exact⟨_,rfl,h⟩
theorem vM{t:Addr}{items:Array Value}{tk:Tok}{Q:Value→Shared→Prop}(hT:s.heap.IsTuple t items)
  (h:∀h',IsEnum h' (s.heap.objs.size+1) s.heap.objs.size ((4:Nat):Int) .none→h'.IsTupleIter s.heap.objs.size t 0→(∀b o,s.heap.get? b=some o→h'.get? b=some o)→Q (.ref (s.heap.objs.size+1)) { s with heap:=h' }) :
  wpAny (model prog w) A (call (.type "enumerate") [.ref t] [(Str.ofString "start",.int 4 tk)]) Q E s:=by
 obtain⟨⟨c,dct,dt,sl⟩,hl,hc,n,hd⟩:=hT
 replace hc:c=.type "tuple" := hc
 replace hd:dt=.seq items n:=hd
 subst hc hd;refine sM (Q₁:=fun obj s₁=>s₁.TypeIs obj "enumerate" ∧ Q obj s₁) F.called_enumerate (nF _ _) (pU _ _) F.entry_enumerate_new F.entry_object_init (tQ t items n dct sl tk) ⟨hl,?_⟩ fun obj s₁ hq =>
  ⟨hq.1,qM obj _ _,_,nT F.called_enumerate.init.lookup F.called_enumerate.made (by decide),hq.1,rfl,hq.2⟩
 have hz:(s.heap.push { cls:=.type "tuple_iterator",data:=.fields #[.ref t,.int 0 0] }).objs.size=s.heap.objs.size+1:=Heap.size_push ..;show _∧_;rw[hz];have he:IsEnum ((s.heap.push { cls:=.type "tuple_iterator",data:=.fields #[.ref t,.int 0 0] }).push { cls:=.type "enumerate",data:=.fields #[.none,.bool false,.ref s.heap.objs.size,rawInt 4,.none,.none] }) (s.heap.objs.size+1) s.heap.objs.size ((4:Nat):Int) .none:=by
  have:=Heap.get?_push_size (s.heap.push { cls:=.type "tuple_iterator",data:=.fields #[.ref t,.int 0 0] }) (o:={ cls:=.type "enumerate",data:=.fields #[.none,.bool false,.ref s.heap.objs.size,rawInt 4,.none,.none] }) rfl;rw[hz] at this;exact this
 exact⟨⟨_,he,rfl⟩,h _ he ⟨_,Heap.get?_push_of_some _ (Heap.get?_push_size _ rfl),rfl,rfl⟩ fun b o x=>Heap.get?_push_of_some _ (Heap.get?_push_of_some _ x)⟩
theorem xw{e it t:Addr}{i:Nat}{j:Int}{items:Array Value}{old:Value}{Q:Option Value→Shared→Prop}(hh:A.handled=none)(he:IsEnum s.heap e it j old)(hit:s.heap.IsTupleIter it t i)(ht:s.heap.IsTuple t items)(hx:items[i]? = none)
  (hQ:∀h',Heap.ExtBut it s.heap h'→Q none { s with heap:=h' }):wpAny (model prog w) A (pyNext (.ref e)) Q E s:=by
 have hT:s.TypeIs (.ref e) "enumerate" := ⟨_,he,rfl⟩;unfold pyNext;refine wpAny_bind (wpAny_attempt (wpAny_callSpecial?_slot (name:=Str.ofString "__next__") hT F.slot_enumerate_next (wpAny_call_entry F.slot_enumerate_next hT F.entry_enumerate_next ?_ (F.args_enumerate_next_1 _))));show wpAny _ _ (field (.ref e) 2 >>= _) _ _ _;refine wpAny_bind (wpAny_field he rfl (x:=.ref it) rfl ?_);refine wpAny_bind (iA (A:=A.in1) hh hit ht hx fun h' x he' hx' => ?_);obtain⟨o,ho,hc⟩:=hx';exact wpAny_bind (wpAny_isInstance (T := "StopIteration") (b:=true) ⟨o,ho,hc⟩ isSubtype_stop (wpAny_pure (hQ _ he')))
theorem nN{M:Model}{pos:Pos}{T:String}{e:Expr}{rest:List Expr}{kws:List Keyword}{env:Env}{Q:Value→Shared→Prop}
  (h:wpAny M A (spliced (backTo pos (starEach (e::rest) env))) (fun vs s₁=>wpAny M A (evalAll ((backToKw pos (keywordEach kws env)).map (·.2)))
   (fun kvs s₂=>wpAny M A (call (.type T) vs (((backToKw pos (keywordEach kws env)).filterMap (·.1)).zip kvs)) Q E s₂) E s₁) E s)
  (he:backTo pos (starEach (e::rest) env)=(false,eval e env)::backTo pos (starEach rest env):=by rfl)
  (aai:(backTo pos (starEach (e::rest) env)).any (·.1)=false:=by rfl)
  (hall:(backToKw pos (keywordEach kws env)).all (·.1.isSome)=true:=by rfl)
  (hkw:(backToKw pos (keywordEach kws env)).any (·.1.isNone)=false:=by rfl) :
  wpAny M A (callWith pos (.type T) [] (backTo pos (starEach (e::rest) env)) (backToKw pos (keywordEach kws env))) Q E s:=by
 have key:wpAny M A (evalArgs (.type T) true (backTo pos (starEach (e::rest) env)) (backToKw pos (keywordEach kws env))) (fun a s₁=>wpAny M A (call (.type T) ([]++a.pos) a.kw) Q E s₁) E s:=by
  rw[he] at h ⊢;exact evalArgs_kwB hall h
 unfold callWith;refine wpAny_bind (wpAny_holding (wpAny_mono key (fun a s₁ h₁=>wpAny_bind (wpAny_standAt ?_)) fun _ _ x=>x));simp only[aai,hkw,DA];refine wpAny_bind (wpAny_pure ?_);exact wpAny_bind (wpAny_mono h₁ (fun r s₂ hr=>wpAny_bind (wpAny_holding (wpAny_point (wpAny_pure hr)))) fun _ _ x=>x)
end
def ItS(K:DG)(a:Addr):It :=
 ⟨fun i H=>∃(xs:List V) (x:V),SqT K H a xs∧xs[i]? = some x,fun i H v H'=>∃T x,v=.ref T∧H T=none∧H'=upd H T (.tup [.int ((i+4:Nat):Int),x])∧∀xs,SqT K H a xs→xs[i]? = some x,fun i H=>∃xs:List V,SqT K H a xs∧xs.length≤i⟩
theorem wz{P:Program}{w:World}{K:DG}{elts:List Expr}{kk:Nat}{tpos:Pos}(a e it:Addr) :
  Turn P w K (.Tuple elts kk tpos) (ItS K a) [e,it] e (fun i h=>(∃old,IsEnum h e it ((i+4:Nat):Int) old)∧h.IsTupleIter it a i∧e≠it∧a≠it∧a≠e) where
 mem:=by simp
 obj:=fun i h st b hb=>by
  obtain⟨⟨old,he⟩,⟨o,ho,hc,hd⟩,_⟩:=st;have e':b=e∨b=it:=by simpa using hb
  rcases e' with z|z
  ·rw[z];exact⟨_,he,fun v q=>nomatch q⟩
  ·rw[z];exact⟨o,ho,fun v q=>by rw[hd] at q;cases q⟩
 keep:=fun i h h' st k=>let ⟨⟨old,he⟩,hi,hne⟩:=st;⟨⟨old,k e (by simp) _ he⟩,hi.at fun o q=>k it (by simp) o q,hne⟩
 item:=by
  intro X hP hw hK hc i pins s σ H E I hf st hg;subst hP hw hK;obtain⟨⟨old,he⟩,hit,hne,hai,hae⟩:=st;obtain⟨xs,x,hq,hx⟩:=hg;obtain⟨its,rv,p,hz⟩:=I.tuple hq;obtain⟨u,hu,ru⟩:=rv.get hx;have hlt:i<its.length:=(List.getElem?_eq_some_iff.mp hu).1;have hel:e<s.heap.objs.size:=Heap.lt_size he;have hil:it<s.heap.objs.size:=by obtain⟨_,q,_⟩:=hit;exact Heap.lt_size q
  refine wpAny_pyNext_enum_itemD (i:=i+4) (wR (A:=X.A.in1) (I.ok.hd hc) 4 it a hai its.toArray) he ⟨⟨i,rfl,hit⟩,show s.heap.IsTuple a its.toArray from p⟩ (by rw[Ay];omega) hne (by
   intro z;have z':e=it∨e=a:=by simpa using z
   rcases z' with z|z
   ·exact hne z
   ·exact hae z.symm) fun y h' tk hP ho st' hT hsz hk => ?_
  obtain⟨i',ei,ey⟩:=hP;have eii:i'=i:=by omega
  subst eii;have ey':its[i']? = some y:=by simpa using ey
  rw[hu] at ey';obtain rfl:=Ac ey';obtain⟨⟨i2,e2,hit'⟩,_⟩:=st';have ei2:i2=i'+1:=by omega
  subst ei2;refine⟨_,rfl,wpAny_letOwnedTupleGo_enum (s:={ s with heap:=h',toks:=tk+1 }) ho fun h'' he' sb => ?_⟩;have hT2:h''.get? s.heap.objs.size=some { cls:=.type "tuple",data:=.seq #[.int ((i'+4:Nat):Int) tk,u] }:=(sb.2 _ (BG hel)).trans hT;have new:cJ X.prog X.w (upd H s.heap.objs.size (.tup [.int ((i'+4:Nat):Int),x])) h'' s.heap.objs.size (.tup [.int ((i'+4:Nat):Int),x]) :=
   ⟨by show 2≤sizeLine;decide,[.int ((i'+4:Nat):Int) tk,u],.cons ⟨_,rfl⟩ (.cons ru .nil),⟨_,hT2,rfl,_,rfl⟩⟩
  have I1:Inv X pins σ (upd H s.heap.objs.size (.tup [.int ((i'+4:Nat):Int),x])) { s with heap:=h'',toks:=tk+1 } :=
   I.mF (ch := [e,it]) (fun b ob hb q=>(sb.2 b (fun z=>hb (by simp[z]))).trans (hk b ob (fun z=>hb (by simp[z])) (fun z=>hb (by simp[z])) q)) hf (Ae _) new
  refine⟨.ref s.heap.objs.size,_,I1,rfl,⟨_,x,rfl,I.hok.fresh (Ae _),rfl,fun ys hy=>by rw[I.qY hy hq];exact hx⟩,⟨⟨u,?_⟩,hit'.at fun o q=>(sb.2 it (Ne.symm hne)).trans q,hne,hai,hae⟩,fun b hb => ?_⟩
  ·have e1:((i'+1+4:Nat):Int)=((i'+4:Nat):Int)+1:=by omega
   rw[e1];exact he'
  ·have hb':b<s.heap.objs.size:=by
    have e':b=e∨b=it:=by simpa using hb
    rcases e' with z|z
    ·rw[z];exact hel
    ·rw[z];exact hil
   rw[az (AG hb')];exact(hf b hb).1
 done:=by
  intro X hP hw hK hc i pins s σ H E I hf st hg;subst hP hw hK;obtain⟨⟨old,he⟩,hit,hne,hai,hae⟩:=st;obtain⟨xs,hq,hx⟩:=hg;obtain⟨its,rv,p,hz⟩:=I.tuple hq;obtain⟨f0,f1,f2,f3,f4,f5⟩:=hf it (by simp);have hl:=rv.length;exact xw (I.ok.hd hc) he hit (show s.heap.IsTuple a its.toArray from p) (by simp;omega) fun h' eb=>⟨rfl,I.turned (t':=s.toks) (fun b o hb q=>eb b o hb q) f0 f1 f3 f4 f5⟩
 self:=fun A i s Q E st h=>let ⟨⟨_,he⟩,_⟩:=st;wpAny_pyIter_enum he h
section
variable {X:Cx}
def afc(K:DG)(te:TE):TI:=fun σ H R=>te σ H fun x H1=>∃a xs,x=.ref a∧SqT K H1 a xs∧R (ItS K a) H1
theorem abk{e:Expr}{te:TE}{p pos tpos kp cp:Pos}{elts:List Expr}{kk cn:Nat}(hg:Gl X "enumerate")(hm:X.mg "enumerate" = none)(ha:PE X e te)
  (hs:starEach [e] X.env=[(false,eval e X.env)]:=by rfl) :
  PI X (.Tuple elts kk tpos) (.Call (.Name "enumerate" p) [e] [⟨some "start",.Constant (.int 4) cn cp,kp⟩] pos) (afc X.K te):=by
 intro pins s σ H R I h;refine wpAny_Call_Name_kw (iz I hg hm boot_enumerate ?_);refine nN ?_ (by rw[hs];rfl) (by rw[hs];rfl);rw[hs];show wpAny _ _ (spliced ((false,eval e X.env)::[])) _ _ _;refine Calls.spliced_cons (thn (ha pins s σ H _ I h) fun u s1 ⟨x,H1,I1,r1,a,xs,ex,hq,q⟩=>Calls.spliced_nil ?_);subst ex;cases r1
 refine kws_cons ?_;refine thn (ao (X:=X) (i:=4) (j:=cn) (pos:=cp) pins s1 σ H1 (fun v H2=>v=.int 4∧H2=H1) I1 ⟨rfl,rfl⟩) fun v s2 ⟨y,H2,I2,r2,e1,e2⟩ => ?_;subst e1 e2;obtain⟨tk,rfl⟩:=r2;refine kws_nil ?_;obtain⟨its,rv,p',hz⟩:=I2.tuple hq;refine vM (show s2.heap.IsTuple a its.toArray from p') fun h' he hit hk=>wpAny_pyIter_enum he ?_;have I3:Inv X pins σ H2 { s2 with heap:=h' }:=I2.kept (t':=s2.toks) hk;have la:a<s2.heap.objs.size:=by obtain⟨o,ho,_⟩:=p';exact Heap.lt_size ho
 refine⟨s2.heap.objs.size+1,[s2.heap.objs.size+1,s2.heap.objs.size],_,_,H2,rfl,I3,wz a (s2.heap.objs.size+1) s2.heap.objs.size,⟨⟨.none,he⟩,hit,Nat.succ_ne_self _,AG la,AG (Cu la)⟩,fun b hb => ?_,q⟩;have e':b=s2.heap.objs.size+1∨b=s2.heap.objs.size:=by simpa using hb
 have hle:s2.heap.objs.size≤b:=by
  rcases e' with z|z
  ·rw[z];exact Dh _ _
  ·rw[z];exact Ae _
 exact I2.aa1 hle (I2.hok.fresh hle)
structure FnV(P:Program)(w:World)(K:DG)(mg:DH)(base:Heap)(k:Nat)(f:Addr)(sp:Sp):Prop where
 ex:∃fd ps,PySem.W.keepIn K (.ref f)=true∧Binds K fd ps []∧nB P w K mg base CX0 k f fd ps sp
def agQ(Fs:Addr→Sp→Prop)(tv:TE)(t:TA):TE:=fun σ H Q=>tv σ H fun x H1=>∃f sp,x=.ref f∧Fs f sp∧t σ H1 fun vs H2=>sp (vs++[]) H2 Q E0
theorem abm{k:Nat}{x:Str}{e:Expr}{es:List Expr}{t:TA}{tv:TE}{p pos:Pos}(hv:PE X (.Name x p) tv)(hr:e6 k X.A)(ha:PA X (e::es) t)
  (he:starEach (e::es) X.env=(false,eval e X.env)::starEach es X.env:=by rfl) (hpl:(backTo pos (starEach es X.env)).any (·.1)=false:=by rfl) (hx:Passes CX0 X E0:=by exact tI) :
  PE X (.Call (.Name x p) (e::es) [] pos) (agQ (FnV X.prog X.w X.K X.mg X.base k) tv t):=by
 intro pins s σ H Q I h;refine wpAny_Call_Name_kw (thn (hv pins s σ H _ I h) fun u s1 ⟨y,H1,I1,r1,f,sp,ex,hF,q⟩ => ?_);subst ex;cases r1
 obtain⟨fd,ps,hk,hb,F⟩:=hF.ex;refine PySem.W.callWith_K (h₀:=X.base) I.ok.mod.kin hk (thn (ha pos pins s1 σ H1 _ I1 q) fun us s2 ⟨vs,H2,I2,r,q2⟩=>⟨I2.kIn,?_⟩) he hpl;exact vq F hr hb .nil hx I2 r q2
end
def top(i:Nat):Stmt:=PySem.Challenge.pw_glasssheets_s04_cuts.main.body.getD i (.Pass ⟨0,0,0,0⟩)
structure Adr where
 sign:Addr
 heads:Addr
 finders:Addr
 drawing:Addr
 pane:Addr
 cartoon:Addr
 blank:Addr
 sheet:Addr
 order:Addr
structure Fl(K:DG)(C:Addr)(fs:List Str):Prop where
 cl:Cls K C
 no:∀f∈fs,fg K C f
theorem xO{K:DG}{σ:L2.St}{H:Hp}{Q:VK}{i:Nat}{a C dx:Addr}{fs:List (Str×V)}{v:V}{f:Str}{ns:List Str}(h1:σ[i]? = some (some (.ref a)))(h2:H a=some (.ins C dx fs))(F:Fl K C ns)(h3:fs.lookup f=some v)
  (h:Q v H) (hf:f∈ns:=by decide +kernel):ahd K (acB i) f σ H Q:=⟨_,h1,a,C,dx,fs,v,rfl,h2,F.cl,F.no f hf,h3,h⟩
structure Txt(K:DG)(mg:DH)(ad:Adr):Prop where
 bD:mg "len" = none
 fH:mg "range" = none
 aV:mg "enumerate" = none
 acU:mg "zip" = none
 t7:mg "reversed" = none
 aaj:mg "min" = none
 aak:mg "max" = none
 abQ:mg "tuple" = none
 aeF:mg "dict" = none
 aeG:mg "list" = none
 bg:iN mg "HEAD_SIZE" 20
 bL:iN mg "POINT_SIZE" 8
 bW:iN mg "LINE_SIZE" 4
 cq:iN mg "MARK_SIZE" 12
 cE:iN mg "MOST_LENGTH" 16777215
 cY:iN mg "MOST_GLASS" 65535
 bH:iN mg "SHEET_NUMBERS" 4
 cF:iN mg "MOST_MARGIN" 65535
 cZ:iN mg "MOST_BYTES" 131072
 cG:iN mg "MOST_SHEETS" 1024
 draw:Fl K ad.drawing ["width","height","points","lines","marks"]
 pane:Fl K ad.pane ["glass","corners"]
 cartoon:Fl K ad.cartoon ["broken","panes"]
 blank:Fl K ad.blank ["glass","width","height"]
 sheet:Fl K ad.sheet ["glass","width","height","turns"]
 order:Fl K ad.order ["refusal","blanks","sheets"]
 agY:mg "SIGN" = some (.ref ad.sign)
 nV:mg "HEAD_NUMBERS" = some (.ref ad.heads)
 sign_is:nA K ad.sign [.int 71,.int 76,.int 65,.int 49]
 heads_are:∃a0 a1 a2 a3 a4 a5:Addr,nA K ad.heads [.ref a0,.ref a1,.ref a2,.ref a3,.ref a4,.ref a5]∧nA K a0 [.int 4,.int 4,.int 16,.int 1048575]∧nA K a1 [.int 8,.int 4,.int 16,.int 1048575] ∧
  nA K a2 [.int 12,.int 2,.int 4,.int 4096]∧nA K a3 [.int 14,.int 2,.int 4,.int 8192]∧nA K a4 [.int 16,.int 2,.int 1,.int 2048]∧nA K a5 [.int 18,.int 2,.int 0,.int 0]
section
variable {P:Program}{w:World}{K:DG}{mg:DH}{base:Heap}{ad:Adr}
def nG(px py qx qy rx ry:Int):Int:=(qx-px)*(ry-qy)-(qy-py)*(rx-qx)
inductive lS(K:DG)(vs:List V)(H:Hp)(Q:VK)(E:XK):Prop
 | mk (a b c:Addr) (px py qx qy rx ry:Int) (c0:vs=[.ref a,.ref b,.ref c]) (c1:vi K H a px py) (c2:vi K H b qx qy) (c3:vi K H c rx ry) (c4:Sm px) (c5:Sm py) (c6:Sm qx) (c7:Sm qy) (c8:Q (.int (nG px py qx qy rx ry)) H):lS K vs H Q E
abbrev ach:Stmt:=(top 15)
theorem acZ(D:Def K mg "turn" ach ["p","q","r"]):Fn P w K mg base 1 "turn" ["p","q","r"] (lS K):=by
 refine D.fx ["p","q","r"] ?_;rintro nd f cdv A outer s H vs Q E hr ⟨a,b,c,px,py,qx,qy,rx,ry,rfl,⟨xs,hp,p0,p1⟩,⟨ys,hq,q0,q1⟩,⟨zs,hr,r0,r1⟩,s1,s2,s3,s4,k⟩;refine⟨_,(kxr (aP dX (aP dr (aP dX (kxT (pv 1) ao) (kxT (pv 0) ao)) (aP dX (kxT (pv 2) ao) (kxT (pv 1) ao))) (aP dr (aP dX (kxT (pv 1) ao) (kxT (pv 0) ao)) (aP dX (kxT (pv 2) ao) (kxT (pv 1) ao))))),?_⟩;refine dG rfl hq q0 (dG rfl hp p0 ⟨_,_,rfl,rfl,dG rfl hr r1 (dG rfl hq q1 ⟨_,_,rfl,rfl,_,_,rfl,rfl,afp s3 s1,?_⟩)⟩);refine dG rfl hq q1 (dG rfl hp p1 ⟨_,_,rfl,rfl,dG rfl hr r0 (dG rfl hq q0 ⟨_,_,rfl,rfl,_,_,rfl,rfl,afp s4 s2,_,_,rfl,rfl,?_⟩)⟩);exact k
inductive mJ(vs:List V)(H:Hp)(Q:VK)(E:XK):Prop
 | mk (v a b:Int) (c0:vs=[.int v,.int a,.int b]) (c1:Q (.bl (decide (min a b≤v)&&decide (v≤max a b))) H):mJ vs H Q E
abbrev rG:Stmt:=(top 16)
theorem vC(D:Def K mg "is_between" rG ["value","one","other"])(T:Txt K mg ad):Fn P w K mg base 1 "is_between" ["value","one","other"] mJ:=by
 refine D.fx ["value","one","other"] ?_;rintro nd f cdv A outer s H vs Q E hr ⟨v,a,b,rfl,k⟩;refine⟨_,(kxr (eY (aX pT (cT (zO rfl) (by rfl) T.aaj PyProof.Rows.boot_min (ab (pv 1) (ab (pv 2) ak))) (pv 0) (a8 _)) (fU (aX pT (pv 0) (cT (xV rfl) (by rfl) T.aak PyProof.Rows.boot_max (ab (pv 1) (ab (pv 2) ak))) (a8 _))))),?_⟩;have e1:(if b<a then b else a)=min a b:=by omega
 have e2:(if b>a then b else a)=max a b:=by omega
 refine⟨_,rfl,_,rfl,_,_,rfl,_,rfl,_,_,rfl,rfl,_,rfl,?_⟩;rw[e1];refine bJ (fun h => ?_) (fun h => ?_)
 ·refine⟨_,rfl,_,rfl,_,rfl,_,_,rfl,_,_,rfl,rfl,?_⟩
  rw[e2];rw[h,AU] at k;exact k
 ·rw[AB] at h
  rw[h,A5] at k;exact k
inductive lG(K:DG)(vs:List V)(H:Hp)(Q:VK)(E:XK):Prop
 | mk (a b:Addr) (px py qx qy:Int) (c0:vs=[.ref a,.ref b]) (c1:vi K H a px py) (c2:vi K H b qx qy) (c3:Q (.bl (decide (qy<py)||(decide (py=qy)&&decide (qx<px)))) H):lG K vs H Q E
abbrev uo:Stmt:=(top 18)
theorem ym(D:Def K mg "comes_behind" uo ["point","last"]):Fn P w K mg base 1 "comes_behind" ["point","last"] (lG K):=by
 refine D.fx ["point","last"] ?_;rintro nd f cdv A outer s H vs Q E hr ⟨a,b,px,py,qx,qy,rfl,⟨xs,hp,p0,p1⟩,⟨ys,hq,q0,q1⟩,k⟩;refine⟨_,(kxr (agB (aX lD (kxT (pv 0) ao) (kxT (pv 1) ao) (a8 _)) (fU (eY (aX adl (kxT (pv 0) ao) (kxT (pv 1) ao) (a8 _)) (fU (aX lD (kxT (pv 0) ao) (kxT (pv 1) ao) (a8 _))))))),?_⟩;refine dG rfl hp p1 (dG rfl hq q1 ⟨_,_,rfl,rfl,_,rfl,bJ (fun h => ?_) (fun h => ?_)⟩)
 ·rw[h,CG] at k
  exact k
 ·rw[AB] at h
  rw[h,C6] at k;refine dG rfl hp p1 (dG rfl hq q1 ⟨rfl,_,rfl,bJ (fun h2 => ?_) (fun h2 => ?_)⟩)
  ·refine dG rfl hp p0 (dG rfl hq q0 ⟨_,_,rfl,rfl,?_⟩)
   have e:(decide (V.int py=V.int qy))=decide (py=qy):=by rw[ka];rfl
   rw[← e,h2,AU] at k;exact k
  ·rw[AB] at h2
   have e:(decide (V.int py=V.int qy))=decide (py=qy):=by rw[ka];rfl
   rw[← e,h2,A5] at k;exact k
def onZ(rx ry px py qx qy:Int):Bool:=(decide (min py qy≤ry)&&decide (ry≤max py qy))&&((decide (min px qx≤rx)&&decide (rx≤max px qx))&&decide (nG px py qx qy rx ry=0))
inductive aff(K:DG)(vs:List V)(H:Hp)(Q:VK)(E:XK):Prop
 | mk (c a b:Addr) (rx ry px py qx qy:Int) (c0:vs=[.ref c,.ref a,.ref b]) (c1:vi K H c rx ry) (c2:vi K H a px py) (c3:vi K H b qx qy) (c4:Sm px) (c5:Sm py) (c6:Sm qx) (c7:Sm qy) (c8:Q (.bl (onZ rx ry px py qx qy)) H):aff K vs H Q E
abbrev aij:Stmt:=(top 17)
theorem aho(D:Def K mg "is_on" aij ["r","p","q"])(d4:Fn P w K mg base 1 "is_between" ["value","one","other"] mJ)(dw:Fn P w K mg base 1 "turn" ["p","q","r"] (lS K)):Fn P w K mg base 2 "is_on" ["r","p","q"] (aff K):=by
 refine D.fx ["r","p","q"] ?_;rintro nd f cdv A outer s H vs Q E hr ⟨c,a,b,rx,ry,px,py,qx,qy,rfl,hc,ha,hb,s1,s2,s3,s4,k⟩;obtain⟨zs,hz,z0,z1⟩:=id hc;obtain⟨xs,hp,p0,p1⟩:=id ha;obtain⟨ys,hq,q0,q1⟩:=id hb;refine⟨_,(kxr (eY (kxF d4 hr (ab (kxT (pv 0) ao) (ab (kxT (pv 1) ao) (ab (kxT (pv 2) ao) ak)))) (eY (kxF d4 hr (ab (kxT (pv 0) ao) (ab (kxT (pv 1) ao) (ab (kxT (pv 2) ao) ak)))) (fU (aX adl (kxF dw hr (ab (pv 1) (ab (pv 2) (ab (pv 0) ak)))) ao (a8 _)))))),?_⟩;unfold onZ at k;refine dG rfl hz z1 (dG rfl hp p1 (dG rfl hq q1 ⟨_,_,_,rfl,_,rfl,bJ (fun h => ?_) (fun h => ?_)⟩))
 ·rw[h,AU] at k
  refine dG rfl hz z0 (dG rfl hp p0 (dG rfl hq q0 ⟨_,_,_,rfl,_,rfl,bJ (fun h => ?_) (fun h => ?_)⟩))
  ·rw[h,AU] at k
   refine⟨_,rfl,_,rfl,_,rfl,a,b,c,px,py,qx,qy,rx,ry,rfl,ha,hb,hc,s1,s2,s3,s4,rfl,?_⟩;have e:(decide (V.int (nG px py qx qy rx ry)=V.int 0))=decide (nG px py qx qy rx ry=0):=by rw[ka];rfl
   rw[e];exact k
  ·rw[AB] at h
   rw[h,A5] at k;exact k
 ·rw[AB] at h
  rw[h,A5] at k;exact k
def Bytes(ns:List Int):Prop:=∀z∈ns,0≤z∧z<256
inductive sI(K:DG)(vs:List V)(H:Hp)(Q:VK)(E:XK):Prop
 | mk (a:Addr) (ns:List Int) (st len:Nat) (c0:vs=[.ref a,.int st,.int len]) (c1:SqL K H a (ns.map V.int)) (c2:Bytes ns) (c3:∀H',aL H H'→Q (.int (eV ns st len)) H'):sI K vs H Q E
abbrev aeY:Stmt:=(top 8)
theorem abo{l:List Int}{i:Nat}{z:Int}(h:l[i]? = some z):leZ (l.drop i)=z+256*leZ (l.drop (i+1)):=by
 obtain⟨hi,e⟩:=List.getElem?_eq_some_iff.mp h;rw[AI hi,e];rfl
theorem ago(D:Def K mg "read_number" aeY ["data","start","length"])(T:Txt K mg ad):Fn P w K mg base 1 "read_number" ["data","start","length"] (sI K):=by
 refine D.fx ["data","start","length","number","byte"] ?_;rintro nd f cdv A outer s H vs Q E hr ⟨a,ns,st,len,rfl,hS,hB,k⟩;refine⟨_,(kxs 3 nd ao (aA (bC PassesOwn.never rfl (sW (by rfl) T.t7 (ab (fE iV (pv 0) (d9 (pv 1)) (d9 (aP aT (pv 1) (pv 2)))) ak)) (kxo 4 nd) (aF (lV (i:=3) nd rfl (Or.inl rfl) (aP aT (aP dr (pv 3) ao) (pv 4))))) (kxr (pv 3)))),?_⟩;refine⟨_,rfl,_,rfl,_,rfl,_,rfl,_,rfl,_,_,rfl,rfl,_,rfl,a,_,rfl,hS,fun p hp => ?_⟩;have e1:kS (ns.map V.int) (some (st:Int)) (some ((st:Int)+(len:Int)))=(((ns.drop st).take len).map V.int):=by
  rw[show(st:Int)+(len:Int)=((st+len:Nat):Int) by omega,oP,Ci,C7]
  congr 1;omega
 rw[e1];generalize hl:(ns.drop st).take len=l;have sm:=ah (o:=.lst (l.map V.int)) hp;refine⟨p,_,rfl,SqL.of ag,?_⟩;rw[Ab];refine u4 l.length (fun i σ H'=>∃v,σ=[some (.ref a),some (.int st),some (.int len),some (.int (leZ (l.drop (l.length-i)))),v]∧H'=upd H p (.lst (l.map V.int))) ?_ ?_ ?_ ?_
 ·refine⟨none,?_,rfl⟩
  rw[BP,Cz (Ae _)];rfl
 ·rintro i σ H' hi ⟨v,rfl,rfl⟩
  refine⟨hi,l.map V.int,V.int l[l.length-1-i],SqL.of ag,?_⟩;rw[Am,Aa (show l.length-1-i<l.length by omega)];rfl
 ·rintro i x σ H' H2 hi ⟨v,rfl,rfl⟩ ⟨rfl,hy⟩
  have hx:=hy _ (SqL.of ag);have hz:l[l.length-1-i]? = some l[l.length-1-i]:=Aa (by omega);rw[Am,hz] at hx;obtain rfl:V.int l[l.length-1-i]=x:=Ac hx;refine⟨_,rfl,_,_,rfl,rfl,.inr ⟨by decide,by decide⟩,_,rfl,_,_,rfl,rfl,?_⟩;refine⟨some (V.int l[l.length-1-i]),?_,rfl⟩;rw[show l.length-(i+1)=l.length-1-i by omega,abo hz,show l.length-1-i+1=l.length-i by omega];rw[show l[l.length-1-i]+256*leZ (l.drop (l.length-i))=leZ (l.drop (l.length-i))*256+l[l.length-1-i] by omega];rfl
 ·rintro σ H' ⟨v,rfl,rfl⟩
  refine⟨Ae _,_,rfl,?_⟩;rw[AO,BN,← hl];exact k _ (by rw[← hl] at sm;exact sm)
inductive zR(K:DG)(vs:List V)(H:Hp)(Q:VK)(E:XK):Prop
 | mk (a:Addr) (ns:List Int) (st len:Nat) (c0:vs=[.ref a,.int st,.int len]) (c1:SqL K H a (ns.map V.int)) (c2:Bytes ns) (c3:∀H' p,aL H H'→H' p=some (.tup [.int (eV ns st len),.int (eV ns (st+len) len)])→Q (.ref p) H'):zR K vs H Q E
abbrev acv:Stmt:=(top 12)
theorem adb(D:Def K mg "read_pair" acv ["data","start","length"])(aD:Fn P w K mg base 1 "read_number" ["data","start","length"] (sI K)):Fn P w K mg base 2 "read_pair" ["data","start","length"] (zR K):=by
 refine D.fx ["data","start","length"] ?_;rintro nd f cdv A outer s H vs Q E hr ⟨a,ns,st,len,rfl,hS,hB,k⟩;refine⟨_,(kxr (du (ab (kxF aD hr (ab (pv 0) (ab (pv 1) (ab (pv 2) ak)))) (ab (kxF aD hr (ab (pv 0) (ab (aP aT (pv 1) (pv 2)) (ab (pv 2) ak)))) ak)))),?_⟩;refine⟨_,rfl,_,rfl,_,rfl,a,ns,st,len,rfl,hS,hB,fun H1 s1 => ?_⟩;refine⟨_,rfl,_,rfl,_,rfl,_,_,rfl,rfl,_,rfl,a,ns,st+len,len,rfl,s1.seq hS,hB,fun H2 s2=>⟨by show 2≤sizeLine;decide,fun p hp => ?_⟩⟩;exact k _ p ((s1.trans s2).trans (ah hp)) ag
inductive zB(K:DG)(vs:List V)(H:Hp)(Q:VK)(E:XK):Prop
 | mk (a:Addr) (ns:List Int) (st:Nat) (c0:vs=[.ref a,.int st]) (c1:SqL K H a (ns.map V.int)) (c2:Bytes ns) (c3:∀H' p,aL H H'→H' p=some (.tup [.int (eV ns st 4),.int (eV ns (st+4) 4),.int (eV ns (st+8) 2)])→Q (.ref p) H'):zB K vs H Q E
abbrev acS:Stmt:=(top 13)
theorem adE(D:Def K mg "read_mark" acS ["data","start"])(aD:Fn P w K mg base 1 "read_number" ["data","start","length"] (sI K)):Fn P w K mg base 2 "read_mark" ["data","start"] (zB K):=by
 refine D.fx ["data","start"] ?_;rintro nd f cdv A outer s H vs Q E hr ⟨a,ns,st,rfl,hS,hB,k⟩;refine⟨_,(kxr (du (ab (kxF aD hr (ab (pv 0) (ab (pv 1) (ab ao ak)))) (ab (kxF aD hr (ab (pv 0) (ab (aP aT (pv 1) ao) (ab ao ak)))) (ab (kxF aD hr (ab (pv 0) (ab (aP aT (pv 1) ao) (ab ao ak)))) ak))))),?_⟩;refine⟨_,rfl,_,rfl,a,ns,st,4,rfl,hS,hB,fun H1 s1 => ?_⟩;refine⟨_,rfl,_,rfl,_,_,rfl,rfl,a,ns,st+4,4,rfl,s1.seq hS,hB,fun H2 s2 => ?_⟩;refine⟨_,rfl,_,rfl,_,_,rfl,rfl,a,ns,st+8,2,rfl,(s1.trans s2).seq hS,hB,fun H3 s3=>⟨by show 3≤sizeLine;decide,fun p hp => ?_⟩⟩;exact k _ p (((s1.trans s2).trans s3).trans (ah hp)) ag
inductive aag(K:DG)(vs:List V)(H:Hp)(Q:VK)(E:XK):Prop
 | mk (a:Addr) (ns:List Int) (c0:vs=[.ref a]) (c1:SqL K H a (ns.map V.int)) (c2:Bytes ns) (c3:∀H',aL H H'→Q (.int (20+8*eV ns 12 2+4*eV ns 14 2+12*eV ns 16 2)) H'):aag K vs H Q E
abbrev abS:Stmt:=(top 10)
theorem aeu(D:Def K mg "told_size" abS ["data"])(T:Txt K mg ad)(aD:Fn P w K mg base 1 "read_number" ["data","start","length"] (sI K)):Fn P w K mg base 2 "told_size" ["data"] (aag K):=by
 refine D.fx ["data","points","lines","marks"] ?_;rintro nd f cdv A outer s H vs Q E hr ⟨a,ns,rfl,hS,hB,k⟩;have c8:∀z:Int,wD 8 z:=fun z=>.inl ⟨by decide,by decide⟩;have c4:∀z:Int,wD 4 z:=fun z=>.inl ⟨by decide,by decide⟩;have c12:∀z:Int,wD 12 z:=fun z=>.inl ⟨by decide,by decide⟩;refine⟨_,(kxs 1 nd (aP dr (kxG T.bL) (kxF aD hr (ab (pv 0) (ab ao (ab ao ak))))) (kxs 2 nd (aP dr (kxG T.bW) (kxF aD hr (ab (pv 0) (ab ao (ab ao ak))))) (kxs 3 nd (aP dr (kxG T.cq) (kxF aD hr (ab (pv 0) (ab ao (ab ao ak))))) (kxr (aP aT (aP aT (aP aT (kxG T.bg) (pv 1)) (pv 2)) (pv 3)))))),?_⟩;refine⟨_,rfl,a,ns,12,2,rfl,hS,hB,fun H1 s1=>⟨_,_,rfl,rfl,c8 _,?_⟩⟩;refine⟨_,rfl,a,ns,14,2,rfl,s1.seq hS,hB,fun H2 s2=>⟨_,_,rfl,rfl,c4 _,?_⟩⟩;refine⟨_,rfl,a,ns,16,2,rfl,(s1.trans s2).seq hS,hB,fun H3 s3=>⟨_,_,rfl,rfl,c12 _,?_⟩⟩;refine⟨_,rfl,_,_,rfl,rfl,_,rfl,_,_,rfl,rfl,_,rfl,_,_,rfl,rfl,?_⟩;exact k H3 ((s1.trans s2).trans s3)
def brk:Option (Int×Int)→List V
 | none=>[]
 | some (r,p)=>[.int r,.int p]
def HN:List (Nat×Nat×Int×Int) := [(4,4,16,1048575),(8,4,16,1048575),(12,2,4,4096),(14,2,4,8192),(16,2,1,2048),(18,2,0,0)]
def sv(ns:List Int)(h:Nat×Nat×Int×Int):Bool:=decide (eV ns h.1 h.2.1<h.2.2.1)||decide (h.2.2.2<eV ns h.1 h.2.1)
def yA(ns:List Int):Option (Int×Int) :=
 if ns.length<20 then some (1,(ns.length:Int)) else if ns.take 4≠[71,76,65,49] then some (1,0) else match HN.find? (sv ns) with
  | some h=>some (2,(h.1:Int))
  | none=>if (ns.length:Int)≠20+8*eV ns 12 2+4*eV ns 14 2+12*eV ns 16 2 then some (3,20) else none
inductive yB(K:DG)(vs:List V)(H:Hp)(Q:VK)(E:XK):Prop
 | mk (a:Addr) (ns:List Int) (c0:vs=[.ref a]) (c1:SqL K H a (ns.map V.int)) (c2:Bytes ns) (c3:∀H' p,aL H H'→H p=none→H' p=some (.lst (brk (yA ns)))→Q (.ref p) H'):yB K vs H Q E
abbrev acp:Stmt:=(top 9)
theorem find_none{α:Type}{p:α→Bool}{l:List α}(h:∀(i:Nat) a,i<l.length→l[i]? = some a→p a=false):l.find? p=none:=by
 rw[Bg];intro a ha;obtain⟨i,hi,e⟩:=List.mem_iff_getElem.mp ha;rw[h i a hi (by rw[Aa hi,e])];exact Az
theorem find_some{α:Type}{p:α→Bool}{l:List α}{i:Nat}{a:α}(hi:l[i]? = some a)(ha:p a=true)(h:∀(j:Nat) b,j<i→l[j]? = some b→p b=false):l.find? p=some a:=by
 obtain⟨hl,e⟩:=List.getElem?_eq_some_iff.mp hi;rw[C5];refine⟨ha,i,hl,e,fun j hj => ?_⟩;rw[h j l[j] hj (Aa (by omega))];rfl
theorem ahR(x y:Int):decide (V.int x=V.int y)=decide (x=y):=by rw[ka];rfl
theorem ac0(D:Def K mg "judge_head" acp ["data"])(T:Txt K mg ad)(aD:Fn P w K mg base 1 "read_number" ["data","start","length"] (sI K))(i7:Fn P w K mg base 2 "told_size" ["data"] (aag K)) :
  Fn P w K mg base 3 "judge_head" ["data"] (yB K):=by
 refine D.fx ["data","place","length","least","greatest","number"] ?_;rintro nd f cdv A outer s H vs Q E hr ⟨a,ns,rfl,hS,hB,k⟩;have hu64:=hr.units;refine⟨_,(kxf (kxl (kxL T.bD (pv 0)) (kxG T.bg)) (aG (ab ao (ab (kxL T.bD (pv 0)) ak))) (kxf (gn (agy hu64) (qg pH (by rfl) T.abQ boot_tuple (ab (fE iV (pv 0) (d9 ao) (d9 ao)) ak)) (kxR T.agY) (a8 _)) (aG (ab ao (ab ao ak))) (aA (bC PassesOwn.never rfl (zZ (kxR T.nV)) (dv rfl (aJ (kxo 1 nd) (aJ (kxo 2 nd) (aJ (kxo 3 nd) (aJ (kxo 4 nd) b8))))) (kxs 5 nd (kxF aD hr (ab (pv 0) (ab (pv 1) (ab (pv 2) ak)))) (aF (di ((lC (kxl (pv 5) (pv 3)) (fW (kxg (pv 5) (pv 4))))).pt (kxr (aG (ab ao (ab (pv 1) ak)))) bb)))) (kxf (kxn (kxL T.bD (pv 0)) (kxF i7 hr (ab (pv 0) ak))) (aG (ab ao (ab (kxG T.bg) ak))) (kxr (aG ak)))))),?_⟩;unfold yA at k;have two:∀(H1:Hp) (x y:Int),aL H H1→(∀H' p,aL H H'→H p=none→H' p=some (.lst [.int x,.int y])→Q (.ref p) H')→([V.int x,V.int y].length≤sizeLine∧∀p,H1 p=none→Q (.ref p) (upd H1 p (.lst [.int x,.int y]))) :=
  fun H1 x y s1 q=>⟨by show 2≤sizeLine;decide,fun p hp=>q _ p (s1.trans (ah hp)) (s1.free hp) ag⟩
 refine⟨_,rfl,a,_,rfl,.inl hS,_,_,rfl,rfl,_,rfl,?_⟩;rw[Ab];refine bJ (fun h => ?_) (fun h => ?_)
 ·have h':ns.length<20:=by have:=Al h;omega
  rw[Ag h'] at k;refine⟨_,rfl,a,_,rfl,.inl hS,?_⟩;rw[Ab];exact two H _ _ (aL.refl H) k
 ·have h':¬ns.length<20:=fun z=>h (Ak (by omega))
  rw[Ad h'] at k;refine⟨_,rfl,_,rfl,_,rfl,a,_,rfl,hS,fun l hl => ?_⟩;have e0:kS (ns.map V.int) (some 0) (some 4)=(ns.take 4).map V.int:=by
   have:=oP (ns.map V.int) 0 4;rw[BN,Ci] at *
   exact this
  rw[e0];refine⟨l,_,rfl,.inl ⟨SqL.of ag,fun t ht => ?_⟩⟩;have s1:aL H (upd (upd H l (.lst ((ns.take 4).map V.int))) t (.tup ((ns.take 4).map V.int))):=(ah hl).trans (ah ht);refine⟨.tuple ((ns.take 4).map PyData.int),.tuple (([71,76,65,49]:List Int).map PyData.int),.tup (SqT.of ag) (sQ _),.tup (T.sign_is _) (sQ [71,76,65,49]),oC _,oC _,_,rfl,?_⟩;have e2:PyData.eqv (.tuple ((ns.take 4).map PyData.int)) (.tuple (([71,76,65,49]:List Int).map PyData.int))=decide (ns.take 4=[71,76,65,49]):=vd _ _;rw[e2];generalize upd (upd H l (.lst ((ns.take 4).map V.int))) t (.tup ((ns.take 4).map V.int))=H1 at *
  refine bJ (fun h2 => ?_) (fun h2 => ?_)
  ·have h3:ns.take 4≠[71,76,65,49]:=by simpa using h2
   rw[Ag h3] at k;exact two H1 _ _ s1 k
  ·have h3:¬ns.take 4≠[71,76,65,49]:=by simpa using h2
   rw[Ad h3] at k;obtain⟨a0,a1,a2,a3,a4,a5,hh,t0,t1,t2,t3,t4,t5⟩:=T.heads_are;have item:∀(i:Nat) (x:V),([V.ref a0,.ref a1,.ref a2,.ref a3,.ref a4,.ref a5]:List V)[i]? = some x→∃(q:Addr) (h:Nat×Nat×Int×Int),x=.ref q∧HN[i]? = some h∧nA K q [.int h.1,.int h.2.1,.int h.2.2.1,.int h.2.2.2]:=by
    intro i x hx
    match i,hx with
    | 0,hx=>exact⟨a0,_,(Ac hx).symm,rfl,t0⟩
    | 1,hx=>exact⟨a1,_,(Ac hx).symm,rfl,t1⟩
    | 2,hx=>exact⟨a2,_,(Ac hx).symm,rfl,t2⟩
    | 3,hx=>exact⟨a3,_,(Ac hx).symm,rfl,t3⟩
    | 4,hx=>exact⟨a4,_,(Ac hx).symm,rfl,t4⟩
    | 5,hx=>exact⟨a5,_,(Ac hx).symm,rfl,t5⟩
    | i+6,hx=>simp at hx
   refine⟨ad.heads,rfl,⟨_,hh _⟩,sJ (K:=K) (a:=ad.heads) (xs := [.ref a0,.ref a1,.ref a2,.ref a3,.ref a4,.ref a5])
    (fun i σ H'=>(∃v1 v2 v3 v4 v5,σ=[some (.ref a),v1,v2,v3,v4,v5])∧aL H H'∧∀(j:Nat) b,j<i→HN[j]? = some b→sv ns b=false) ⟨⟨none,none,none,none,none,rfl⟩,s1,fun j _ hj=>absurd hj (AE j)⟩ (fun i σ H' _ _=>hh H') ?_ ?_⟩
   ·rintro i x σ H' hx ⟨⟨v1,v2,v3,v4,v5,rfl⟩,s2,no⟩
    obtain⟨q,h,rfl,hi,hq⟩:=item i x hx;refine⟨q,_,rfl,hq H',rfl,_,_,rfl,_,_,rfl,_,_,rfl,_,_,rfl,rfl,?_⟩;refine⟨_,rfl,_,rfl,_,rfl,a,ns,h.1,h.2.1,rfl,s2.seq hS,hB,fun H3 s3 => ?_⟩;have st:=s2.trans s3;refine⟨_,rfl,_,rfl,_,_,rfl,rfl,_,rfl,bJ (fun z => ?_) (fun z => ?_)⟩
    ·have bad:sv ns h=true:=by unfold sv;rw[z,CG]
     rw[find_some hi bad no] at k;exact f6 ⟨_,rfl,two H3 _ _ st k⟩
    ·refine⟨_,rfl,_,rfl,_,_,rfl,rfl,_,rfl,bJ (fun y => ?_) (fun y => ?_)⟩
     ·have bad:sv ns h=true:=by unfold sv;rw[y,BJ]
      rw[find_some hi bad no] at k;exact⟨_,rfl,two H3 _ _ st k⟩
     ·refine⟨⟨_,_,_,_,_,rfl⟩,st,fun j b hj e => ?_⟩
      rcases Nat.lt_succ_iff_lt_or_eq.mp hj with u|u
      ·exact no j b u e
      ·rw[u,hi] at e
       obtain rfl:=Ac e;unfold sv;rw[AB] at z y;rw[z,y];rfl
   ·rintro σ H' ⟨⟨v1,v2,v3,v4,v5,rfl⟩,s2,no⟩
    rw[find_none (fun i b hi e=>no i b hi e)] at k;refine⟨_,rfl,a,_,rfl,.inl (s2.seq hS),?_⟩;rw[Ab];refine⟨_,rfl,a,ns,rfl,s2.seq hS,hB,fun H3 s3=>⟨rfl,_,rfl,?_⟩⟩;rw[ahR];refine bJ (fun z => ?_) (fun z => ?_)
    ·have z':(ns.length:Int)≠20+8*eV ns 12 2+4*eV ns 14 2+12*eV ns 16 2:=by simpa using z
     dsimp only at k;rw[Ag z'] at k;exact two H3 _ _ (s2.trans s3) k
    ·have z':¬(ns.length:Int)≠20+8*eV ns 12 2+4*eV ns 14 2+12*eV ns 16 2:=by simpa using z
     dsimp only at k;rw[Ad z'] at k;refine⟨Av _,fun p hp=>k _ p ((s2.trans s3).trans (ah hp)) ((s2.trans s3).free hp) ag⟩
end
open Gla (Plan Pt Mark)
section
variable {P:Program}{w:World}{K:DG}{mg:DH}{base:Heap}{ad:Adr}
def uQ:List V→List (Str×V)
 | [a,b,c,d,e]=>[("width",a),("height",b),("points",c),("lines",d),("marks",e)]
 | _=>[]
abbrev xl:Stmt:=(inClass (top 7) 0)
theorem acT:bG ["self","width","height","points","lines","marks"] ["self","width","height","points","lines","marks"] (aE xl):=fsc
theorem ac3(D:mf K mg "Drawing" "Drawing.__init__" ad.drawing xl ["self","width","height","points","lines","marks"] ["width","height","points","lines","marks"]):Kl P w K mg base 1 "Drawing" ad.drawing 5 uQ:=by
 have nd:=acT.nd;refine D.kl (n:=5) acT rfl (fun f cdv A outer s H p dx us Q E hr hl hp k => ?_);obtain⟨v1,v2,v3,v4,v5,rfl⟩:=us5 hl;refine⟨_,(aA (bq (pv 0) (pv 1) rfl) (aA (bq (pv 0) (pv 2) rfl) (aA (bq (pv 0) (pv 3) rfl) (aA (bq (pv 0) (pv 4) rfl) (aF (bq (pv 0) (pv 5) rfl)))))),?_⟩;refine⟨_,rfl,_,rfl,p,_,dx,_,rfl,hp,D.cl,D.no _ (by decide +kernel),A1 rfl,?_⟩
 iterate 4 (refine⟨_,rfl,_,rfl,p,_,dx,_,rfl,ag,D.cl,D.no _ (by decide +kernel),A1 rfl,?_⟩;rw[bQ])
 exact k
def sZ(p:Pt):List Int := [(p.x:Int),(p.y:Int)]
def aby(l:Nat×Nat):List Int := [(l.1:Int),(l.2:Int)]
def abE(m:Mark):List Int := [(m.at_.x:Int),(m.at_.y:Int),(m.glass:Int)]
def fsD(S:Plan)(lp ll lm:Addr):List (Str×V) := [("width",.int S.w),("height",.int S.h),("points",.ref lp),("lines",.ref ll),("marks",.ref lm)]
structure b0(ad:Adr)(H:Hp)(d:Addr)(S:Plan)(dx lp ll lm:Addr):Prop where
 ob:H d=some (.ins ad.drawing dx (fsD S lp ll lm))
 pts:Rows H lp (S.pts.map sZ)
 lns:Rows H ll (S.lines.map aby)
 mks:Rows H lm (S.marks.map abE)
theorem b0.same{H H':Hp}{d dx lp ll lm:Addr}{S:Plan}(h:b0 ad H d S dx lp ll lm)(s:aL H H'):b0 ad H' d S dx lp ll lm:=⟨s _ _ h.ob,h.pts.same s,h.lns.same s,h.mks.same s⟩
theorem ae7{S:Plan}{a b c:Addr}:(fsD S a b c).lookup ("width" : Str)=some (.int S.w):=by unfold fsD;rfl
theorem afZ{S:Plan}{a b c:Addr}:(fsD S a b c).lookup ("height" : Str)=some (.int S.h):=by unfold fsD;rfl
theorem qa{S:Plan}{a b c:Addr}:(fsD S a b c).lookup ("points" : Str)=some (.ref a):=by unfold fsD;rfl
theorem aaW{S:Plan}{a b c:Addr}:(fsD S a b c).lookup ("lines" : Str)=some (.ref b):=by unfold fsD;rfl
theorem agZ{S:Plan}{a b c:Addr}:(fsD S a b c).lookup ("marks" : Str)=some (.ref c):=by unfold fsD;rfl
theorem c8(z:Int):wD 8 z:=.inl ⟨by decide,by decide⟩
theorem c4(z:Int):wD 4 z:=.inl ⟨by decide,by decide⟩
theorem c12(z:Int):wD 12 z:=.inl ⟨by decide,by decide⟩
inductive acr(vs:List V)(H:Hp)(Q:VK)(E:XK):Prop
 | mk (d:Addr) (k:Int) (c0:vs=[.ref d,.int k]) (c1:Q (.int (20+8*k)) H):acr vs H Q E
abbrev aiz:Stmt:=(inClass (top 7) 1)
theorem ahO(D:vN K ad.drawing "point_place" "Drawing.point_place" aiz ["self","k"])(T:Txt K mg ad):Me P w K mg base 1 ad.drawing "point_place" ["self","k"] acr:=by
 refine D.fx T.draw.cl ["self","k"] ?_;rintro nd f cdv A outer s H vs Q E hr ⟨d,k,rfl,q⟩;exact⟨_,(kxr (aP aT (kxG T.bg) (aP dr (kxG T.bL) (pv 1)))),_,rfl,_,_,rfl,rfl,c8 _,_,_,rfl,rfl,q⟩
inductive aeO(ad:Adr)(vs:List V)(H:Hp)(Q:VK)(E:XK):Prop
 | mk (d dx lp ll lm:Addr) (S:Plan) (k:Int) (c0:vs=[.ref d,.int k]) (c1:b0 ad H d S dx lp ll lm) (c2:Q (.int (20+8*(S.pts.length:Int)+4*k)) H):aeO ad vs H Q E
abbrev aiL:Stmt:=(inClass (top 7) 2)
theorem ahU(D:vN K ad.drawing "line_place" "Drawing.line_place" aiL ["self","k"])(T:Txt K mg ad)(aK:Me P w K mg base 1 ad.drawing "point_place" ["self","k"] acr) :
  Me P w K mg base 2 ad.drawing "line_place" ["self","k"] (aeO ad):=by
 refine D.fx T.draw.cl ["self","k"] ?_;rintro nd f cdv A outer s H vs Q E hr ⟨d,dx,lp,ll,lm,S,k,rfl,hd,q⟩;obtain⟨xs,hx,hl,_⟩:=hd.pts.get;refine⟨_,(kxr (aP aT (jr (pv 0) aK (hr.mono (by decide)) (ab (kxL T.bD (ay (pv 0) rfl)) ak)) (aP dr (kxG T.bW) (pv 1)))),?_⟩;refine⟨_,rfl,d,dx,_,rfl,hd.ob,rfl,xO rfl hd.ob T.draw qa ⟨lp,xs,rfl,.inl (SqL.of hx),d,_,rfl,_,rfl,_,_,rfl,rfl,c4 _,_,_,rfl,rfl,?_⟩⟩;rw[hl,Ab];exact q
inductive aeS(ad:Adr)(vs:List V)(H:Hp)(Q:VK)(E:XK):Prop
 | mk (d dx lp ll lm:Addr) (S:Plan) (k:Int) (c0:vs=[.ref d,.int k]) (c1:b0 ad H d S dx lp ll lm) (c2:Q (.int (20+8*(S.pts.length:Int)+4*(S.lines.length:Int)+12*k)) H):aeS ad vs H Q E
abbrev aiq:Stmt:=(inClass (top 7) 3)
theorem ahg(D:vN K ad.drawing "mark_place" "Drawing.mark_place" aiq ["self","k"])(T:Txt K mg ad)(bj:Me P w K mg base 2 ad.drawing "line_place" ["self","k"] (aeO ad)) :
  Me P w K mg base 3 ad.drawing "mark_place" ["self","k"] (aeS ad):=by
 refine D.fx T.draw.cl ["self","k"] ?_;rintro nd f cdv A outer s H vs Q E hr ⟨d,dx,lp,ll,lm,S,k,rfl,hd,q⟩;obtain⟨xs,hx,hl,_⟩:=hd.lns.get;refine⟨_,(kxr (aP aT (jr (pv 0) bj (hr.mono (by decide)) (ab (kxL T.bD (ay (pv 0) rfl)) ak)) (aP dr (kxG T.cq) (pv 1)))),?_⟩;refine⟨_,rfl,d,dx,_,rfl,hd.ob,rfl,xO rfl hd.ob T.draw aaW ⟨ll,xs,rfl,.inl (SqL.of hx),d,dx,lp,ll,lm,S,_,rfl,hd,_,rfl,_,_,rfl,rfl,c12 _,_,_,rfl,rfl,?_⟩⟩;rw[hl,Ab];exact q
inductive ah1(ad:Adr)(vs:List V)(H:Hp)(Q:VK)(E:XK):Prop
 | mk (d dx lp ll lm:Addr) (S:Plan) (c0:vs=[.ref d]) (c1:b0 ad H d S dx lp ll lm) (c2:Q (.int (20+8*(S.pts.length:Int)+4*(S.lines.length:Int)+12*(S.marks.length:Int))) H):ah1 ad vs H Q E
abbrev aiI:Stmt:=(inClass (top 7) 4)
theorem ahy(D:vN K ad.drawing "byte_count" "Drawing.byte_count" aiI ["self"])(T:Txt K mg ad)(bo:Me P w K mg base 3 ad.drawing "mark_place" ["self","k"] (aeS ad)) :
  Me P w K mg base 4 ad.drawing "byte_count" ["self"] (ah1 ad):=by
 refine D.fx T.draw.cl ["self"] ?_;rintro nd f cdv A outer s H vs Q E hr ⟨d,dx,lp,ll,lm,S,rfl,hd,q⟩;obtain⟨xs,hx,hl,_⟩:=hd.mks.get;refine⟨_,(kxr (jr (pv 0) bo (hr.mono (by decide)) (ab (kxL T.bD (ay (pv 0) rfl)) ak))),?_⟩;refine⟨_,rfl,d,dx,_,rfl,hd.ob,rfl,xO rfl hd.ob T.draw agZ ⟨lm,xs,rfl,.inl (SqL.of hx),d,dx,lp,ll,lm,S,_,rfl,hd,?_⟩⟩;rw[hl,Ab];exact q
inductive zT(K:DG)(ad:Adr)(vs:List V)(H:Hp)(Q:VK)(E:XK):Prop
 | mk (a:Addr) (b:List UInt8) (c0:vs=[.ref a]) (c1:SqL K H a ((bz b).map V.int)) (c2:b.length=20+8*Gla.num b 12 2+4*Gla.num b 14 2+12*Gla.num b 16 2) (c3:∀H' d dx lp ll lm,aL H H'→b0 ad H' d (Gla.parts b) dx lp ll lm→Q (.ref d) H'):zT K ad vs H Q E
abbrev aco:Stmt:=(top 11)
def rowsOf(g:Nat→List Int)(i:Nat):List (List Int):=(List.range i).map g
theorem iW(g:Nat→List Int)(i:Nat):rowsOf g (i+1)=rowsOf g i++[g i]:=by
 unfold rowsOf;rw[Bj,As];rfl
theorem j8(g:Nat→List Int)(i:Nat):(rowsOf g i).length=i:=by
 unfold rowsOf;rw[Ab,Au]
theorem aZ{n:Nat}(h:n<65536):n<sizeLine:=by
 have:(65536:Nat)<sizeLine:=by decide
 omega
theorem ads(D:Def K mg "read_drawing" aco ["data"])(T:Txt K mg ad)(aD:Fn P w K mg base 1 "read_number" ["data","start","length"] (sI K))(fI:Fn P w K mg base 2 "read_pair" ["data","start","length"] (zR K))
  (i8:Fn P w K mg base 2 "read_mark" ["data","start"] (zB K)) (mT:Kl P w K mg base 1 "Drawing" ad.drawing 5 uQ):Fn P w K mg base 3 "read_drawing" ["data"] (zT K ad):=by
 refine D.fx ["data","lines_start","marks_start","k","points","lines","marks"] ?_;rintro nd f cdv A outer s H vs Q E hr ⟨a,b,rfl,hS,hlen,k⟩;refine⟨_,(kxs 1 nd (aP aT (kxG T.bg) (aP dr (kxG T.bL) (kxF aD hr (ab (pv 0) (ab ao (ab ao ak)))))) (kxs 2 nd (aP aT (pv 1) (aP dr (kxG T.bW) (kxF aD hr (ab (pv 0) (ab ao (ab ao ak)))))) (aA (dD (i:=4) rfl nd rfl rfl rfl (js (by rfl) T.fH (ab (kxG T.bg) (ab (pv 1) (ab (kxG T.bL) ak)))) (ff (own := [("k",3)]) rfl) (fun _ _ _ _ _=>(kxo 3 nd)) (fun _ _ _ _ _=>dh) (fun _ _ _ _ _=>(kxF fI hr (ab (pv 0) (ab (pv 3) (ab ao ak)))))) (aA (dD (i:=5) rfl nd rfl rfl rfl (js (by rfl) T.fH (ab (pv 1) (ab (pv 2) (ab (kxG T.bW) ak)))) (ff (own := [("k",3)]) rfl) (fun _ _ _ _ _=>(kxo 3 nd)) (fun _ _ _ _ _=>dh) (fun _ _ _ _ _=>(kxF fI hr (ab (pv 0) (ab (pv 3) (ab ao ak)))))) (aA (dD (i:=6) rfl nd rfl rfl rfl (js (by rfl) T.fH (ab (pv 2) (ab (kxL T.bD (pv 0)) (ab (kxG T.cq) ak)))) (ff (own := [("k",3)]) rfl) (fun _ _ _ _ _=>(kxo 3 nd)) (fun _ _ _ _ _=>dh) (fun _ _ _ _ _=>(kxF i8 hr (ab (pv 0) (ab (pv 3) ak))))) (kxr (kxK mT hr (ab (kxF aD hr (ab (pv 0) (ab ao (ab ao ak)))) (ab (kxF aD hr (ab (pv 0) (ab ao (ab ao ak)))) (ab (pv 4) (ab (pv 5) (ab (pv 6) ak)))))))))))),?_⟩;have nP:=iJ b 12;have nL:=iJ b 14;have nM:=iJ b 16;refine⟨_,rfl,a,bz b,12,2,rfl,hS,l6 b,fun H1 s1=>⟨_,_,rfl,rfl,c8 _,_,_,rfl,rfl,?_⟩⟩;refine⟨_,rfl,_,rfl,a,bz b,14,2,rfl,s1.seq hS,l6 b,fun H2 s2=>⟨_,_,rfl,rfl,c4 _,_,_,rfl,rfl,?_⟩⟩;have sA:=s1.trans s2;rw[iT,iT];generalize hP:Gla.num b 12 2=NP at *
 generalize hL:Gla.num b 14 2=NL at *
 generalize hM:Gla.num b 16 2=NM at *
 refine⟨_,rfl,_,_,_,NP,rfl,rgc (.inr (.inl rfl)) (by decide) (by omega),fun Dp hDp => ?_⟩;refine kq (J:=Itc _ _ NP) Dp NP (fun i H'=>aL H2 H'∧Rows H' Dp (rowsOf (fun j=>[eV (bz b) (20+8*j) 4,eV (bz b) (20+8*j+4) 4]) i)) ⟨ah hDp,.nil ag⟩ (fun i H' hi _=>hi) ?_ ?_
 ·rintro i x H' H'' hi ⟨sB,R⟩ ⟨rfl,rfl⟩
  refine⟨rfl,lA ?_⟩;refine⟨_,rfl,_,rfl,a,bz b,20+8*i,4,?_,(sA.trans sB).seq hS,l6 b,fun H3 p s3 hp => ?_⟩
  ·have:(20:Int)+(i:Int)*8=((20+8*i:Nat):Int):=by omega
   rw[this];rfl
  ·have R3:=R.same s3
   obtain⟨acc,ha,hal⟩:=R3.lst;refine⟨acc,ha,aZ (by rw[hal,j8];omega),aH (sB.trans s3) hDp,?_⟩;rw[iW];exact R3.snoc ha hp
 ·rintro H3 ⟨sB,RP⟩
  refine⟨Ae _,?_⟩;have sC:=sA.trans sB;refine⟨_,rfl,_,rfl,_,_,_,NL,rfl,rgc (.inl rfl) (by omega) (by omega),fun Dl hDl => ?_⟩;refine kq (J:=Itc _ _ NL) Dl NL (fun i H'=>aL H3 H'∧Rows H' Dl (rowsOf (fun j=>[eV (bz b) (20+8*NP+4*j) 2,eV (bz b) (20+8*NP+4*j+2) 2]) i)) ⟨ah hDl,.nil ag⟩ (fun i H' hi _=>hi) ?_ ?_
  ·rintro i x H' H'' hi ⟨sD,R⟩ ⟨rfl,rfl⟩
   refine⟨rfl,lA ?_⟩;refine⟨_,rfl,_,rfl,a,bz b,20+8*NP+4*i,2,?_,(sC.trans sD).seq hS,l6 b,fun H4 p s4 hp => ?_⟩
   ·have:(20:Int)+8*(NP:Int)+(i:Int)*4=((20+8*NP+4*i:Nat):Int):=by omega
    rw[this];rfl
   ·have R3:=R.same s4
    obtain⟨acc,ha,hal⟩:=R3.lst;refine⟨acc,ha,aZ (by rw[hal,j8];omega),aH (sD.trans s4) hDl,?_⟩;rw[iW];exact R3.snoc ha hp
  ·rintro H4 ⟨sD,RL⟩
   refine⟨Ae _,?_⟩;have sE:=sC.trans sD;refine⟨_,rfl,_,rfl,a,_,rfl,.inl (sE.seq hS),_,_,_,NM,rfl,?_,fun Dm hDm => ?_⟩
   ·have:(((bz b).map V.int).length:Int)=20+8*(NP:Int)+4*(NL:Int)+12*(NM:Int):=by
     rw[Ab];unfold bz;rw[Ab];omega
    rw[this];exact rgc (.inr (.inr rfl)) (by omega) (by omega)
   refine kq (J:=Itc _ _ NM) Dm NM (fun i H'=>aL H4 H'∧Rows H' Dm (rowsOf (fun j=>[eV (bz b) (20+8*NP+4*NL+12*j) 4,eV (bz b) (20+8*NP+4*NL+12*j+4) 4,eV (bz b) (20+8*NP+4*NL+12*j+8) 2]) i)) ⟨ah hDm,.nil ag⟩ (fun i H' hi _=>hi) ?_ ?_
   ·rintro i x H' H'' hi ⟨sF,R⟩ ⟨rfl,rfl⟩
    refine⟨rfl,lA ?_⟩;refine⟨_,rfl,_,rfl,a,bz b,20+8*NP+4*NL+12*i,?_,(sE.trans sF).seq hS,l6 b,fun H5 p s5 hp => ?_⟩
    ·have:(20:Int)+8*(NP:Int)+4*(NL:Int)+(i:Int)*12=((20+8*NP+4*NL+12*i:Nat):Int):=by omega
     rw[this];rfl
    ·have R3:=R.same s5
     obtain⟨acc,ha,hal⟩:=R3.lst;refine⟨acc,ha,aZ (by rw[hal,j8];omega),aH (sF.trans s5) hDm,?_⟩;rw[iW];exact R3.snoc ha hp
   ·rintro H5 ⟨sF,RM⟩
    refine⟨Ae _,?_⟩;have sG:=sE.trans sF;refine⟨_,rfl,a,bz b,4,4,rfl,sG.seq hS,l6 b,fun H6 s6 => ?_⟩;refine⟨_,rfl,a,bz b,8,4,rfl,(sG.trans s6).seq hS,l6 b,fun H7 s7 => ?_⟩;refine⟨_,rfl,_,rfl,_,rfl,ro rfl fun d dx n1 n2 ne => ?_⟩;have s8:aL H7 (upd (upd H7 dx (.own d)) d (.ins ad.drawing dx (uQ [.int (eV (bz b) 4 4),.int (eV (bz b) 8 4),.ref Dp,.ref Dl,.ref Dm]))) :=
     aH (ah n2) n1
    have s9:aL H5 (upd (upd H7 dx (.own d)) d (.ins ad.drawing dx (uQ [.int (eV (bz b) 4 4),.int (eV (bz b) 8 4),.ref Dp,.ref Dl,.ref Dm]))):=(s6.trans s7).trans s8;refine k _ d dx Dp Dl Dm ((sG.trans (s6.trans s7)).trans s8) ⟨?_,?_,?_,?_⟩
    ·rw[ag,iT,iT]
     rfl
    ·have e:(Gla.parts b).pts.map sZ=rowsOf (fun j=>[eV (bz b) (20+8*j) 4,eV (bz b) (20+8*j+4) 4]) NP:=by
      unfold Gla.parts rowsOf;dsimp only;rw[hP,AX];refine Ce fun j _ => ?_;rw[iT,iT];rfl
     rw[e];exact RP.same ((sD.trans sF).trans s9)
    ·have e:(Gla.parts b).lines.map aby=rowsOf (fun j=>[eV (bz b) (20+8*NP+4*j) 2,eV (bz b) (20+8*NP+4*j+2) 2]) NL:=by
      unfold Gla.parts rowsOf;dsimp only;rw[hP,hL,AX];refine Ce fun j _ => ?_;rw[iT,iT];rfl
     rw[e];exact RL.same (sF.trans s9)
    ·have e:(Gla.parts b).marks.map abE=rowsOf (fun j=>[eV (bz b) (20+8*NP+4*NL+12*j) 4,eV (bz b) (20+8*NP+4*NL+12*j+4) 4,eV (bz b) (20+8*NP+4*NL+12*j+8) 2]) NM:=by
      unfold Gla.parts rowsOf;dsimp only;rw[hP,hL,hM,AX];refine Ce fun j _ => ?_;rw[iT,iT,iT];rfl
     rw[e];exact RM.same s9
end
theorem aaA{K:DG}{σ:L2.St}{H:Hp}{Q:VK}{i j m:Nat}{a:Addr}{xs:List V}{v:V}(h1:σ[i]? = some (some (.ref a)))(h2:σ[j]? = some (some (.int (m:Int))))(h3:H a=some (.lst xs))(h5:xs[m]? = some v)(h:Q v H) :
  tOp (af5 K) (acB i) (acB j) σ H Q:=⟨_,h1,_,h2,_,_,_,_,rfl,rfl,SqL.of h3,aM h5,h⟩
structure PL(H:Hp)(a:Addr)(pts:List Pt)(xs:List V):Prop where
 lst:H a=some (.lst xs)
 len:xs.length=pts.length
 at_:∀i,i<pts.length→∃p,xs[i]? = some (.ref p)∧H p=some (.tup [.int ((pts.getD i ⟨0,0⟩).x:Int),.int ((pts.getD i ⟨0,0⟩).y:Int)])
theorem Rows.pts{H:Hp}{a:Addr}{pts:List Pt}(h:Rows H a (pts.map sZ)):∃xs,PL H a pts xs:=by
 obtain⟨xs,h1,h2,h3⟩:=h.get;refine⟨xs,h1,by rw[h2,Ab],fun i hi => ?_⟩;obtain⟨p,e1,e2⟩:=h3 i (sZ (pts.getD i ⟨0,0⟩)) (by rw[Am,Aj,Aa hi];rfl);exact⟨p,e1,e2⟩
def SmP(pts:List Pt):Prop:=∀p∈pts,p.x<4294967296∧p.y<4294967296
theorem SmP.at_{pts:List Pt}(h:SmP pts)(i:Nat):Sm ((pts.getD i ⟨0,0⟩).x:Int)∧Sm ((pts.getD i ⟨0,0⟩).y:Int):=by
 unfold Sm;rw[Aj];cases e:pts[i]? with
 | none=>exact⟨⟨by decide,by decide⟩,by decide,by decide⟩
 | some p =>
  have:=h p (A4 e);simp only[Ds];omega
def tnI(pts:List Pt)(i j k:Nat):Int:=Gla.turn (pts.getD i ⟨0,0⟩) (pts.getD j ⟨0,0⟩) (pts.getD k ⟨0,0⟩)
theorem lR{K:DG}{H:Hp}{pts:List Pt}{i j k:Nat}{p q r:Addr}{Q:VK}(sm:SmP pts)(hp:H p=some (.tup [.int ((pts.getD i ⟨0,0⟩).x:Int),.int ((pts.getD i ⟨0,0⟩).y:Int)]))
  (hq:H q=some (.tup [.int ((pts.getD j ⟨0,0⟩).x:Int),.int ((pts.getD j ⟨0,0⟩).y:Int)])) (hr:H r=some (.tup [.int ((pts.getD k ⟨0,0⟩).x:Int),.int ((pts.getD k ⟨0,0⟩).y:Int)])) (h:Q (.int (tnI pts i j k)) H) :
  lS K [.ref p,.ref q,.ref r] H Q E0 :=
 ⟨p,q,r,_,_,_,_,_,_,rfl,.of2 hp,.of2 hq,.of2 hr,(sm.at_ i).1,(sm.at_ i).2,(sm.at_ j).1,(sm.at_ j).2,h⟩
section
variable {P:Program}{w:World}{K:DG}{mg:DH}{base:Heap}{ad:Adr}
def lE(pts:List Pt)(h t o b:Nat):Bool :=
 if (decide (0<tnI pts h t o))≠(decide (0<tnI pts h t b)) then decide (0<tnI pts h t o) else decide (0<tnI pts o t b)
inductive wZ(vs:List V)(H:Hp)(Q:VK)(E:XK):Prop
 | mk (a:Addr) (pts:List Pt) (xs:List V) (h t o b:Nat) (c0:vs=[.ref a,.int h,.int t,.int o,.int b]) (c1:PL H a pts xs) (c2:SmP pts) (c3:h<pts.length) (c4:t<pts.length) (c5:o<pts.length) (c6:b<pts.length) (c7:Q (.bl (lE pts h t o b)) H):wZ vs H Q E
abbrev acK:Stmt:=(top 23)
theorem aiK(x y:Bool):decide (V.bl x=V.bl y)=decide (x=y):=by rw[xI];cases x <;> cases y <;> rfl
theorem ad3(D:Def K mg "is_more_left" acK ["points","here","there","other","best"])(dw:Fn P w K mg base 1 "turn" ["p","q","r"] (lS K)):Fn P w K mg base 2 "is_more_left" ["points","here","there","other","best"] wZ:=by
 refine D.fx ["points","here","there","other","best","other_is_left","best_is_left"] ?_;rintro nd f cdv A outer s H vs Q E hr ⟨a,pts,xs,h,t,o,b,rfl,pl,sm,hh,ht,ho,hb,k⟩;obtain⟨ph,eh,qh⟩:=pl.at_ h hh;obtain⟨pt,et,qt⟩:=pl.at_ t ht;obtain⟨po,eo,qo⟩:=pl.at_ o ho;obtain⟨pb,eb,qb⟩:=pl.at_ b hb;refine⟨_,(kxs 5 nd (aX lD (kxF dw hr (ab (kxI (pv 0) (pv 1)) (ab (kxI (pv 0) (pv 2)) (ab (kxI (pv 0) (pv 3)) ak)))) ao (a8 _)) (kxs 6 nd (aX lD (kxF dw hr (ab (kxI (pv 0) (pv 1)) (ab (kxI (pv 0) (pv 2)) (ab (kxI (pv 0) (pv 4)) ak)))) ao (a8 _)) (kxf (kxn (pv 5) (pv 6)) (pv 5) (kxr (aX lD (kxF dw hr (ab (kxI (pv 0) (pv 3)) (ab (kxI (pv 0) (pv 2)) (ab (kxI (pv 0) (pv 4)) ak)))) ao (a8 _)))))),?_⟩;refine aaA rfl rfl pl.lst eh (aaA rfl rfl pl.lst et (aaA rfl rfl pl.lst eo (tf <| lR sm qh qt qo ⟨_,_,rfl,rfl,?_⟩)));refine aaA rfl rfl pl.lst eh (aaA rfl rfl pl.lst et (aaA rfl rfl pl.lst eb (tf <| lR sm qh qt qb ⟨_,_,rfl,rfl,?_⟩)));refine⟨_,rfl,_,rfl,rfl,_,rfl,?_⟩;rw[aiK];unfold lE at k;refine bJ (fun z => ?_) (fun z => ?_)
 ·rw[Ag (by simpa using z)] at k
  exact⟨_,rfl,k⟩
 ·rw[Ad (by simpa using z)] at k
  exact aaA rfl rfl pl.lst eo (aaA rfl rfl pl.lst et (aaA rfl rfl pl.lst eb (tf <| lR sm qo qt qb ⟨_,_,rfl,rfl,k⟩)))
def kP(pts:List Pt)(h t:Nat)(best:Option Nat)(o:Nat):Option Nat :=
 if o=h then best else match best with
  | none=>some o
  | some b=>if lE pts h t o b=true then some o else some b
def aaD:Option Nat→V
 | none=>.non
 | some n=>.int (n:Int)
def eX(n:Nat):V:=.int (n:Int)
def aeE(pts:List Pt)(os:List Nat)(h t:Nat):Option Nat:=os.foldl (kP pts h t) none
theorem ab6(pts:List Pt)(h t:Nat):∀(os:List Nat) (b:Option Nat) (c:Nat),os.foldl (kP pts h t) b=some c→b=some c∨c∈os
 | [],b,c,e=>.inl e
 | o::r,b,c,e=>by
  rcases ab6 pts h t r _ c e with z|z
  ·unfold kP at z
   by_cases q:o=h
   ·rw[Ag q] at z;exact .inl z
   ·rw[Ad q] at z
    cases b with
    | none=>injection z with z;exact .inr (z▸Ah ..)
    | some b =>
     dsimp only at z
     by_cases y:lE pts h t o b=true
     ·rw[Ag y] at z;injection z with z;exact .inr (z▸Ah ..)
     ·rw[Ad y] at z;exact .inl z
  ·exact .inr (Af _ z)
inductive ahQ(vs:List V)(H:Hp)(Q:VK)(E:XK):Prop
 | mk (a l:Addr) (pts:List Pt) (xs:List V) (os:List Nat) (h t:Nat) (c0:vs=[.ref a,.ref l,.int h,.int t]) (c1:PL H a pts xs) (c2:SmP pts) (c3:H l=some (.lst (os.map eX))) (c4:h<pts.length) (c5:t<pts.length) (c6:(∀o∈os,o<pts.length)) (c7:Q (aaD (aeE pts os h t)) H):ahQ vs H Q E
abbrev ain:Stmt:=(top 22)
theorem take_snoc{α:Type}{l:List α}{i:Nat}{x:α}(h:l[i]? = some x):l.take (i+1)=l.take i++[x]:=by
 obtain⟨hi,e⟩:=List.getElem?_eq_some_iff.mp h;rw[List.take_succ,h];rfl
theorem aid(x y:Nat):decide (V.int (x:Int)=V.int (y:Int))=decide (x=y):=by
 rw[ahR]
 by_cases h:x=y
 ·subst h;simp
 ·rw[Ax h,Ax (by omega)]
theorem mh{os:List Nat}{i:Nat}{x:V}(h:(os.map eX)[i]? = some x):∃o,os[i]? = some o∧x=.int (o:Int):=by
 rw[Am] at h;cases e:os[i]? with
 | none=>rw[e] at h;cases h
 | some o=>rw[e] at h;exact⟨o,rfl,(Ac h).symm⟩
theorem ahi(D:Def K mg "leftmost" ain ["points","others","here","there"])(eC:Fn P w K mg base 2 "is_more_left" ["points","here","there","other","best"] wZ):Fn P w K mg base 3 "leftmost" ["points","others","here","there"] ahQ:=by
 refine D.fx ["points","others","here","there","best","other"] ?_;rintro nd f cdv A outer s H vs Q E hr ⟨a,l,pts,xs,os,h,t,rfl,pl,sm,hl,hh,ht,ho,k⟩;refine⟨_,(kxs 4 nd fT (aA (bC PassesOwn.never rfl (bU (pv 1)) (kxo 5 nd) (aF (di ((jH (kxn (pv 5) (pv 2)) (fA ((lC (ig (afh (pv 4))) (fW (aS (kxF eC hr (ab (pv 0) (ab (pv 2) (ab (pv 3) (ab (pv 5) (ab (pv 4) ak)))))) (fun _=>rfl))))).pt))).pt (aF (lV (i:=4) nd rfl (Or.inl rfl) (pv 5))) bb))) (kxr (pv 4)))),?_⟩;refine⟨_,rfl,l,rfl,⟨_,SqL.of hl⟩,dE (K:=K) (a:=l) (xs:=os.map eX) (fun i σ H'=>(∃v,σ=[some (.ref a),some (.ref l),some (.int h),some (.int t),some (aaD (aeE pts (os.take i) h t)),v])∧H'=H)
  ⟨⟨none,rfl⟩,rfl⟩ (fun i σ H' _ ⟨_,e⟩=>by rw[e];exact SqL.of hl) ?_ ?_⟩
 ·rintro i x σ H' hx ⟨⟨v,rfl⟩,rfl⟩
  obtain⟨o,eo,rfl⟩:=mh hx;have om:=ho o (A4 eo);have nxt:∀b,kP pts h t (aeE pts (os.take i) h t) o=b→aeE pts (os.take (i+1)) h t=b:=by
   intro b e;unfold aeE at *
   rw[take_snoc eo,BY];exact e
  refine⟨_,rfl,_,rfl,rfl,_,rfl,?_⟩;rw[aid];refine bJ (fun z => ?_) (fun z => ?_)
  ·have z':¬o=h:=by simpa using z
   cases eb:aeE pts (os.take i) h t with
   | none =>
    rw[eb] at nxt;refine⟨_,rfl,_,rfl,f6 (f6 ⟨_,rfl,⟨some (V.int (o:Int)),?_⟩,rfl⟩)⟩;rw[nxt (some o) (by unfold kP;rw[Ad z'])];rfl
   | some b =>
    rw[eb] at nxt;have bm:b<pts.length:=by
     rcases ab6 pts h t _ _ b eb with y|y
     ·cases y
     ·exact ho b (C9 y)
    refine⟨_,rfl,_,rfl,fS ⟨_,rfl,_,rfl,_,rfl,_,rfl,_,rfl,a,pts,xs,h,t,o,b,rfl,pl,sm,hh,ht,om,bm,_,rfl,bJ (fun y => ?_) (fun y => ?_)⟩⟩
    ·refine⟨_,rfl,⟨some (V.int (o:Int)),?_⟩,rfl⟩
     rw[nxt (some o) (by unfold kP;rw[Ad z'];dsimp only;rw[Ag y])];rfl
    ·refine⟨⟨some (V.int (o:Int)),?_⟩,rfl⟩
     rw[nxt (some b) (by unfold kP;rw[Ad z'];dsimp only;rw[Ad y])];rfl
  ·have z':o=h:=by simpa using z
   refine fS ⟨⟨some (V.int (o:Int)),?_⟩,rfl⟩;rw[nxt _ (by unfold kP;rw[Ag z'])];rfl
 ·rintro σ H' ⟨⟨v,rfl⟩,rfl⟩
  rw[Ab,Bm];exact⟨_,rfl,k⟩
inductive tS(K:DG)(vs:List V)(H:Hp)(Q:VK)(E:XK):Prop
 | mk (c a b:Addr) (rx ry px py qx qy:Int) (c0:vs=[.ref c,.ref a,.ref b]) (c1:vi K H c rx ry) (c2:vi K H a px py) (c3:vi K H b qx qy) (c4:Sm px) (c5:Sm py) (c6:Sm qx) (c7:Sm qy) (c8:Q (.bl (if py<qy then decide (0<nG px py qx qy rx ry) else decide (nG px py qx qy rx ry<0))) H):tS K vs H Q E
abbrev xt:Stmt:=(top 27)
theorem abp(D:Def K mg "is_right_of" xt ["mark","p","q"])(dw:Fn P w K mg base 1 "turn" ["p","q","r"] (lS K)):Fn P w K mg base 2 "is_right_of" ["mark","p","q"] (tS K):=by
 refine D.fx ["mark","p","q"] ?_;rintro nd f cdv A outer s H vs Q E hr ⟨c,a,b,rx,ry,px,py,qx,qy,rfl,hc,ha,hb,s1,s2,s3,s4,k⟩;obtain⟨xs,hp,p0,p1⟩:=id ha;obtain⟨ys,hq,q0,q1⟩:=id hb;refine⟨_,(kxf (kxg (kxT (pv 2) ao) (kxT (pv 1) ao)) (aX lD (kxF dw hr (ab (pv 1) (ab (pv 2) (ab (pv 0) ak)))) ao (a8 _)) (kxr (aX vH (kxF dw hr (ab (pv 1) (ab (pv 2) (ab (pv 0) ak)))) ao (a8 _)))),?_⟩;refine dG rfl hq q1 (dG rfl hp p1 ⟨_,_,rfl,rfl,_,rfl,bJ (fun z => ?_) (fun z => ?_)⟩)
 ·rw[Ag (Al z)] at k
  exact⟨_,rfl,_,rfl,_,rfl,a,b,c,px,py,qx,qy,rx,ry,rfl,ha,hb,hc,s1,s2,s3,s4,_,_,rfl,rfl,k⟩
 ·rw[Ad (fun y=>z (Ak y))] at k
  exact⟨_,rfl,_,rfl,_,rfl,a,b,c,px,py,qx,qy,rx,ry,rfl,ha,hb,hc,s1,s2,s3,s4,_,_,rfl,rfl,k⟩
end
def aeM(H:Hp)(b:Addr)(i j:Nat):Prop:=H b=some (.tup [.int (i:Int),.int (j:Int)])
theorem acy{K:DG}{σ:L2.St}{H:Hp}{Q:VK}{i j m c:Nat}{a b:Addr}{xs ys:List V}{v:V}{n:Int}(h1:σ[i]? = some (some (.ref a)))(h2:σ[j]? = some (some (.ref b)))(h3:H a=some (.lst xs))(h4:H b=some (.tup ys))(h5:ys[c]? = some (.int (m:Int)))
  (h6:xs[m]? = some v) (h:Q v H) (e:n=(c:Int):=by rfl):tOp (af5 K) (acB i) (tOp (agD K) (acB j) (tC (.int n))) σ H Q :=
 ⟨_,h1,_,h2,_,_,_,_,rfl,rfl,SqT.of h4,by rw[e];exact aM h5,_,_,_,_,rfl,rfl,SqL.of h3,aM h6,h⟩
section
variable {P:Program}{w:World}{K:DG}{mg:DH}{base:Heap}{ad:Adr}
def qL(pts:List Pt)(i j k l:Nat):Bool:=(decide (tnI pts i j k<0)&&decide (0<tnI pts i j l))||(decide (0<tnI pts i j k)&&decide (tnI pts i j l<0))
inductive sk(vs:List V)(H:Hp)(Q:VK)(E:XK):Prop
 | mk (a b c:Addr) (pts:List Pt) (xs:List V) (i j k l:Nat) (c0:vs=[.ref a,.ref b,.ref c]) (c1:PL H a pts xs) (c2:SmP pts) (c3:aeM H b i j) (c4:aeM H c k l) (c5:i<pts.length) (c6:j<pts.length) (c7:k<pts.length) (c8:l<pts.length) (c9:Q (.bl (qL pts i j k l)) H):sk vs H Q E
abbrev yE:Stmt:=(top 36)
theorem abJ(D:Def K mg "parts" yE ["points","line","other"])(dw:Fn P w K mg base 1 "turn" ["p","q","r"] (lS K)):Fn P w K mg base 2 "parts" ["points","line","other"] sk:=by
 refine D.fx ["points","line","other","first","second"] ?_;rintro nd f cdv A outer s H vs Q E hr ⟨a,b,c,pts,xs,i,j,k,l,rfl,pl,sm,hb,hc,hi,hj,hk,hl,q⟩;obtain⟨pi,ei,qi⟩:=pl.at_ i hi;obtain⟨pj,ej,qj⟩:=pl.at_ j hj;obtain⟨pk,ek,qk⟩:=pl.at_ k hk;obtain⟨pl',el,ql⟩:=pl.at_ l hl;refine⟨_,(kxs 3 nd (kxF dw hr (ab (kxI (pv 0) (kxT (pv 1) ao)) (ab (kxI (pv 0) (kxT (pv 1) ao)) (ab (kxI (pv 0) (kxT (pv 2) ao)) ak)))) (kxs 4 nd (kxF dw hr (ab (kxI (pv 0) (kxT (pv 1) ao)) (ab (kxI (pv 0) (kxT (pv 1) ao)) (ab (kxI (pv 0) (kxT (pv 2) ao)) ak)))) (kxr (agB (eY (aX vH (pv 3) ao (a8 _)) (fU (aX lD (pv 4) ao (a8 _)))) (fU (eY (aX lD (pv 3) ao (a8 _)) (fU (aX vH (pv 4) ao (a8 _))))))))),?_⟩;refine acy (c:=0) rfl rfl pl.lst hb rfl ei (acy (c:=1) rfl rfl pl.lst hb rfl ej (acy (c:=0) rfl rfl pl.lst hc rfl ek (tf <| lR sm qi qj qk ?_)));refine acy (c:=0) rfl rfl pl.lst hb rfl ei (acy (c:=1) rfl rfl pl.lst hb rfl ej (acy (c:=1) rfl rfl pl.lst hc rfl el (tf <| lR sm qi qj ql ?_)));unfold qL at q;refine⟨_,rfl,_,_,rfl,rfl,_,rfl,bJ (fun z => ?_) (fun z => ?_)⟩
 ·rw[z,AU] at q
  refine⟨_,rfl,_,_,rfl,rfl,_,rfl,bJ (fun y => ?_) (fun y => ?_)⟩
  ·rw[y,CG] at q;exact q
  ·rw[AB] at y
   rw[y,C6] at q;refine⟨_,rfl,_,_,rfl,rfl,_,rfl,bJ (fun u => ?_) (fun u => ?_)⟩
   ·rw[u,AU] at q
    exact⟨_,rfl,_,_,rfl,rfl,q⟩
   ·rw[AB] at u
    rw[u,A5] at q;exact q
 ·rw[AB] at z
  rw[z,A5,C6] at q;refine⟨_,rfl,fS ?_⟩;refine⟨_,rfl,_,_,rfl,rfl,_,rfl,bJ (fun u => ?_) (fun u => ?_)⟩
  ·rw[u,AU] at q
   exact⟨_,rfl,_,_,rfl,rfl,q⟩
  ·rw[AB] at u
   rw[u,A5] at q;exact q
def n4(pts:List Pt)(i j k l:Nat):Bool:=qL pts i j k l&&qL pts k l i j
inductive sN(vs:List V)(H:Hp)(Q:VK)(E:XK):Prop
 | mk (a b c:Addr) (pts:List Pt) (xs:List V) (i j k l:Nat) (c0:vs=[.ref a,.ref b,.ref c]) (c1:PL H a pts xs) (c2:SmP pts) (c3:aeM H b i j) (c4:aeM H c k l) (c5:i<pts.length) (c6:j<pts.length) (c7:k<pts.length) (c8:l<pts.length) (c9:Q (.bl (n4 pts i j k l)) H):sN vs H Q E
abbrev yD:Stmt:=(top 35)
theorem aaL(D:Def K mg "crosses" yD ["points","line","other"])(p6:Fn P w K mg base 2 "parts" ["points","line","other"] sk):Fn P w K mg base 3 "crosses" ["points","line","other"] sN:=by
 refine D.fx ["points","line","other"] ?_;rintro nd f cdv A outer s H vs Q E hr ⟨a,b,c,pts,xs,i,j,k,l,rfl,pl,sm,hb,hc,hi,hj,hk,hl,q⟩;refine⟨_,(kxr (eY (kxF p6 hr (ab (pv 0) (ab (pv 1) (ab (pv 2) ak)))) (fU (kxF p6 hr (ab (pv 0) (ab (pv 2) (ab (pv 1) ak))))))),?_⟩;unfold n4 at q;refine⟨_,rfl,_,rfl,_,rfl,a,b,c,pts,xs,i,j,k,l,rfl,pl,sm,hb,hc,hi,hj,hk,hl,_,rfl,bJ (fun z => ?_) (fun z => ?_)⟩
 ·rw[z,AU] at q
  exact⟨_,rfl,_,rfl,_,rfl,a,c,b,pts,xs,k,l,i,j,rfl,pl,sm,hc,hb,hk,hl,hi,hj,q⟩
 ·rw[AB] at z
  rw[z,A5] at q;exact q
def onI(pts:List Pt)(k i j:Nat):Bool:=onZ (pts.getD k ⟨0,0⟩).x (pts.getD k ⟨0,0⟩).y (pts.getD i ⟨0,0⟩).x (pts.getD i ⟨0,0⟩).y (pts.getD j ⟨0,0⟩).x (pts.getD j ⟨0,0⟩).y
def zd(pts:List Pt)(i j:Nat):Bool:=(List.range (j-(i+1))).any fun d=>onI pts (i+1+d) i j
inductive ad5(vs:List V)(H:Hp)(Q:VK)(E:XK):Prop
 | mk (a b:Addr) (pts:List Pt) (xs:List V) (i j:Nat) (c0:vs=[.ref a,.ref b]) (c1:PL H a pts xs) (c2:SmP pts) (c3:aeM H b i j) (c4:i<j) (c5:j<pts.length) (c6:pts.length<65536) (c7:Q (.bl (zd pts i j)) H):ad5 vs H Q E
abbrev afS:Stmt:=(top 33)
theorem dQ{n:Nat}{p:Nat→Bool}(h:∀i,i<n→p i=false):(List.range n).any p=false:=by
 rw[BV];intro i hi;rw[h i (List.mem_range.mp hi)];exact Az
theorem d8{n i:Nat}{p:Nat→Bool}(h:i<n)(hp:p i=true):(List.range n).any p=true:=List.any_eq_true.mpr ⟨i,List.mem_range.mpr h,hp⟩
theorem ahz{K:DG}{H:Hp}{pts:List Pt}{i j k:Nat}{p q r:Addr}{Q:VK}(sm:SmP pts)(hr:H r=some (.tup [.int ((pts.getD k ⟨0,0⟩).x:Int),.int ((pts.getD k ⟨0,0⟩).y:Int)]))(hp:H p=some (.tup [.int ((pts.getD i ⟨0,0⟩).x:Int),.int ((pts.getD i ⟨0,0⟩).y:Int)]))
  (hq:H q=some (.tup [.int ((pts.getD j ⟨0,0⟩).x:Int),.int ((pts.getD j ⟨0,0⟩).y:Int)])) (h:Q (.bl (onI pts k i j)) H) :
  aff K [.ref r,.ref p,.ref q] H Q E0 :=
 ⟨r,p,q,_,_,_,_,_,_,rfl,.of2 hr,.of2 hp,.of2 hq,(sm.at_ i).1,(sm.at_ i).2,(sm.at_ j).1,(sm.at_ j).2,h⟩
theorem afL(D:Def K mg "has_point_on_it" afS ["points","line"])(T:Txt K mg ad)(kF:Fn P w K mg base 2 "is_on" ["r","p","q"] (aff K)):Fn P w K mg base 3 "has_point_on_it" ["points","line"] ad5:=by
 refine D.fx ["points","line","k"] ?_;rintro nd f cdv A outer s H vs Q E hr ⟨a,b,pts,xs,i,j,rfl,pl,sm,hb,hij,hj,hn,q⟩;obtain⟨pi,ei,qi⟩:=pl.at_ i (by omega);obtain⟨pj,ej,qj⟩:=pl.at_ j hj;refine⟨_,(aA (bC PassesOwn.never rfl (yU (by rfl) T.fH (ab (aP aT (kxT (pv 1) ao) ao) (ab (kxT (pv 1) ao) ak))) (kxo 2 nd) (aF (di (aS (kxF kF hr (ab (kxI (pv 0) (pv 2)) (ab (kxI (pv 0) (kxT (pv 1) ao)) (ab (kxI (pv 0) (kxT (pv 1) ao)) ak)))) (fun _=>rfl)) (kxr kn) bb))) (kxr kn)),?_⟩;refine dG (j:=0) rfl (SqT.of hb) rfl ⟨_,_,rfl,rfl,dG (j:=1) rfl (SqT.of hb) rfl ⟨_,_,rfl,⟨by omega,by omega,by omega,by omega⟩,?_⟩⟩;rw[show((j:Int)-((i:Int)+1)).toNat=j-(i+1) by omega];refine mv (fun d σ H'=>(∃v,σ=[some (.ref a),some (.ref b),v])∧H'=H∧∀e,e<d→onI pts (i+1+e) i j=false) ⟨⟨none,rfl⟩,rfl,fun e he=>absurd he (AE e)⟩ ?_ ?_
 ·rintro d σ H' hd ⟨⟨v,rfl⟩,rfl,no⟩
  obtain⟨pk,ek,qk⟩:=pl.at_ (i+1+d) (by omega);have e1:((i:Int)+1+(d:Int))=((i+1+d:Nat):Int):=by omega
  rw[e1];refine aaA rfl rfl pl.lst ek (acy (c:=0) rfl rfl pl.lst hb rfl ei (acy (c:=1) rfl rfl pl.lst hb rfl ej (tf <| ahz sm qk qi qj ⟨_,rfl,bJ (fun z => ?_) (fun z => ?_)⟩)))
  ·unfold zd at q
   rw[d8 hd z] at q;exact q
  ·refine⟨⟨_,rfl⟩,rfl,fun e he => ?_⟩
   rcases Nat.lt_succ_iff_lt_or_eq.mp he with u|u
   ·exact no e u
   ·rw[u];exact Bool.eq_false_iff.mpr z
 ·rintro σ H' ⟨⟨v,rfl⟩,rfl,no⟩
  unfold zd at q;rw[dQ no] at q;exact q
end
theorem fl{K:DG}{H:Hp}{d C dx:Addr}{fs:List (Str×V)}{v:V}{f:Str}{ns:List Str}{Q:V→Prop}(h2:H d=some (.ins C dx fs))(F:Fl K C ns)(h3:fs.lookup f=some v)(h:Q v)(hf:f∈ns:=by decide +kernel) :
  ∃a C dx fs v,V.ref d=.ref a∧H a=some (.ins C dx fs)∧Cls K C∧fg K C f∧fs.lookup f=some v∧Q v:=⟨d,C,dx,fs,v,rfl,h2,F.cl,F.no f hf,h3,h⟩
theorem cS{K:DG}{a:Addr}{xs:List V}{g:TG}{tb:TS}{D:Ends}{σ:L2.St}{H:Hp}(Pv:Nat→L2.St→Hp→Prop)(h0:Pv 0 σ H)(hl:∀i σ H,i≤xs.length→Pv i σ H→SqL K H a xs)
  (hs:∀i x σ H T,xs[i]? = some x→Pv i σ H→H T=Option.none→g (.ref T) σ (upd H T (.tup [.int (i:Nat),x])) fun σ2 H2=>tb { D with nx:=Pv (i+1),ct:=Pv (i+1),bk:=D.nx } σ2 H2) (hd:∀σ H,Pv xs.length σ H→D.nx σ H) :
  ∃W:Nat→Nat→L2.St→Hp→Prop,(∃m,W 0 m σ H)∧∀i m σ H,W i m σ H →
   ((Ite K a).stop i H∧D.nx σ H)∨((Ite K a).go i H∧∃N:L2.St→Hp→Prop,(∀σ' H',N σ' H'→∃m',m'<m∧W (i+1) m' σ' H')∧∀x H',(Ite K a).yld i H x H'→g x σ H' fun σ2 H2=>tb { D with nx:=N,ct:=N,bk:=D.nx } σ2 H2):=by
 refine u4 (J:=Ite K a) xs.length Pv h0 (fun i σ H hi p => ?_) (fun i v σ H H' hi p y => ?_) (fun σ H p=>⟨⟨xs,hl _ σ H (Ae _) p,Ae _⟩,hd σ H p⟩)
 ·exact⟨xs,xs[i],hl i σ H (Br hi) p,Aa hi⟩
 ·obtain⟨T,x,rfl,hT,rfl,hx⟩:=y
  exact hs i x σ H T (hx xs (hl i σ H (Br hi) p)) p hT
def aQ(n:Nat)(p:Nat→Bool):Option Nat:=(List.range n).find? p
theorem aY{n i:Nat}{p:Nat→Bool}(h:i<n)(hp:p i=true)(no:∀j,j<i→p j=false):aQ n p=some i:=by
 unfold aQ;refine find_some (i:=i) (by rw[AN h]) hp fun j b hj e => ?_;rw[AN (by omega)] at e;obtain rfl:=Ac e;exact no j hj
theorem ba{n:Nat}{p:Nat→Bool}(no:∀j,j<n→p j=false):aQ n p=none:=by
 unfold aQ;rw[Bg];intro i hi;rw[no i (List.mem_range.mp hi)];exact Az
theorem b7{i:Nat}{p:Nat→Bool}(no:∀j,j<i→p j=false)(h:p i=false):∀j,j<i+1→p j=false:=fun j hj=>by
 rcases Nat.lt_succ_iff_lt_or_eq.mp hj with u|u
 ·exact no j u
 ·rw[u];exact h
def plV:Option Int→V
 | none=>.non
 | some z=>.int z
structure LL(H:Hp)(a:Addr)(lns:List (Nat×Nat))(xs:List V):Prop where
 lst:H a=some (.lst xs)
 len:xs.length=lns.length
 at_:∀i,i<lns.length→∃p,xs[i]? = some (.ref p)∧aeM H p (lns.getD i (0,0)).1 (lns.getD i (0,0)).2
theorem Rows.lns{H:Hp}{a:Addr}{lns:List (Nat×Nat)}(h:Rows H a (lns.map aby)):∃xs,LL H a lns xs:=by
 obtain⟨xs,h1,h2,h3⟩:=h.get;refine⟨xs,h1,by rw[h2,Ab],fun i hi => ?_⟩;obtain⟨p,e1,e2⟩:=h3 i (aby (lns.getD i (0,0))) (by rw[Am,Aj,Aa hi];rfl);exact⟨p,e1,e2⟩
theorem PL.same{H H':Hp}{a:Addr}{pts:List Pt}{xs:List V}(h:PL H a pts xs)(s:aL H H'):PL H' a pts xs:=⟨s _ _ h.lst,h.len,fun i hi=>let ⟨p,e1,e2⟩:=h.at_ i hi;⟨p,e1,s _ _ e2⟩⟩
def rV(S:Plan):Prop:=∀l∈S.lines,l.1<l.2∧l.2<S.pts.length
theorem rV.at_{S:Plan}(h:rV S){i:Nat}(hi:i<S.lines.length):(S.lines.getD i (0,0)).1<(S.lines.getD i (0,0)).2∧(S.lines.getD i (0,0)).2<S.pts.length:=by
 refine h _ ?_;rw[Aj,Aa hi];exact Bb hi
section
variable {P:Program}{w:World}{K:DG}{mg:DH}{base:Heap}{ad:Adr}
def qV(S:Plan)(k:Nat):Bool:=(List.range k).any fun e=>decide ((S.lines.getD k (0,0)).1<(S.lines.getD e (0,0)).2)&&n4 S.pts (S.lines.getD k (0,0)).1 (S.lines.getD k (0,0)).2 (S.lines.getD e (0,0)).1 (S.lines.getD e (0,0)).2
inductive pE(ad:Adr)(vs:List V)(H:Hp)(Q:VK)(E:XK):Prop
 | mk (d dx lp ll lm:Addr) (S:Plan) (k:Nat) (c0:vs=[.ref d,.int k]) (c1:b0 ad H d S dx lp ll lm) (c2:SmP S.pts) (c3:rV S) (c4:k<S.lines.length) (c5:∀H',aL H H'→Q (.bl (qV S k)) H'):pE ad vs H Q E
abbrev uO:Stmt:=(top 34)
theorem ab5(xs:List V)(b:Nat):kS xs Option.none (some (b:Int))=xs.take b:=by
 unfold kS;rw[HT.abc,HT.mj,BN,BP]
 by_cases h:b≤xs.length
 ·rw[B2 h]
 ·rw[BL (by omega),AK (Ae _),AK (by omega)]
theorem zr(D:Def K mg "crosses_one_before" uO ["drawing","k"])(T:Txt K mg ad)(mU:Fn P w K mg base 3 "crosses" ["points","line","other"] sN):Fn P w K mg base 4 "crosses_one_before" ["drawing","k"] (pE ad):=by
 refine D.fx ["drawing","k","line","other"] ?_;rintro nd f cdv A outer s H vs Q E hr ⟨d,dx,lp,ll,lm,S,k,rfl,hd,sm,lk,hk,q⟩;obtain⟨ps,pl⟩:=hd.pts.pts;obtain⟨ls,ln⟩:=hd.lns.lns;obtain⟨b,eb,qb⟩:=ln.at_ k hk;have hi:=lk.at_ hk;refine⟨_,(kxs 2 nd (kxI (ay (pv 0) rfl) (pv 1)) (aA (bC PassesOwn.never rfl (bU (fE iV (ay (pv 0) rfl) oV (d9 (pv 1)))) (kxo 3 nd) (aF (di ((jH (kxg (kxT (pv 3) ao) (kxT (pv 2) ao)) (fA (aS (kxF mU hr (ab (ay (pv 0) rfl) (ab (pv 2) (ab (pv 3) ak)))) (fun _=>rfl))))).pt (kxr kn) bb))) (kxr kn))),?_⟩;refine⟨_,rfl,fl hd.ob T.draw aaW ⟨_,rfl,_,_,_,_,rfl,rfl,SqL.of ln.lst,aM eb,?_⟩⟩;refine⟨_,rfl,fl hd.ob T.draw aaW ⟨_,rfl,_,rfl,ll,ls,rfl,SqL.of ln.lst,fun p hp => ?_⟩⟩;rw[ab5];have sp:=ah (o:=.lst (ls.take k)) hp;refine⟨p,rfl,⟨_,SqL.of ag⟩,dE (K:=K) (a:=p) (xs:=ls.take k) (fun e σ H'=>(∃v,σ=[some (.ref d),some (.int k),some (.ref b),v])∧H'=upd H p (.lst (ls.take k)) ∧
  ∀e',e'<e→(decide ((S.lines.getD k (0,0)).1<(S.lines.getD e' (0,0)).2)&&n4 S.pts (S.lines.getD k (0,0)).1 (S.lines.getD k (0,0)).2 (S.lines.getD e' (0,0)).1 (S.lines.getD e' (0,0)).2)=false)
  ⟨⟨none,rfl⟩,rfl,fun e he=>absurd he (AE e)⟩ (fun i σ H' _ ⟨_,e,_⟩=>by rw[e];exact SqL.of ag) ?_ ?_⟩
 ·rintro e x σ H' hx ⟨⟨v,rfl⟩,rfl,no⟩
  have he:e<k:=by
   have:=(List.getElem?_eq_some_iff.mp hx).1;rw[A2] at this;omega
  rw[AF he] at hx;obtain⟨c,ec,qc⟩:=ln.at_ e (by omega);rw[ec] at hx;obtain rfl:=Ac hx;have hj:=lk.at_ (show e<S.lines.length by omega);refine dG (j:=1) rfl (SqT.of (sp _ _ qc)) rfl (dG (j:=0) rfl (SqT.of (sp _ _ qb)) rfl ⟨_,_,rfl,rfl,_,rfl,bJ (fun z => ?_) (fun z => ?_)⟩)
  ·have z':decide ((S.lines.getD k (0,0)).1<(S.lines.getD e (0,0)).2)=true:=Ak (by have:=Al z;omega)
   refine⟨_,rfl,fl (sp _ _ hd.ob) T.draw qa ⟨_,rfl,_,rfl,lp,b,c,S.pts,ps,_,_,_,_,rfl,pl.same sp,sm,sp _ _ qb,sp _ _ qc,by omega,by omega,by omega,by omega,_,rfl,bJ (fun y => ?_) (fun y => ?_)⟩⟩
   ·unfold qV at q
    rw[d8 he (by rw[z',y];rfl)] at q;exact q _ sp
   ·refine⟨⟨_,rfl⟩,rfl,fun e' he' => ?_⟩
    rcases Nat.lt_succ_iff_lt_or_eq.mp he' with u|u
    ·exact no e' u
    ·rw[u,Bool.eq_false_iff.mpr y,Cr]
  ·have z':decide ((S.lines.getD k (0,0)).1<(S.lines.getD e (0,0)).2)=false:=Ax (fun y=>z (Ak (by omega)))
   refine fS ⟨⟨_,rfl⟩,rfl,fun e' he' => ?_⟩;rcases Nat.lt_succ_iff_lt_or_eq.mp he' with u|u
   ·exact no e' u
   ·rw[u,z',A5]
 ·rintro σ H' ⟨⟨v,rfl⟩,rfl,no⟩
  unfold qV at q;rw[A2,ln.len,B2 (by omega)] at no;rw[dQ no] at q;exact q _ sp
def l4(S:Plan)(k:Nat):Bool:=zd S.pts (S.lines.getD k (0,0)).1 (S.lines.getD k (0,0)).2||qV S k
def aaI(S:Plan)(k:Nat):Int:=20+8*(S.pts.length:Int)+4*(k:Int)
inductive xi(ad:Adr)(vs:List V)(H:Hp)(Q:VK)(E:XK):Prop
 | mk (d dx lp ll lm:Addr) (S:Plan) (c0:vs=[.ref d]) (c1:b0 ad H d S dx lp ll lm) (c2:SmP S.pts) (c3:S.pts.length<65536) (c4:rV S) (c5:∀H',aL H H'→Q (plV ((aQ S.lines.length (l4 S)).map (aaI S))) H'):xi ad vs H Q E
abbrev abW:Stmt:=(top 32)
theorem adQ(D:Def K mg "tangled_line" abW ["drawing"])(T:Txt K mg ad)(cQ:Fn P w K mg base 3 "has_point_on_it" ["points","line"] ad5)(b9:Fn P w K mg base 4 "crosses_one_before" ["drawing","k"] (pE ad))
  (bj:Me P w K mg base 2 ad.drawing "line_place" ["self","k"] (aeO ad)):Fn P w K mg base 5 "tangled_line" ["drawing"] (xi ad):=by
 refine D.fx ["drawing","k","line"] ?_;rintro nd f cdv A outer s H vs Q E hr ⟨d,dx,lp,ll,lm,S,rfl,hd,sm,hn,lk,q⟩;obtain⟨ps,pl⟩:=hd.pts.pts;obtain⟨ls,ln⟩:=hd.lns.lns;refine⟨_,(aA (bC PassesOwn.never rfl (dP (by rfl) T.aV (ab (ay (pv 0) rfl) ak)) (dv rfl (aJ (kxo 1 nd) (aJ (kxo 2 nd) b8))) (aF (di ((lC (aS (kxF cQ hr (ab (ay (pv 0) rfl) (ab (pv 2) ak))) (fun _=>rfl)) (fW (aS (kxF b9 hr (ab (pv 0) (ab (pv 1) ak))) (fun _=>rfl))))).pt (kxr (jr (pv 0) bj (hr.mono (by decide)) (ab (pv 1) ak))) bb))) (kxr fT)),?_⟩;refine⟨_,rfl,fl hd.ob T.draw aaW ⟨ll,ls,rfl,SqL.of ln.lst,cS (K:=K) (a:=ll) (xs:=ls) (fun i σ H'=>(∃u v,σ=[some (.ref d),u,v])∧aL H H'∧∀e,e<i→l4 S e=false)
  ⟨⟨none,none,rfl⟩,aL.refl H,fun e he=>absurd he (AE e)⟩ (fun i σ H' _ ⟨_,e,_⟩=>SqL.of (e _ _ ln.lst)) ?_ ?_⟩⟩
 ·rintro i x σ H' t hx ⟨⟨u,v,rfl⟩,sH,no⟩ ht
  have hi:i<S.lines.length:=by
   have:=(List.getElem?_eq_some_iff.mp hx).1;rw[ln.len] at this;exact this
  obtain⟨b,eb,qb⟩:=ln.at_ i hi;rw[eb] at hx;obtain rfl:=Ac hx;have hk:=lk.at_ hi;refine⟨t,_,rfl,SqT.of ag,rfl,_,_,rfl,_,_,rfl,rfl,?_⟩;have s1:=sH.trans (ah (o:=.tup [.int (i:Nat),.ref b]) ht);generalize upd H' t (.tup [.int (i:Nat),.ref b])=H1 at *
  refine⟨_,rfl,fl (s1 _ _ hd.ob) T.draw qa ⟨_,rfl,lp,b,S.pts,ps,_,_,rfl,pl.same s1,sm,s1 _ _ qb,hk.1,hk.2,hn,_,rfl,bJ (fun z => ?_) (fun z => ?_)⟩⟩
  ·have bad:l4 S i=true:=by unfold l4;rw[z,CG]
   rw[aY hi bad no] at q;exact f6 ⟨_,rfl,d,dx,_,rfl,s1 _ _ hd.ob,rfl,_,rfl,d,dx,lp,ll,lm,S,_,rfl,hd.same s1,q _ s1⟩
  ·refine⟨_,rfl,_,rfl,d,dx,lp,ll,lm,S,i,rfl,hd.same s1,sm,lk,hi,fun H2 s2=>⟨_,rfl,bJ (fun y => ?_) (fun y => ?_)⟩⟩
   ·have bad:l4 S i=true:=by unfold l4;rw[y,BJ]
    rw[aY hi bad no] at q;have s3:=s1.trans s2;exact⟨_,rfl,d,dx,_,rfl,s3 _ _ hd.ob,rfl,_,rfl,d,dx,lp,ll,lm,S,_,rfl,hd.same s3,q _ s3⟩
   ·refine⟨⟨_,_,rfl⟩,s1.trans s2,b7 no ?_⟩
    unfold l4;rw[Bool.eq_false_iff.mpr z,Bool.eq_false_iff.mpr y];rfl
 ·rintro σ H' ⟨⟨u,v,rfl⟩,sH,no⟩
  rw[ln.len] at no;rw[ba no] at q;exact q _ sH
end
def m0:Mark:=⟨⟨0,0⟩,0,0⟩
def mkV(m:Mark):List V := [.int (m.at_.x:Int),.int (m.at_.y:Int),.int (m.glass:Int)]
structure ML(H:Hp)(a:Addr)(mks:List Mark)(xs:List V):Prop where
 lst:H a=some (.lst xs)
 len:xs.length=mks.length
 at_:∀i,i<mks.length→∃p,xs[i]? = some (.ref p)∧H p=some (.tup (mkV (mks.getD i m0)))
theorem Rows.mks{H:Hp}{a:Addr}{mks:List Mark}(h:Rows H a (mks.map abE)):∃xs,ML H a mks xs:=by
 obtain⟨xs,h1,h2,h3⟩:=h.get;refine⟨xs,h1,by rw[h2,Ab],fun i hi => ?_⟩;obtain⟨p,e1,e2⟩:=h3 i (abE (mks.getD i m0)) (by rw[Am,Aj,Aa hi];rfl);exact⟨p,e1,e2⟩
section
variable {P:Program}{w:World}{K:DG}{mg:DH}{base:Heap}{ad:Adr}
def iQ(S:Plan)(m:Mark):Bool:=decide (0<m.at_.x)&&(decide (m.at_.x<S.w)&&(decide (0<m.at_.y)&&decide (m.at_.y<S.h)))
inductive sT(ad:Adr)(vs:List V)(H:Hp)(Q:VK)(E:XK):Prop
 | mk (d dx lp ll lm p:Addr) (S:Plan) (m:Mark) (c0:vs=[.ref d,.ref p]) (c1:b0 ad H d S dx lp ll lm) (c2:H p=some (.tup (mkV m))) (c3:Q (.bl (iQ S m)) H):sT ad vs H Q E
abbrev yz:Stmt:=(top 43)
theorem aad(x y:Nat):decide ((x:Int)<(y:Int))=decide (x<y):=by
 by_cases h:x<y
 ·rw[Ak h,Ak (by omega)]
 ·rw[Ax h,Ax (by omega)]
theorem yx(y:Nat):decide ((0:Int)<(y:Int))=decide (0<y):=aad 0 y
theorem abn(D:Def K mg "is_within_frame" yz ["drawing","mark"])(T:Txt K mg ad):Fn P w K mg base 1 "is_within_frame" ["drawing","mark"] (sT ad):=by
 refine D.fx ["drawing","mark"] ?_;rintro nd f cdv A outer s H vs Q E hr ⟨d,dx,lp,ll,lm,p,S,m,rfl,hd,hp,q⟩;refine⟨_,(kxr (eY (aX lD (kxT (pv 1) ao) ao (a8 _)) (eY (aX vH (kxT (pv 1) ao) (ay (pv 0) rfl) (a8 _)) (eY (aX lD (kxT (pv 1) ao) ao (a8 _)) (fU (aX vH (kxT (pv 1) ao) (ay (pv 0) rfl) (a8 _))))))),?_⟩;unfold iQ at q;refine dG (j:=0) rfl (SqT.of hp) rfl ⟨_,_,rfl,rfl,_,rfl,?_⟩;rw[yx];refine bJ (fun z => ?_) (fun z => ?_)
 ·rw[z,AU] at q
  refine dG (j:=0) rfl (SqT.of hp) rfl (xO rfl hd.ob T.draw ae7 ⟨_,_,rfl,rfl,_,rfl,?_⟩);rw[aad];refine bJ (fun z => ?_) (fun z => ?_)
  ·rw[z,AU] at q
   refine dG (j:=1) rfl (SqT.of hp) rfl ⟨_,_,rfl,rfl,_,rfl,?_⟩;rw[yx];refine bJ (fun z => ?_) (fun z => ?_)
   ·rw[z,AU] at q
    refine dG (j:=1) rfl (SqT.of hp) rfl (xO rfl hd.ob T.draw afZ ⟨_,_,rfl,rfl,?_⟩);rw[← aad] at q;exact q
   ·rw[AB] at z
    rw[z,A5] at q;exact q
  ·rw[AB] at z
   rw[z,A5] at q;exact q
 ·rw[AB] at z
  rw[z,A5] at q;exact q
def onM(S:Plan)(m:Mark)(e:Nat):Bool:=onZ m.at_.x m.at_.y (S.pts.getD (S.lines.getD e (0,0)).1 ⟨0,0⟩).x (S.pts.getD (S.lines.getD e (0,0)).1 ⟨0,0⟩).y (S.pts.getD (S.lines.getD e (0,0)).2 ⟨0,0⟩).x (S.pts.getD (S.lines.getD e (0,0)).2 ⟨0,0⟩).y
def abf(S:Plan)(m:Mark):Bool:=(List.range S.lines.length).any (onM S m)
inductive w8(ad:Adr)(vs:List V)(H:Hp)(Q:VK)(E:XK):Prop
 | mk (d dx lp ll lm p:Addr) (S:Plan) (m:Mark) (c0:vs=[.ref d,.ref p]) (c1:b0 ad H d S dx lp ll lm) (c2:SmP S.pts) (c3:rV S) (c4:H p=some (.tup (mkV m))) (c5:Q (.bl (abf S m)) H):w8 ad vs H Q E
abbrev abZ:Stmt:=(top 44)
theorem ada(D:Def K mg "is_on_a_line" abZ ["drawing","mark"])(T:Txt K mg ad)(kF:Fn P w K mg base 2 "is_on" ["r","p","q"] (aff K)):Fn P w K mg base 3 "is_on_a_line" ["drawing","mark"] (w8 ad):=by
 refine D.fx ["drawing","mark","line"] ?_;rintro nd f cdv A outer s H vs Q E hr ⟨d,dx,lp,ll,lm,p,S,m,rfl,hd,sm,lk,hp,q⟩;obtain⟨ps,pl⟩:=hd.pts.pts;obtain⟨ls,ln⟩:=hd.lns.lns;refine⟨_,(aA (bC PassesOwn.never rfl (bU (ay (pv 0) rfl)) (kxo 2 nd) (aF (di (aS (kxF kF hr (ab (pv 1) (ab (kxI (ay (pv 0) rfl) (kxT (pv 2) ao)) (ab (kxI (ay (pv 0) rfl) (kxT (pv 2) ao)) ak)))) (fun _=>rfl)) (kxr kn) bb))) (kxr kn)),?_⟩;refine⟨_,rfl,fl hd.ob T.draw aaW ⟨ll,rfl,⟨_,SqL.of ln.lst⟩,dE (K:=K) (a:=ll) (xs:=ls) (fun e σ H'=>(∃v,σ=[some (.ref d),some (.ref p),v])∧H'=H∧∀e',e'<e→onM S m e'=false)
  ⟨⟨none,rfl⟩,rfl,fun e he=>absurd he (AE e)⟩ (fun i σ H' _ ⟨_,e,_⟩=>by rw[e];exact SqL.of ln.lst) ?_ ?_⟩⟩
 ·rintro e x σ H' hx ⟨⟨v,rfl⟩,rfl,no⟩
  have he:e<S.lines.length:=by
   have:=(List.getElem?_eq_some_iff.mp hx).1;rw[ln.len] at this;exact this
  obtain⟨c,ec,qc⟩:=ln.at_ e he;rw[ec] at hx;obtain rfl:=Ac hx;have hj:=lk.at_ he;obtain⟨pi,ei,qi⟩:=pl.at_ _ (show(S.lines.getD e (0,0)).1<S.pts.length by omega);obtain⟨pj,ej,qj⟩:=pl.at_ _ hj.2;refine⟨_,rfl,_,rfl,fl hd.ob T.draw qa ⟨_,rfl,_,_,_,_,rfl,rfl,SqT.of qc,aM (j:=0) rfl,_,_,_,_,rfl,rfl,SqL.of pl.lst,aM ei,?_⟩⟩;refine⟨_,rfl,fl hd.ob T.draw qa ⟨_,rfl,_,_,_,_,rfl,rfl,SqT.of qc,aM (j:=1) rfl,_,_,_,_,rfl,rfl,SqL.of pl.lst,aM ej,?_⟩⟩;refine⟨p,pi,pj,_,_,_,_,_,_,rfl,.of2 hp,.of2 qi,.of2 qj,(sm.at_ _).1,(sm.at_ _).2,(sm.at_ _).1,(sm.at_ _).2,_,rfl,bJ (fun z => ?_) (fun z => ?_)⟩
  ·unfold abf at q
   rw[d8 he z] at q;exact q
  ·exact⟨⟨_,rfl⟩,rfl,b7 no (Bool.eq_false_iff.mpr z)⟩
 ·rintro σ H' ⟨⟨v,rfl⟩,rfl,no⟩
  unfold abf at q;rw[ln.len] at no;rw[dQ no] at q;exact q
def kg(px py qx qy:Nat):Bool:=decide (qy<py)||(decide (py=qy)&&decide (qx<px))
theorem vf(px py qx qy:Nat):(decide ((qy:Int)<(py:Int))||(decide ((py:Int)=(qy:Int))&&decide ((qx:Int)<(px:Int))))=kg px py qx qy:=by
 unfold kg;rw[aad,aad]
 congr 2
 by_cases h:py=qy
 ·subst h;simp
 ·rw[Ax h,Ax (by omega)]
def cW(S:Plan)(k:Nat):Bool:=(!iQ S (S.marks.getD k m0)||abf S (S.marks.getD k m0))||(decide (0<k) && !kg (S.marks.getD k m0).at_.x (S.marks.getD k m0).at_.y (S.marks.getD (k-1) m0).at_.x (S.marks.getD (k-1) m0).at_.y)
def abN(S:Plan)(k:Nat):Int:=20+8*(S.pts.length:Int)+4*(S.lines.length:Int)+12*(k:Int)
inductive oT(ad:Adr)(vs:List V)(H:Hp)(Q:VK)(E:XK):Prop
 | mk (d dx lp ll lm:Addr) (S:Plan) (c0:vs=[.ref d]) (c1:b0 ad H d S dx lp ll lm) (c2:SmP S.pts) (c3:rV S) (c4:∀H',aL H H'→Q (plV ((aQ S.marks.length (cW S)).map (abN S))) H'):oT ad vs H Q E
abbrev um:Stmt:=(top 42)
theorem xP(D:Def K mg "stray_mark" um ["drawing"])(T:Txt K mg ad)(cR:Fn P w K mg base 1 "is_within_frame" ["drawing","mark"] (sT ad))(eD:Fn P w K mg base 3 "is_on_a_line" ["drawing","mark"] (w8 ad))
  (bP:Fn P w K mg base 1 "comes_behind" ["point","last"] (lG K)) (bo:Me P w K mg base 3 ad.drawing "mark_place" ["self","k"] (aeS ad)):Fn P w K mg base 4 "stray_mark" ["drawing"] (oT ad):=by
 refine D.fx ["drawing","k","mark"] ?_;rintro nd f cdv A outer s H vs Q E hr ⟨d,dx,lp,ll,lm,S,rfl,hd,sm,lk,q⟩;obtain⟨ms,ml⟩:=hd.mks.mks;refine⟨_,(aA (bC PassesOwn.never rfl (dP (by rfl) T.aV (ab (ay (pv 0) rfl) ak)) (dv rfl (aJ (kxo 1 nd) (aJ (kxo 2 nd) b8))) (kxf ((lC (oi (aS (kxF cR hr (ab (pv 0) (ab (pv 2) ak))) (fun _=>rfl))) (fW (aS (kxF eD hr (ab (pv 0) (ab (pv 2) ak))) (fun _=>rfl))))).pt (jr (pv 0) bo (hr.mono (by decide)) (ab (pv 1) ak)) (aF (di ((jH (kxg (pv 1) ao) (fA (oi (aS (kxF bP hr (ab (pv 2) (ab (kxI (ay (pv 0) rfl) (aP dX (pv 1) ao)) ak))) (fun _=>rfl)))))).pt (kxr (jr (pv 0) bo (hr.mono (by decide)) (ab (pv 1) ak))) bb)))) (kxr fT)),?_⟩;refine⟨_,rfl,fl hd.ob T.draw agZ ⟨lm,ms,rfl,SqL.of ml.lst,cS (K:=K) (a:=lm) (xs:=ms) (fun i σ H'=>(∃u v,σ=[some (.ref d),u,v])∧aL H H'∧∀e,e<i→cW S e=false)
  ⟨⟨none,none,rfl⟩,aL.refl H,fun e he=>absurd he (AE e)⟩ (fun i σ H' _ ⟨_,e,_⟩=>SqL.of (e _ _ ml.lst)) ?_ ?_⟩⟩
 ·rintro i x σ H' t hx ⟨⟨u,v,rfl⟩,sH,no⟩ ht
  have hi:i<S.marks.length:=by
   have:=(List.getElem?_eq_some_iff.mp hx).1;rw[ml.len] at this;exact this
  obtain⟨b,eb,qb⟩:=ml.at_ i hi;rw[eb] at hx;obtain rfl:=Ac hx;refine⟨t,_,rfl,SqT.of ag,rfl,_,_,rfl,_,_,rfl,rfl,?_⟩;have s1:=sH.trans (ah (o:=.tup [.int (i:Nat),.ref b]) ht);generalize upd H' t (.tup [.int (i:Nat),.ref b])=H1 at *
  have ret:cW S i=true→aeS ad [.ref d,.int (i:Nat)] H1 Q E0:=by
   intro bad;rw[aY hi bad no] at q;exact⟨d,dx,lp,ll,lm,S,_,rfl,hd.same s1,q _ s1⟩
  have second:(!iQ S (S.marks.getD i m0)||abf S (S.marks.getD i m0))=false→∀(D':Ends),D'.nx=(fun σ H'=>(∃u v,σ=[some (.ref d),u,v])∧aL H H'∧∀e,e<i+1→cW S e=false)→True:=fun _ _ _=>trivial;refine⟨_,rfl,_,rfl,d,dx,lp,ll,lm,b,S,_,rfl,hd.same s1,s1 _ _ qb,_,rfl,bJ (fun z => ?_) (fun z => ?_)⟩
  ·have bad:cW S i=true:=by unfold cW;rw[z];rfl
   exact f6 ⟨_,rfl,d,dx,_,rfl,s1 _ _ hd.ob,rfl,_,rfl,ret bad⟩
  ·refine⟨_,rfl,_,rfl,d,dx,lp,ll,lm,b,S,_,rfl,hd.same s1,sm,lk,s1 _ _ qb,_,rfl,bJ (fun y => ?_) (fun y => ?_)⟩
   ·have bad:cW S i=true:=by unfold cW;rw[y,BJ];rfl
    exact⟨_,rfl,d,dx,_,rfl,s1 _ _ hd.ob,rfl,_,rfl,ret bad⟩
   ·have first:(!iQ S (S.marks.getD i m0)||abf S (S.marks.getD i m0))=false:=by
     rw[Bool.eq_false_iff.mpr z,Bool.eq_false_iff.mpr y];rfl
    refine⟨_,rfl,_,_,rfl,rfl,_,rfl,?_⟩;rw[yx];refine bJ (fun g => ?_) (fun g => ?_)
    ·have g':0<i:=Al g
     obtain⟨c,ec,qc⟩:=ml.at_ (i-1) (by omega);refine⟨_,rfl,_,rfl,fl (s1 _ _ hd.ob) T.draw agZ ⟨_,rfl,_,_,rfl,rfl,lm,ms,_,.ref c,rfl,rfl,SqL.of (s1 _ _ ml.lst),?_,?_⟩⟩
     ·rw[show(i:Int)-1=((i-1:Nat):Int) by omega]
      exact aM ec
     ·refine⟨b,c,_,_,_,_,rfl,.of2 (s1 _ _ qb),.of2 (s1 _ _ qc),_,rfl,?_⟩
      rw[vf];refine bJ (fun h => ?_) (fun h => ?_)
      ·have bad:cW S i=true:=by unfold cW;rw[h,g,Dc,BJ]
       exact⟨_,rfl,d,dx,_,rfl,s1 _ _ hd.ob,rfl,_,rfl,ret bad⟩
      ·refine⟨⟨_,_,rfl⟩,s1,b7 no ?_⟩
       unfold cW;rw[first,Bool.eq_false_iff.mpr h,Cr];rfl
    ·refine fS ⟨⟨_,_,rfl⟩,s1,b7 no ?_⟩
     unfold cW;rw[first,Bool.eq_false_iff.mpr g,A5];rfl
 ·rintro σ H' ⟨⟨u,v,rfl⟩,sH,no⟩
  rw[ml.len] at no;rw[ba no] at q;exact q _ sH
def dN(S:Plan)(k:Nat):Bool:=(decide (S.w<(S.pts.getD k ⟨0,0⟩).x)||decide (S.h<(S.pts.getD k ⟨0,0⟩).y)) ||
 (decide (0<k) && !kg (S.pts.getD k ⟨0,0⟩).x (S.pts.getD k ⟨0,0⟩).y (S.pts.getD (k-1) ⟨0,0⟩).x (S.pts.getD (k-1) ⟨0,0⟩).y)
def ace(k:Nat):Int:=20+8*(k:Int)
inductive pR(ad:Adr)(vs:List V)(H:Hp)(Q:VK)(E:XK):Prop
 | mk (d dx lp ll lm:Addr) (S:Plan) (c0:vs=[.ref d]) (c1:b0 ad H d S dx lp ll lm) (c2:∀H',aL H H'→Q (plV ((aQ S.pts.length (dN S)).map ace)) H'):pR ad vs H Q E
abbrev u9:Stmt:=(top 29)
theorem xK(D:Def K mg "stray_point" u9 ["drawing"])(T:Txt K mg ad)(bP:Fn P w K mg base 1 "comes_behind" ["point","last"] (lG K))(aK:Me P w K mg base 1 ad.drawing "point_place" ["self","k"] acr) :
  Fn P w K mg base 2 "stray_point" ["drawing"] (pR ad):=by
 refine D.fx ["drawing","k","point"] ?_;rintro nd f cdv A outer s H vs Q E hr ⟨d,dx,lp,ll,lm,S,rfl,hd,q⟩;obtain⟨ps,pl⟩:=hd.pts.pts;refine⟨_,(aA (bC PassesOwn.never rfl (dP (by rfl) T.aV (ab (ay (pv 0) rfl) ak)) (dv rfl (aJ (kxo 1 nd) (aJ (kxo 2 nd) b8))) (kxf ((lC (kxg (kxT (pv 2) ao) (ay (pv 0) rfl)) (fW (kxg (kxT (pv 2) ao) (ay (pv 0) rfl))))).pt (jr (pv 0) aK (hr.mono (by decide)) (ab (pv 1) ak)) (aF (di ((jH (kxg (pv 1) ao) (fA (oi (aS (kxF bP hr (ab (pv 2) (ab (kxI (ay (pv 0) rfl) (aP dX (pv 1) ao)) ak))) (fun _=>rfl)))))).pt (kxr (jr (pv 0) aK (hr.mono (by decide)) (ab (pv 1) ak))) bb)))) (kxr fT)),?_⟩;refine⟨_,rfl,fl hd.ob T.draw qa ⟨lp,ps,rfl,SqL.of pl.lst,cS (K:=K) (a:=lp) (xs:=ps) (fun i σ H'=>(∃u v,σ=[some (.ref d),u,v])∧aL H H'∧∀e,e<i→dN S e=false)
  ⟨⟨none,none,rfl⟩,aL.refl H,fun e he=>absurd he (AE e)⟩ (fun i σ H' _ ⟨_,e,_⟩=>SqL.of (e _ _ pl.lst)) ?_ ?_⟩⟩
 ·rintro i x σ H' t hx ⟨⟨u,v,rfl⟩,sH,no⟩ ht
  have hi:i<S.pts.length:=by
   have:=(List.getElem?_eq_some_iff.mp hx).1;rw[pl.len] at this;exact this
  obtain⟨b,eb,qb⟩:=pl.at_ i hi;rw[eb] at hx;obtain rfl:=Ac hx;refine⟨t,_,rfl,SqT.of ag,rfl,_,_,rfl,_,_,rfl,rfl,?_⟩;have s1:=sH.trans (ah (o:=.tup [.int (i:Nat),.ref b]) ht);generalize upd H' t (.tup [.int (i:Nat),.ref b])=H1 at *
  have ret:dN S i=true→acr [.ref d,.int (i:Nat)] H1 Q E0:=by
   intro bad;rw[aY hi bad no] at q;exact⟨d,_,rfl,q _ s1⟩
  refine dG (j:=0) rfl (SqT.of (s1 _ _ qb)) rfl ⟨_,rfl,fl (s1 _ _ hd.ob) T.draw ae7 ⟨_,_,rfl,rfl,_,rfl,?_⟩⟩;rw[aad];refine bJ (fun z => ?_) (fun z => ?_)
  ·have bad:dN S i=true:=by unfold dN;rw[z];rfl
   exact f6 ⟨_,rfl,d,dx,_,rfl,s1 _ _ hd.ob,rfl,_,rfl,ret bad⟩
  ·refine dG (j:=1) rfl (SqT.of (s1 _ _ qb)) rfl ⟨_,rfl,fl (s1 _ _ hd.ob) T.draw afZ ⟨_,_,rfl,rfl,_,rfl,?_⟩⟩
   rw[aad];refine bJ (fun y => ?_) (fun y => ?_)
   ·have bad:dN S i=true:=by unfold dN;rw[y,BJ];rfl
    exact⟨_,rfl,d,dx,_,rfl,s1 _ _ hd.ob,rfl,_,rfl,ret bad⟩
   ·refine⟨_,rfl,_,_,rfl,rfl,_,rfl,?_⟩
    rw[yx];refine bJ (fun g => ?_) (fun g => ?_)
    ·have g':0<i:=Al g
     obtain⟨c,ec,qc⟩:=pl.at_ (i-1) (by omega);refine⟨_,rfl,_,rfl,fl (s1 _ _ hd.ob) T.draw qa ⟨_,rfl,_,_,rfl,rfl,lp,ps,_,.ref c,rfl,rfl,SqL.of (s1 _ _ pl.lst),?_,?_⟩⟩
     ·rw[show(i:Int)-1=((i-1:Nat):Int) by omega]
      exact aM ec
     ·refine⟨b,c,_,_,_,_,rfl,.of2 (s1 _ _ qb),.of2 (s1 _ _ qc),_,rfl,?_⟩
      rw[vf];refine bJ (fun h => ?_) (fun h => ?_)
      ·have bad:dN S i=true:=by unfold dN;rw[h,g,Dc,BJ]
       exact⟨_,rfl,d,dx,_,rfl,s1 _ _ hd.ob,rfl,_,rfl,ret bad⟩
      ·refine⟨⟨_,_,rfl⟩,s1,b7 no ?_⟩
       unfold dN;rw[Bool.eq_false_iff.mpr z,Bool.eq_false_iff.mpr y,Bool.eq_false_iff.mpr h,Cr];rfl
    ·refine fS ⟨⟨_,_,rfl⟩,s1,b7 no ?_⟩
     unfold dN;rw[Bool.eq_false_iff.mpr z,Bool.eq_false_iff.mpr y,Bool.eq_false_iff.mpr g,A5];rfl
 ·rintro σ H' ⟨⟨u,v,rfl⟩,sH,no⟩
  rw[pl.len] at no;rw[ba no] at q;exact q _ sH
end
structure NA(H:Hp)(a:Addr)(as:List Addr)(nl:List (List Nat)):Prop where
 lst:H a=some (.lst (as.map V.ref))
 nd:as.Nodup
 ne:a ∉ as
 len:as.length=nl.length
 at_:∀(i:Nat) (p:Addr),as[i]? = some p→H p=some (.lst ((nl.getD i []).map eX))
theorem NA.same{H H':Hp}{a:Addr}{as:List Addr}{nl:List (List Nat)}(h:NA H a as nl)(s:aL H H'):NA H' a as nl:=⟨s _ _ h.lst,h.nd,h.ne,h.len,fun i p e=>s _ _ (h.at_ i p e)⟩
theorem NA.get{H:Hp}{a:Addr}{as:List Addr}{nl:List (List Nat)}(h:NA H a as nl){i:Nat}(hi:i<nl.length):∃p,as[i]? = some p∧(as.map V.ref)[i]? = some (.ref p)∧H p=some (.lst ((nl.getD i []).map eX)):=by
 have hi':i<as.length:=by rw[h.len];exact hi
 have e:as[i]? = some as[i]:=Aa hi';exact⟨as[i],e,by rw[Am,e];rfl,h.at_ i _ e⟩
theorem NA.app{H:Hp}{a:Addr}{as:List Addr}{nl:List (List Nat)}(h:NA H a as nl){i v:Nat}{p:Addr}(e:as[i]? = some p)(hi:i<nl.length) :
  NA (upd H p (.lst ((nl.getD i []).map eX++[eX v]))) a as (nl.set i (nl.getD i []++[v])):=by
 have pa:a≠p:=fun z=>h.ne (z▸A4 e);refine⟨by rw[az pa];exact h.lst,h.nd,h.ne,by rw[BF];exact h.len,fun j q eq => ?_⟩
 by_cases ij:j=i
 ·subst ij
  rw[e] at eq;obtain rfl:=Ac eq;have ee:(nl.set j (nl.getD j []++[v])).getD j []=nl.getD j []++[v]:=by
   rw[Aj (l:=nl.set j (nl.getD j []++[v])),Bs hi,Ds]
  rw[ag,ee,As];rfl
 ·have qp:q≠p:=fun z=>ij (ahr h.nd eq (by rw[z];exact e))
  have ee:(nl.set i (nl.getD i []++[v])).getD j []=nl.getD j []:=by
   rw[Aj (l:=nl.set i (nl.getD i []++[v])),Bp (Ne.symm ij),← Aj]
  rw[az qp,h.at_ j q eq,ee]
def jv(S:Plan)(k i:Nat):List Nat:=(S.lines.take k).filterMap fun(l:Nat×Nat)=>if l.1=i then some l.2 else if l.2=i then some l.1 else none
def cA(S:Plan)(k:Nat):List (List Nat):=(List.range S.pts.length).map (jv S k)
def cP(S:Plan):List (List Nat):=(List.range S.pts.length).map S.near
theorem vE(S:Plan):cA S S.lines.length=cP S:=by
 unfold cA cP jv;rw[Bm];rfl
theorem nX(S:Plan)(k:Nat):(cA S k).length=S.pts.length:=by unfold cA;rw[Ab,Au]
theorem ke(S:Plan)(k:Nat){i:Nat}(hi:i<S.pts.length):(cA S k).getD i []=jv S k i:=by
 unfold cA;rw[Aj,Am,AN hi];rfl
theorem vU(S:Plan){k:Nat}(hk:k<S.lines.length)(i:Nat):jv S (k+1) i=jv S k i++(if (S.lines.getD k (0,0)).1=i then [(S.lines.getD k (0,0)).2] else if (S.lines.getD k (0,0)).2=i then [(S.lines.getD k (0,0)).1] else []):=by
 unfold jv;have e:S.lines[k]? = some (S.lines.getD k (0,0)):=by rw[Aj,Aa hk];rfl
 rw[take_snoc e,List.filterMap_append]
 congr 1
 generalize S.lines.getD k (0,0)=l;simp only[Cd,List.filterMap_nil]
 by_cases h1:l.1=i
 ·simp[h1]
 ·by_cases h2:l.2=i
  ·simp[h1,h2]
  ·simp[h1,h2]
theorem sL(S:Plan){k:Nat}(hk:k<S.lines.length)(h:(S.lines.getD k (0,0)).1<(S.lines.getD k (0,0)).2)(h2:(S.lines.getD k (0,0)).2<S.pts.length) :
  cA S (k+1)=((cA S k).set (S.lines.getD k (0,0)).1 (jv S k (S.lines.getD k (0,0)).1++[(S.lines.getD k (0,0)).2])).set (S.lines.getD k (0,0)).2 (jv S k (S.lines.getD k (0,0)).2++[(S.lines.getD k (0,0)).1]):=by
 refine CY fun i => ?_;have L:=nX S
 by_cases hi:i<S.pts.length
 ·have e1:(cA S (k+1))[i]? = some (jv S (k+1) i):=by unfold cA;rw[Am,AN hi];rfl
  have e2:(cA S k)[i]? = some (jv S k i):=by unfold cA;rw[Am,AN hi];rfl
  rw[e1,vU S hk]
  by_cases c2:i=(S.lines.getD k (0,0)).2
  ·rw[c2,Bs (by rw[BF,L];exact h2),Ad (by omega),Ag rfl]
  ·rw[Bp (Ne.symm c2)]
   by_cases c1:i=(S.lines.getD k (0,0)).1
   ·rw[c1,Bs (by rw[L];omega),Ag rfl]
   ·rw[Bp (Ne.symm c1),e2,Ad (Ne.symm c1),Ad (Ne.symm c2),AR]
 ·rw[AA (by rw[L];omega),AA (by rw[BF,BF,L];omega)]
theorem qH(S:Plan)(k i:Nat):(jv S k i).length≤S.lines.length:=by
 unfold jv;refine AS (List.length_filterMap_le _ _) ?_;rw[A2];omega
section
variable {P:Program}{w:World}{K:DG}{mg:DH}{base:Heap}{ad:Adr}
inductive wd(ad:Adr)(vs:List V)(H:Hp)(Q:VK)(E:XK):Prop
 | mk (d dx lp ll lm:Addr) (S:Plan) (c0:vs=[.ref d]) (c1:b0 ad H d S dx lp ll lm) (c2:rV S) (c3:S.pts.length<65536) (c4:S.lines.length<65536) (c5:∀H' a as,aL H H'→NA H' a as (cP S)→Q (.ref a) H'):wd ad vs H Q E
abbrev afX:Stmt:=(top 37)
theorem ae0(D:Def K mg "neighbours" afX ["drawing"])(T:Txt K mg ad):Fn P w K mg base 1 "neighbours" ["drawing"] (wd ad):=by
 refine D.fx ["drawing","point","near","line"] ?_;rintro nd f cdv A outer s H vs Q E hr ⟨d,dx,lp,ll,lm,S,rfl,hd,lk,hn,hm,q⟩;obtain⟨ps,pl⟩:=hd.pts.pts;obtain⟨ls,ln⟩:=hd.lns.lns;refine⟨_,(aA (dD (i:=2) rfl nd rfl rfl rfl (bU (ay (pv 0) rfl)) (ff (own := [("point",1)]) rfl) (fun _ _ _ _ _=>(kxo 1 nd)) (fun _ _ _ _ _=>dh) (fun _ _ _ _ _=>(aG ak))) (aA (bC PassesOwn.never rfl (bU (ay (pv 0) rfl)) (kxo 3 nd) (kxe (kxA (kxI (pv 2) (kxT (pv 3) ao)) (kxT (pv 3) ao)) (aF (iM (kxA (kxI (pv 2) (kxT (pv 3) ao)) (kxT (pv 3) ao)))))) (kxr (pv 2)))),?_⟩;refine⟨_,rfl,fl hd.ob T.draw qa ⟨lp,rfl,⟨_,SqL.of pl.lst⟩,fun a ha => ?_⟩⟩;refine kq (J:=Itl K lp) a S.pts.length (fun i H'=>aL H H'∧∃as:List Addr,NA H' a as (List.replicate i [])∧∀p∈as,H p=Option.none)
  ⟨ah ha,[],⟨ag,CK,by simp,rfl,fun i p e=>by simp at e⟩,fun p hp=>nomatch hp⟩ ?_ ?_ ?_
 ·rintro i H' hi ⟨sH,_⟩
  obtain⟨p,e,_⟩:=pl.at_ i hi;exact⟨ps,_,SqL.of (sH _ _ pl.lst),e⟩
 ·rintro i x H' H2 hi ⟨sH,as,na,fr⟩ ⟨rfl,_⟩
  refine⟨rfl,lA ⟨Av _,fun p hp => ?_⟩⟩;have ap:a≠p:=aN na.lst hp;have s1:=ah (o:=.lst []) hp;have al:as.length=i:=by rw[na.len,C0]
  refine⟨as.map V.ref,by rw[az ap];exact na.lst,aZ (by rw[Ab,al];omega),aH (sH.trans s1) ha,as++[p],⟨?_,?_,?_,?_,?_⟩,?_⟩
  ·rw[ag,As];rfl
  ·refine tP na.nd fun hm => ?_
   obtain⟨j,hj,e⟩:=List.mem_iff_getElem.mp hm;have:=na.at_ j p (by rw[Aa hj,e]);rw[hp] at this;cases this
  ·intro hm
   rcases List.mem_append.mp hm with z|z
   ·exact na.ne z
   ·exact ap (List.mem_singleton.mp z)
  ·rw[Ai,al,C0];rfl
  ·intro j y e
   have emp:((List.replicate (i+1) ([]:List Nat)).getD j [])=[]:=by
    rw[Aj,BK]
    split <;> rfl
   rw[emp];have ya:y≠a:=by
    intro z;subst z;rcases List.mem_append.mp (A4 e) with z|z
    ·exact na.ne z
    ·exact ap (List.mem_singleton.mp z)
   rw[az ya]
   by_cases hj:j<as.length
   ·rw[Aw hj] at e
    have yp:H2 y=some (.lst []):=by
     have:=na.at_ j y e;have em:((List.replicate i ([]:List Nat)).getD j [])=[]:=by
      rw[Aj,BK]
      split <;> rfl
     rw[em] at this;exact this
    rw[az (aN yp hp)];exact yp
   ·rw[Ao (by omega)] at e
    have:y=p:=by
     have hl:=(List.getElem?_eq_some_iff.mp e).1;have:j-as.length=0:=by simp at hl;omega
     rw[this] at e;exact(Ac e).symm
    rw[this,ag];rfl
  ·intro y hy
   rcases List.mem_append.mp hy with z|z
   ·exact fr y z
   ·rw[List.mem_singleton.mp z];exact sH.free hp
 ·rintro H1 ⟨s1,as,na,fr⟩
  refine⟨⟨ps,SqL.of (s1 _ _ pl.lst),by rw[pl.len];exact Ae _⟩,?_⟩;have na0:NA H1 a as (cA S 0):=by
   have e:cA S 0=List.replicate S.pts.length []:=by
    unfold cA jv;rw[List.take_zero];show(List.range S.pts.length).map (fun _=>[])=_;refine CY fun i => ?_;rw[Am,BK]
    by_cases hi:i<S.pts.length
    ·rw[AN hi,Ag hi];rfl
    ·rw[AA (by rw[Au];omega),Ad hi];rfl
   rw[e];exact na
  refine⟨_,rfl,fl (s1 _ _ hd.ob) T.draw aaW ⟨ll,rfl,⟨_,SqL.of (s1 _ _ ln.lst)⟩,dE (K:=K) (a:=ll) (xs:=ls) (fun k σ H'=>(∃u v,σ=[some (.ref d),u,some (.ref a),v])∧aL H H'∧NA H' a as (cA S k))
   ⟨⟨_,_,rfl⟩,s1,na0⟩ (fun i σ H' _ ⟨_,e,_⟩=>SqL.of (e _ _ ln.lst)) ?_ ?_⟩⟩
  ·rintro k x σ H' hx ⟨⟨u,v,rfl⟩,sH,nk⟩
   have hk:k<S.lines.length:=by
    have:=(List.getElem?_eq_some_iff.mp hx).1;rw[ln.len] at this;exact this
   obtain⟨b,eb,qb⟩:=ln.at_ k hk;rw[eb] at hx;obtain rfl:=Ac hx;have hj:=lk.at_ hk;have NL:=nX S k;obtain⟨p1,f1,g1,h1⟩:=nk.get (i:=(S.lines.getD k (0,0)).1) (by rw[NL];omega);have fr1:=fr p1 (A4 f1);refine⟨_,rfl,_,rfl,_,_,_,_,rfl,rfl,SqT.of (sH _ _ qb),aM (j:=0) rfl,_,_,_,_,rfl,rfl,SqL.of nk.lst,aM g1,.inl ⟨rfl,_,SqL.of h1⟩,?_⟩;refine dG (j:=1) rfl (SqT.of (sH _ _ qb)) rfl ⟨p1,_,_,rfl,rfl,h1,aZ (by rw[Ab,ke S k (by omega)];have:=qH S k (S.lines.getD k (0,0)).1;omega),?_⟩;have n1:=nk.app (v:=(S.lines.getD k (0,0)).2) f1 (by rw[NL];omega);have s2:=aH (o:=.lst (((cA S k).getD (S.lines.getD k (0,0)).1 []).map eX++[eX (S.lines.getD k (0,0)).2])) sH fr1;have e2:((cA S k).set (S.lines.getD k (0,0)).1 ((cA S k).getD (S.lines.getD k (0,0)).1 []++[(S.lines.getD k (0,0)).2])).getD (S.lines.getD k (0,0)).2 []=jv S k (S.lines.getD k (0,0)).2:=by
    rw[Aj,Bp (by omega),← Aj,ke S k hj.2]
   obtain⟨p2,f2,g2,h2⟩:=n1.get (i:=(S.lines.getD k (0,0)).2) (by rw[BF,NL];omega);have fr2:=fr p2 (A4 f2);refine⟨_,rfl,_,rfl,_,_,_,_,rfl,rfl,SqT.of (s2 _ _ qb),aM (j:=1) rfl,_,_,_,_,rfl,rfl,SqL.of n1.lst,aM g2,.inl ⟨rfl,_,SqL.of h2⟩,?_⟩;refine dG (j:=0) rfl (SqT.of (s2 _ _ qb)) rfl ⟨p2,_,_,rfl,rfl,h2,aZ (by rw[Ab,e2];have:=qH S k (S.lines.getD k (0,0)).2;omega),?_⟩;have n2:=n1.app (v:=(S.lines.getD k (0,0)).1) f2 (by rw[BF,NL];omega);refine⟨⟨_,_,rfl⟩,aH s2 fr2,?_⟩;rw[sL S hk hj.1 hj.2];rw[e2] at n2 ⊢;rw[ke S k (by omega)] at n2 ⊢;exact n2
  ·rintro σ H' ⟨⟨u,v,rfl⟩,sH,nk⟩
   rw[ln.len,vE] at nk;exact⟨_,rfl,q _ a as sH nk⟩
def mz(S:Plan)(k:Nat):Bool:=decide ((S.near k).length<2)
inductive tG(ad:Adr)(vs:List V)(H:Hp)(Q:VK)(E:XK):Prop
 | mk (d dx lp ll lm:Addr) (S:Plan) (c0:vs=[.ref d]) (c1:b0 ad H d S dx lp ll lm) (c2:rV S) (c3:S.pts.length<65536) (c4:S.lines.length<65536) (c5:∀H',aL H H'→Q (plV ((aQ S.pts.length (mz S)).map ace)) H'):tG ad vs H Q E
abbrev y8:Stmt:=(top 38)
theorem bB(S:Plan):(cP S).length=S.pts.length:=by unfold cP;rw[Ab,Au]
theorem iS(S:Plan){i:Nat}(hi:i<S.pts.length):(cP S).getD i []=S.near i:=by
 unfold cP;rw[Aj,Am,AN hi];rfl
theorem abb(D:Def K mg "loose_point" y8 ["drawing"])(T:Txt K mg ad)(aW:Fn P w K mg base 1 "neighbours" ["drawing"] (wd ad))(aK:Me P w K mg base 1 ad.drawing "point_place" ["self","k"] acr) :
  Fn P w K mg base 2 "loose_point" ["drawing"] (tG ad):=by
 refine D.fx ["drawing","k","near"] ?_;rintro nd f cdv A outer s H vs Q E hr ⟨d,dx,lp,ll,lm,S,rfl,hd,lk,hn,hm,q⟩;refine⟨_,(aA (bC PassesOwn.never rfl (dP (by rfl) T.aV (ab (kxF aW hr (ab (pv 0) ak)) ak)) (dv rfl (aJ (kxo 1 nd) (aJ (kxo 2 nd) b8))) (aF (di (kxl (kxL T.bD (pv 2)) ao) (kxr (jr (pv 0) aK (hr.mono (by decide)) (ab (pv 1) ak))) bb))) (kxr fT)),?_⟩;refine⟨_,rfl,d,dx,lp,ll,lm,S,rfl,hd,lk,hn,hm,fun H0 a as s0 na => ?_⟩;refine⟨a,_,rfl,SqL.of na.lst,cS (K:=K) (a:=a) (xs:=as.map V.ref) (fun i σ H'=>(∃u v,σ=[some (.ref d),u,v])∧aL H0 H'∧∀e,e<i→mz S e=false)
  ⟨⟨none,none,rfl⟩,aL.refl H0,fun e he=>absurd he (AE e)⟩ (fun i σ H' _ ⟨_,e,_⟩=>SqL.of (e _ _ na.lst)) ?_ ?_⟩
 ·rintro i x σ H' t hx ⟨⟨u,v,rfl⟩,sH,no⟩ ht
  have hi:i<S.pts.length:=by
   have:=(List.getElem?_eq_some_iff.mp hx).1;rw[Ab,na.len,bB] at this;exact this
  obtain⟨b,eb,gb,qb⟩:=na.get (i:=i) (by rw[bB];exact hi);rw[gb] at hx;obtain rfl:=Ac hx;rw[iS S hi] at qb;refine⟨t,_,rfl,SqT.of ag,rfl,_,_,rfl,_,_,rfl,rfl,?_⟩;have s1:=sH.trans (ah (o:=.tup [.int (i:Nat),.ref b]) ht);generalize upd H' t (.tup [.int (i:Nat),.ref b])=H1 at *
  refine⟨_,rfl,b,_,rfl,.inl (SqL.of (s1 _ _ qb)),_,_,rfl,rfl,_,rfl,?_⟩;rw[Ab];have e1:decide (((S.near i).length:Int)<2)=mz S i:=by
   unfold mz;exact aad _ 2
  rw[e1];refine bJ (fun z => ?_) (fun z => ?_)
  ·rw[aY hi z no] at q
   exact⟨_,rfl,d,dx,_,rfl,s1 _ _ (s0 _ _ hd.ob),rfl,_,rfl,d,_,rfl,q _ (s0.trans s1)⟩
  ·exact⟨⟨_,_,rfl⟩,s1,b7 no (Bool.eq_false_iff.mpr z)⟩
 ·rintro σ H' ⟨⟨u,v,rfl⟩,sH,no⟩
  rw[Ab,na.len,bB] at no;rw[ba no] at q;exact q _ (s0.trans sH)
end
def inn(bar:Option Nat)(z:List Nat×List Nat)(o:Nat):List Nat×List Nat:=if bar=some o∨o∈z.1 then z else (z.1++[o],z.2++[o])
def sst(a:List Nat×Array Bool)(j:Nat):List Nat×Array Bool:=if a.2.getD j true=true then a else (j::a.1,a.2.setIfInBounds j true)
structure Rl(n:Nat)(bar:Option Nat)(R:List Nat)(seen:Array Bool):Prop where
 sz:seen.size=n
 iff:∀j,j<n→(seen.getD j false=true↔(j∈R∨bar=some j))
theorem ael{a:Array Bool}{j:Nat}(h:j<a.size):a.getD j true=a.getD j false:=by
 rw[An,An,BE h];rfl
theorem aew{n:Nat}{bar:Option Nat}{R W todo:List Nat}{seen:Array Bool}(h:Rl n bar R seen)(hw:W=todo.reverse){o:Nat}(ho:o<n) :
  Rl n bar (inn bar (R,W) o).1 (sst (todo,seen) o).2∧(inn bar (R,W) o).2=(sst (todo,seen) o).1.reverse ∧
  (inn bar (R,W) o).1.length+todo.length=R.length+(sst (todo,seen) o).1.length:=by
 have k:=h.iff o ho;unfold inn sst;dsimp only;rw[ael (by rw[h.sz];exact ho)]
 by_cases c:bar=some o∨o∈R
 ·rw[Ag c,Ag (k.mpr c.symm)]
  exact⟨h,hw,rfl⟩
 ·rw[Ad c,Ad (fun z=>c ((k.mp z).symm))]
  refine⟨⟨by rw[Ba];exact h.sz,fun j hj => ?_⟩,?_,?_⟩
  ·by_cases e:j=o
   ·subst e
    have e1:(seen.setIfInBounds j true).getD j false=true:=by
     rw[An,Be (by rw[h.sz];exact hj)];rfl
    exact⟨fun _=>.inl (AL _ (List.mem_singleton.mpr rfl)),fun _=>e1⟩
   ·rw[An,AD (Ne.symm e),← An,h.iff j hj]
    constructor
    ·rintro(z|z)
     ·exact .inl (Bx _ z)
     ·exact .inr z
    ·rintro(z|z)
     ·rcases List.mem_append.mp z with y|y
      ·exact .inl y
      ·exact absurd (List.mem_singleton.mp y) e
     ·exact .inr z
  ·rw[CZ,hw]
  ·rw[Ai,Aq];simp only[Aq,B1];omega
theorem aab{n:Nat}{bar:Option Nat}:∀(os:List Nat) {R W todo:List Nat} {seen:Array Bool},Rl n bar R seen→W=todo.reverse→(∀o∈os,o<n) →
  Rl n bar (os.foldl (inn bar) (R,W)).1 (os.foldl sst (todo,seen)).2∧(os.foldl (inn bar) (R,W)).2=(os.foldl sst (todo,seen)).1.reverse ∧
  (os.foldl (inn bar) (R,W)).1.length+todo.length=R.length+(os.foldl sst (todo,seen)).1.length
 | [],_,_,_,_,h,hw,_=>⟨h,hw,rfl⟩
 | o::r,R,W,todo,seen,h,hw,ho=>by
  obtain⟨h1,h2,h3⟩:=aew h hw (ho o (Ah ..));obtain⟨k1,k2,k3⟩:=aab r (R:=(inn bar (R,W) o).1) (W:=(inn bar (R,W) o).2) (todo:=(sst (todo,seen) o).1) (seen:=(sst (todo,seen) o).2) h1 h2 (fun x hx=>ho x (Af _ hx));have e1:((inn bar (R,W) o).1,(inn bar (R,W) o).2)=inn bar (R,W) o:=rfl;have e2:((sst (todo,seen) o).1,(sst (todo,seen) o).2)=sst (todo,seen) o:=rfl;rw[e1,e2] at k1 k2 k3;exact⟨k1,k2,by rw[Bk,Bk];omega⟩
structure Rk(n:Nat)(bar:Option Nat)(R W:List Nat):Prop where
 nd:R.Nodup
 lt:∀j∈R,j<n
 sub:∀j∈W,j<n
 wl:W.length≤R.length
 nb:∀p,bar=some p→p ∉ R
theorem ac9{n:Nat}{bar:Option Nat}{R W:List Nat}(h:Rk n bar R W){o:Nat}(ho:o<n):Rk n bar (inn bar (R,W) o).1 (inn bar (R,W) o).2:=by
 unfold inn;dsimp only
 by_cases c:bar=some o∨o∈R
 ·rw[Ag c];exact h
 ·rw[Ad c]
  refine⟨tP h.nd fun z=>c (.inr z),fun j hj => ?_,fun j hj => ?_,by rw[Ai,Ai];have:=h.wl;simp only[Aq,B1];omega,fun p hp hm => ?_⟩
  ·rcases List.mem_append.mp hj with z|z
   ·exact h.lt j z
   ·rw[List.mem_singleton.mp z];exact ho
  ·rcases List.mem_append.mp hj with z|z
   ·exact h.sub j z
   ·rw[List.mem_singleton.mp z];exact ho
  ·rcases List.mem_append.mp hm with z|z
   ·exact h.nb p hp z
   ·exact c (.inl (by rw[hp,List.mem_singleton.mp z]))
theorem tm{n:Nat}{bar:Option Nat}:∀(os:List Nat) {R W:List Nat},Rk n bar R W→(∀o∈os,o<n)→Rk n bar (os.foldl (inn bar) (R,W)).1 (os.foldl (inn bar) (R,W)).2
 | [],_,_,h,_=>h
 | o::r,R,W,h,ho=>tm r (R:=(inn bar (R,W) o).1) (W:=(inn bar (R,W) o).2) (ac9 h (ho o (Ah ..))) (fun x hx=>ho x (Af _ hx))
theorem yS{bar:Option Nat}:∀(os:List Nat) (z:List Nat×List Nat),z.1.length≤(os.foldl (inn bar) z).1.length
 | [],z=>Ae _
 | o::r,z=>by
  refine AS ?_ (yS r (inn bar z o));unfold inn
  split
  ·exact Ae _
  ·rw[Ai];omega
theorem uK{n:Nat}{bar:Option Nat}{R W:List Nat}(h:Rk n bar R W):R.length≤n:=by
 have:=h.nd.length_le_of_subset (l₂:=List.range n) (fun j hj=>List.mem_range.mpr (h.lt j hj));rw[Au] at this;exact this
theorem tW(near:Array (List Nat))(f k:Nat)(r:List Nat)(seen:Array Bool):Gla.spread near (f+1) (k::r) seen=Gla.spread near f ((near.getD k []).foldl sst (r,seen)).1 ((near.getD k []).foldl sst (r,seen)).2:=rfl
theorem vW(near:Array (List Nat))(f:Nat)(seen:Array Bool):Gla.spread near f [] seen=seen:=by cases f <;> rfl
def dkV(R:List Nat):List (Key×V):=R.map fun(j:Nat)=>(Sum.inl (j:Int),V.bl true)
theorem qK(R:List Nat)(o:Nat):i5 (dkV R) (Sum.inl (o:Int))=if o∈R then some (.bl true) else Option.none:=by
 induction R with
 | nil=>rfl
 | cons a r ih =>
  by_cases e:a=o
  ·subst e
   rw[Ag (Ah ..)];exact bY (p:=(Sum.inl (a:Int),V.bl true)) rfl
  ·have:i5 (dkV (a::r)) (Sum.inl (o:Int))=i5 (dkV r) (Sum.inl (o:Int)):=bZ (p:=(Sum.inl (a:Int),V.bl true)) (fun z=>e (by have:=Sum.inl.inj z;omega))
   rw[this,ih]
   by_cases m:o∈r
   ·rw[Ag m,Ag (Af _ m)]
   ·rw[Ad m,Ad (fun z=>(List.mem_cons.mp z).elim (fun y=>e y.symm) m)]
theorem xp{R:List Nat}{o:Nat}(h:¬o∈R):putK (dkV R) (Sum.inl (o:Int)) (V.bl true)=dkV (R++[o]):=by
 rw[uz _ (by rw[qK,Ad h])];unfold dkV;rw[As];rfl
def vD(n:Nat)(bar:Option Nat)(s:Nat):Array Bool:=(match bar with
 | none=>Gla.noneSeen n
 | some p=>(Gla.noneSeen n).setIfInBounds p true).setIfInBounds s true
theorem aaN{n s:Nat}{bar:Option Nat}(hs:s<n)(hb:∀p,bar=some p→p<n):Rl n bar [s] (vD n bar s):=by
 have sz:∀b:Option Nat,(match b with|none=>Gla.noneSeen n|some p=>(Gla.noneSeen n).setIfInBounds p true).size=n:=by
  intro b;cases b with
  | none=>exact By
  | some p=>rw[Ba];exact By
 have no:∀j,j<n→(Gla.noneSeen n).getD j false=false:=by
  intro j hj;unfold Gla.noneSeen;rw[An,Cg,Ag hj];rfl
 refine⟨by unfold vD;rw[Ba];exact sz bar,fun j hj => ?_⟩;unfold vD
 by_cases e:j=s
 ·subst e
  rw[An,Be (by rw[sz bar];exact hj)];exact⟨fun _=>.inl (List.mem_singleton.mpr rfl),fun _=>rfl⟩
 ·rw[An,AD (Ne.symm e),← An]
  cases bar with
  | none =>
   dsimp only;rw[no j hj]
   constructor
   ·intro z;cases z
   ·rintro(z|z)
    ·exact absurd (List.mem_singleton.mp z) e
    ·cases z
  | some p =>
   dsimp only
   by_cases ep:j=p
   ·subst ep
    rw[An,Be (by unfold Gla.noneSeen;rw[By];exact hj)];exact⟨fun _=>.inr rfl,fun _=>rfl⟩
   ·rw[An,AD (Ne.symm ep),← An,no j hj]
    constructor
    ·intro z;cases z
    ·rintro(z|z)
     ·exact absurd (List.mem_singleton.mp z) e
     ·injection z with z;exact absurd z.symm ep
section
variable {P:Program}{w:World}{K:DG}{mg:DH}{base:Heap}{ad:Adr}
inductive mm(vs:List V)(H:Hp)(Q:VK)(E:XK):Prop
 | mk (a:Addr) (as:List Addr) (nl:List (List Nat)) (s:Nat) (bar:Option Nat) (c0:vs=[.ref a,.int s,aaD bar]) (c1:NA H a as nl) (c2:s<nl.length) (c3:nl.length<65536) (c4:bar≠some s) (c5:(∀p,bar=some p→p<nl.length)) (c6:(∀l∈nl,∀o∈l,o<nl.length)) (c7:∀H' r R,aL H H'→H' r=some (.dK (dkV R))→Rk nl.length bar R []→Rl nl.length bar R (Gla.spread nl.toArray (nl.length+1) [s] (vD nl.length bar s))→Q (.ref r) H'):mm vs H Q E
abbrev yW:Stmt:=(top 39)
theorem abj(D:Def K mg "reach" yW ["near","start","barred"]):Fn P w K mg base 1 "reach" ["near","start","barred"] mm:=by
 refine D.fx ["near","start","barred","reached","waiting","point","other"] ?_;rintro nd f cdv A outer s H vs Q E hr ⟨a,as,nl,st,bar,rfl,na,hs,hn,hb,hbp,hnl,q⟩;have hu:=nI hr;refine⟨_,(kxs 3 nd (aeh (aa3 (pv 1) kn aee) rfl rfl (by decide) (by decide)) (kxs 4 nd (aG (ab (pv 1) ak)) (aA (oN PassesOwn.never (aS (pv 4) (fun _=>rfl)) (kxs 5 nd (acO PySem.F.plainAttrs_list PySem.F.slot_list_pop PySem.F.type_list_pop acF (pv 4)) (aF (bC PassesOwn.never rfl (bU (kxI (pv 0) (pv 5))) (kxo 6 nd) (aF (di ((jH (kxn (pv 6) (pv 2)) (fA (ig (gk hu (pv 6) (pv 3)))))).pt (aA (pJ hu (pv 3) (pv 6) kn rfl) (aF (iM (kxA (pv 4) (pv 6))))) bb)))))) (kxr (pv 3))))),?_⟩;intro r hr0;refine⟨_,rfl,ag,[(Sum.inl (st:Int),.bl true)],rfl,by show 1≤15;decide,?_⟩;have er:upd (upd H r (.dK [])) r (.dK (n9 [] [(Sum.inl (st:Int),.bl true)]))=upd H r (.dK (dkV [st])):=by rw[bQ];rfl
 refine⟨_,rfl,by show 1≤sizeLine;decide,fun wt hw => ?_⟩;rw[er] at hw ⊢;have rw_ne:r≠wt:=aN (H:=upd H r (.dK (dkV [st]))) ag hw;have hw0:H wt=Option.none:=(ah hr0).free hw;dsimp only[o8,adW];refine pC (fun σ H'=>∃(R W todo:List Nat) (seen:Array Bool) (fu:Nat) (u v:Option V),σ=[some (.ref a),some (.int st),some (aaD bar),some (.ref r),some (.ref wt),u,v]∧aL H H'∧H' r=some (.dK (dkV R))∧H' wt=some (.lst (W.map eX)) ∧
   W=todo.reverse∧Rk nl.length bar R W∧Rl nl.length bar R seen∧Gla.spread nl.toArray (nl.length+1) [st] (vD nl.length bar st)=Gla.spread nl.toArray fu todo seen∧todo.length+(nl.length-R.length)<fu)
  (fun σ H'=>match H' wt,H' r with|some (.lst xs),some (.dK kvs)=>xs.length+2*(nl.length-kvs.length)|_,_=>0) ?_ ?_ ?_
 ·refine⟨[st],[st],[st],vD nl.length bar st,nl.length+1,none,none,rfl,aH (ah hr0) hw0,?_,ag,rfl,⟨by simp,fun j hj => ?_,fun j hj => ?_,Ae _,fun p hp hm=>hb (by rw[hp,List.mem_singleton.mp hm])⟩,aaN hs hbp,rfl,by simp;omega⟩
  ·rw[az rw_ne];exact ag
  ·rw[List.mem_singleton.mp hj];exact hs
  ·rw[List.mem_singleton.mp hj];exact hs
 ·rintro σ H' ⟨R,W,todo,seen,fu,u,v,rfl,sH,hR,hW,ew,rk,rl,esp,hf⟩
  refine⟨_,rfl,!(W.map eX).isEmpty,.inl ⟨_,SqL.of hW,rfl⟩,?_⟩;cases todo with
  | nil =>
   have:W=[]:=ew;subst this;refine fS ⟨_,rfl,?_⟩;rw[vW] at esp;rw[← esp] at rl;exact q _ r R sH hR ⟨rk.nd,rk.lt,fun j hj=>(nomatch hj),Av _,rk.nb⟩ rl
  | cons k rest =>
   have eW:W=rest.reverse++[k]:=by rw[ew,CZ]
   have hne:(!(W.map eX).isEmpty)=true:=by rw[eW,As];simp
   rw[hne];refine f6 ?_;have hk:k<nl.length:=rk.sub k (by rw[eW];exact AL _ (List.mem_singleton.mpr rfl));have eL:(W.map eX)=rest.reverse.map eX++[eX k]:=by rw[eW,As];rfl
   refine⟨_,rfl,.inl ⟨rfl,_,SqL.of hW⟩,wt,_,eX k,rfl,rfl,hW,?_,?_⟩
   ·rw[eL,Ai,Aq,B1,Nat.add_sub_cancel,Ao (Ae _),AO];rfl
   rw[eL,D4];obtain⟨p,fp,gp,hp⟩:=na.get hk;have s1:aL H (upd H' wt (.lst (rest.reverse.map eX))):=aH sH hw0;obtain⟨f',rfl⟩:∃f',fu=f'+1:=⟨fu-1,by omega⟩;have os_lt:∀o∈nl.getD k [],o<nl.length:=by
    intro o ho;refine hnl (nl.getD k []) ?_ o ho;rw[Aj,Aa hk];exact Bb hk
   have esp':=esp.trans (tW nl.toArray f' k rest seen);have eA:nl.toArray.getD k []=nl.getD k []:=by
    rw[An,Dz,Aj]
   rw[eA] at esp';have hR1:(upd H' wt (.lst (rest.reverse.map eX))) r=some (.dK (dkV R)):=by rw[az rw_ne];exact hR
   refine⟨_,rfl,_,rfl,a,_,_,_,rfl,rfl,SqL.of (s1 _ _ na.lst),aM gp,p,rfl,⟨_,SqL.of (s1 _ _ hp)⟩,dE (K:=K) (a:=p) (xs:=(nl.getD k []).map eX)
    (fun e σ H2=>(∃v,σ=[some (.ref a),some (.int st),some (aaD bar),some (.ref r),some (.ref wt),some (eX k),v])∧aL H H2∧H2 r=some (.dK (dkV (((nl.getD k []).take e).foldl (inn bar) (R,rest.reverse)).1))∧H2 wt=some (.lst ((((nl.getD k []).take e).foldl (inn bar) (R,rest.reverse)).2.map eX)))
    ⟨⟨_,rfl⟩,s1,hR1,ag⟩ (fun i σ H2 _ ⟨_,e,_⟩=>SqL.of (e _ _ hp)) ?_ ?_⟩
   ·rintro e x σ H2 hx ⟨⟨v,rfl⟩,s2,h2r,h2w⟩
    obtain⟨o,eo,rfl⟩:=mh hx;have om:o∈nl.getD k []:=A4 eo;have nxt:((nl.getD k []).take (e+1)).foldl (inn bar) (R,rest.reverse)=inn bar (((nl.getD k []).take e).foldl (inn bar) (R,rest.reverse)) o:=by
     rw[take_snoc eo,BY];rfl
    have rkE:Rk nl.length bar (((nl.getD k []).take e).foldl (inn bar) (R,rest.reverse)).1 (((nl.getD k []).take e).foldl (inn bar) (R,rest.reverse)).2 :=
     tm _ ⟨rk.nd,rk.lt,fun j hj=>rk.sub j (by rw[eW];exact Bx _ hj),by have:=rk.wl;rw[eW,Ai] at this;omega,rk.nb⟩ (fun o ho=>os_lt o (C9 ho))
    rw[nxt];generalize ((nl.getD k []).take e).foldl (inn bar) (R,rest.reverse)=z at *
    refine⟨_,rfl,_,rfl,by cases bar <;> rfl,_,rfl,bJ (fun c1 => ?_) (fun c1 => ?_)⟩
    ·have nb:bar≠some o:=by
      intro eb;rw[eb] at c1;simp[aaD] at c1
     refine⟨_,rfl,_,rfl,r,_,rfl,sO.k (k:=Sum.inl (o:Int)) h2r,_,rfl,?_⟩;rw[qK]
     by_cases mem:o∈z.1
     ·rw[Ag mem]
      refine fS ⟨⟨_,rfl⟩,s2,?_,?_⟩
      ·unfold inn;rw[Ag (.inr mem)];exact h2r
      ·unfold inn;rw[Ag (.inr mem)];exact h2w
     ·rw[Ad mem]
      refine f6 ⟨_,rfl,_,rfl,r,_,rfl,aaB.k (k:=Sum.inl (o:Int)) h2r (aZ (by unfold dkV;rw[Ab];have:=uK rkE;omega)),?_⟩;rw[xp mem];have s3:=aH (o:=.dK (dkV (z.1++[o]))) s2 hr0;have h3w:(upd H2 r (.dK (dkV (z.1++[o])))) wt=some (.lst (z.2.map eX)):=by rw[az (Ne.symm rw_ne)];exact h2w
      refine⟨_,rfl,.inl ⟨rfl,_,SqL.of h3w⟩,_,rfl,wt,_,_,rfl,rfl,h3w,?_,?_⟩
      ·exact aZ (by rw[Ab];have:=rkE.wl;have:=uK rkE;omega)
      ·refine⟨⟨_,rfl⟩,aH s3 hw0,?_,?_⟩
       ·unfold inn
        rw[Ad (fun y=>y.elim nb mem),az rw_ne];exact ag
       ·unfold inn
        rw[Ad (fun y=>y.elim nb mem),ag,As];rfl
    ·have eb:bar=some o:=by
      cases bar with
      | none=>exact absurd rfl c1
      | some b =>
       have:(o:Int)=(b:Int):=by simpa[aaD] using c1
       rw[show o=b by omega]
     refine fS ⟨⟨_,rfl⟩,s2,?_,?_⟩
     ·unfold inn;rw[Ag (.inl eb)];exact h2r
     ·unfold inn;rw[Ag (.inl eb)];exact h2w
   ·rintro σ H2 ⟨⟨v,rfl⟩,s2,h2r,h2w⟩
    rw[Ab,Bm] at h2r h2w;obtain⟨f1,f2,f3⟩:=aab (nl.getD k []) rl (W:=rest.reverse) (todo:=rest) rfl os_lt;have rk':=tm (bar:=bar) (nl.getD k []) (R:=R) (W:=rest.reverse) ⟨rk.nd,rk.lt,fun j hj=>rk.sub j (by rw[eW];exact Bx _ hj),by have:=rk.wl;rw[eW,Ai] at this;omega,rk.nb⟩ os_lt;have l0:R.length≤((nl.getD k []).foldl (inn bar) (R,rest.reverse)).1.length:=yS (bar:=bar) (nl.getD k []) (R,rest.reverse);have l1:=uK rk';have l2:=uK rk;have l3:rest.length+1+(nl.length-R.length)<f'+1:=hf;refine⟨⟨_,_,_,_,f',_,_,rfl,s2,h2r,h2w,f2,rk',f1,esp',by omega⟩,?_⟩;rw[h2w,h2r,hW,hR];dsimp only;rw[f2,eW];simp only[Ab,D6,Ai,Aq,B1,dkV];omega
 ·rintro σ H Q Q' hQ ⟨v,e,k,t,z⟩
  exact⟨v,e,k,t,hQ _ _ z⟩
end
theorem yC{S:Plan}(lk:rV S):∀l∈cP S,∀o∈l,o<(cP S).length:=by
 intro l hl o ho;rw[bB];obtain⟨i,_,rfl⟩:=List.mem_map.mp hl;unfold Plan.near at ho;obtain⟨m,hm,e⟩:=List.mem_filterMap.mp ho;have:=lk m hm
 split at e
 ·injection e with e;omega
 ·split at e
  ·injection e with e;omega
  ·cases e
section
variable {P:Program}{w:World}{K:DG}{mg:DH}{base:Heap}{ad:Adr}
def rN(S:Plan)(i:Nat):Bool := !((Gla.seenFrom S.nears S.pts.length 0 (Gla.noneSeen S.pts.length)).getD i false)
inductive zF(ad:Adr)(vs:List V)(H:Hp)(Q:VK)(E:XK):Prop
 | mk (d dx lp ll lm:Addr) (S:Plan) (c0:vs=[.ref d]) (c1:b0 ad H d S dx lp ll lm) (c2:rV S) (c3:2≤S.pts.length) (c4:S.pts.length<65536) (c5:S.lines.length<65536) (c6:∀H',aL H H'→Q (plV ((aQ S.pts.length (rN S)).map ace)) H'):zF ad vs H Q E
abbrev aci:Stmt:=(top 40)
theorem ad9(D:Def K mg "lone_point" aci ["drawing"])(T:Txt K mg ad)(aW:Fn P w K mg base 1 "neighbours" ["drawing"] (wd ad))(kG:Fn P w K mg base 1 "reach" ["near","start","barred"] mm)(aK:Me P w K mg base 1 ad.drawing "point_place" ["self","k"] acr) :
  Fn P w K mg base 2 "lone_point" ["drawing"] (zF ad):=by
 refine D.fx ["drawing","reached","k"] ?_;rintro nd f cdv A outer s H vs Q E hr ⟨d,dx,lp,ll,lm,S,rfl,hd,lk,h2,hn,hm,q⟩;have hu:=nI hr;obtain⟨ps,pl⟩:=hd.pts.pts;refine⟨_,(kxs 1 nd (kxF kG hr (ab (kxF aW hr (ab (pv 0) ak)) (ab ao (ab fT ak)))) (aA (bC PassesOwn.never rfl (qT (by rfl) T.fH (ab (kxL T.bD (ay (pv 0) rfl)) ak)) (kxo 2 nd) (aF (di (ig (gk hu (pv 2) (pv 1))) (kxr (jr (pv 0) aK (hr.mono (by decide)) (ab (pv 2) ak))) bb))) (kxr fT))),?_⟩;refine⟨_,rfl,d,dx,lp,ll,lm,S,rfl,hd,lk,hn,hm,fun H0 a as s0 na => ?_⟩;have NL:=bB S;refine⟨a,as,cP S,0,none,rfl,na,by omega,by omega,(fun z=>nomatch z),(fun p z=>nomatch z),yC lk,fun H1 r R s1 hR rk rl => ?_⟩;rw[NL] at rk rl;have key:∀i,i<S.pts.length→rN S i = !decide (i∈R):=by
  intro i hi;have:=rl.iff i hi;unfold rN
  congr 1
  by_cases c:i∈R
  ·rw[Ak c];exact this.mpr (.inl c)
  ·rw[Ax c]
   refine Bool.eq_false_iff.mpr fun z => ?_;rcases this.mp z with y|y
   ·exact c y
   ·cases y
 have sA:=s0.trans s1;refine⟨_,rfl,fl (sA _ _ hd.ob) T.draw qa ⟨lp,ps,rfl,.inl (SqL.of (sA _ _ pl.lst)),_,rfl,by omega,by rw[pl.len];omega,?_⟩⟩;rw[show((ps.length:Nat):Int).toNat=S.pts.length by rw[pl.len];omega];refine mv (fun i σ H'=>(∃v,σ=[some (.ref d),some (.ref r),v])∧H'=H1∧∀e,e<i→rN S e=false) ⟨⟨none,rfl⟩,rfl,fun e he=>absurd he (AE e)⟩ ?_ ?_
 ·rintro i σ H' hi ⟨⟨v,rfl⟩,rfl,no⟩
  rw[DE];refine⟨_,rfl,_,rfl,r,_,rfl,sO.k (k:=Sum.inl (i:Int)) hR,_,rfl,?_⟩;rw[qK]
  by_cases c:i∈R
  ·rw[Ag c]
   exact fS ⟨⟨_,rfl⟩,rfl,b7 no (by rw[key i hi,Ak c];rfl)⟩
  ·rw[Ad c]
   have bad:rN S i=true:=by rw[key i hi,Ax c];rfl
   rw[aY hi bad no] at q;exact f6 ⟨_,rfl,d,dx,_,rfl,sA _ _ hd.ob,rfl,_,rfl,d,_,rfl,q _ sA⟩
 ·rintro σ H' ⟨⟨v,rfl⟩,rfl,no⟩
  rw[ba no] at q;exact q _ sA
def qJ(S:Plan)(i:Nat):Bool:=Gla.cuts S.nears S.pts.length i
theorem abO{n k:Nat}{R:List Nat}{seen:Array Bool}(hk:k<n)(rk:Rk n (some k) R [])(rl:Rl n (some k) R seen):seen.contains false=decide ((R.length:Int)<(n:Int)-1):=by
 have nkR:=rk.nb k rfl;have nd1:(k::R).Nodup:=List.nodup_cons.mpr ⟨nkR,rk.nd⟩;have sub1:(k::R) ⊆ List.range n:=fun j hj=>by
  rcases List.mem_cons.mp hj with z|z
  ·rw[z];exact List.mem_range.mpr hk
  ·exact List.mem_range.mpr (rk.lt j z)
 have le1:=nd1.length_le_of_subset sub1;rw[Au,Aq] at le1
 by_cases c:(R.length:Int)<(n:Int)-1
 ·rw[Ak c]
  have ex:∃j,j<n∧j ∉ (k::R):=by
   refine Classical.byContradiction fun no => ?_;have sub2:List.range n ⊆ (k::R):=fun j hj=>Classical.byContradiction fun z=>no ⟨j,List.mem_range.mp hj,z⟩;have le2:=(Cc (n:=n)).length_le_of_subset sub2;rw[Au,Aq] at le2;omega
  obtain⟨j,hj,nj⟩:=ex;have f:seen.getD j false=false:=by
   refine Bool.eq_false_iff.mpr fun z=>nj ?_;rcases(rl.iff j hj).mp z with y|y
   ·exact Af _ y
   ·injection y with y;rw[y];exact Ah ..
  rw[Cy];rw[An,BE (by rw[rl.sz];exact hj)] at f;rw[show false=seen[j]'(by rw[rl.sz];exact hj) from f.symm];exact Array.getElem_mem _
 ·rw[Ax c]
  refine Bool.eq_false_iff.mpr fun z => ?_;rw[Cy] at z;obtain⟨j,hj,e⟩:=Array.mem_iff_getElem.mp z;rw[rl.sz] at hj;have nj:j ∉ (k::R):=fun m=>by
   have t:seen.getD j false=true:=(rl.iff j hj).mpr (by
    rcases List.mem_cons.mp m with y|y
    ·exact .inr (by rw[y])
    ·exact .inl y)
   rw[An,BE (by rw[rl.sz];exact hj)] at t;rw[Ds,e] at t;cases t
  have nd2:(j::k::R).Nodup:=List.nodup_cons.mpr ⟨nj,nd1⟩;have le3:=nd2.length_le_of_subset (l₂:=List.range n) (fun i hi=>by
   rcases List.mem_cons.mp hi with y|y
   ·rw[y];exact List.mem_range.mpr hj
   ·exact sub1 y)
  rw[Au,Aq,Aq] at le3;omega
inductive xy(ad:Adr)(vs:List V)(H:Hp)(Q:VK)(E:XK):Prop
 | mk (d dx lp ll lm:Addr) (S:Plan) (c0:vs=[.ref d]) (c1:b0 ad H d S dx lp ll lm) (c2:rV S) (c3:2≤S.pts.length) (c4:S.pts.length<65536) (c5:S.lines.length<65536) (c6:∀H',aL H H'→Q (plV ((aQ S.pts.length (qJ S)).map ace)) H'):xy ad vs H Q E
abbrev acL:Stmt:=(top 41)
theorem aey(D:Def K mg "only_link" acL ["drawing"])(T:Txt K mg ad)(aW:Fn P w K mg base 1 "neighbours" ["drawing"] (wd ad))(kG:Fn P w K mg base 1 "reach" ["near","start","barred"] mm)(aK:Me P w K mg base 1 ad.drawing "point_place" ["self","k"] acr) :
  Fn P w K mg base 2 "only_link" ["drawing"] (xy ad):=by
 refine D.fx ["drawing","near","k","start"] ?_;rintro nd f cdv A outer s H vs Q E hr ⟨d,dx,lp,ll,lm,S,rfl,hd,lk,h2,hn,hm,q⟩;have hu:=nI hr;obtain⟨ps,pl⟩:=hd.pts.pts;refine⟨_,(kxs 1 nd (kxF aW hr (ab (pv 0) ak)) (aA (bC PassesOwn.never rfl (qT (by rfl) T.fH (ab (kxL T.bD (ay (pv 0) rfl)) ak)) (kxo 2 nd) (kxs 3 nd (uU (kxq (pv 2) ao) ao ao) (aF (di (kxl (cT mL (by rfl) T.bD PySem.boot_len (ab (kxF kG hr (ab (pv 1) (ab (pv 3) (ab (pv 2) ak)))) ak)) (aP dX (kxL T.bD (ay (pv 0) rfl)) ao)) (kxr (jr (pv 0) aK (hr.mono (by decide)) (ab (pv 2) ak))) bb)))) (kxr fT))),?_⟩;refine⟨_,rfl,d,dx,lp,ll,lm,S,rfl,hd,lk,hn,hm,fun H0 a as s0 na => ?_⟩;have NL:=bB S;refine⟨_,rfl,fl (s0 _ _ hd.ob) T.draw qa ⟨lp,ps,rfl,.inl (SqL.of (s0 _ _ pl.lst)),_,rfl,by omega,by rw[pl.len];omega,?_⟩⟩;rw[show((ps.length:Nat):Int).toNat=S.pts.length by rw[pl.len];omega];refine mv (fun i σ H'=>(∃u v,σ=[some (.ref d),some (.ref a),u,v])∧aL H0 H'∧∀e,e<i→qJ S e=false) ⟨⟨none,none,rfl⟩,aL.refl H0,fun e he=>absurd he (AE e)⟩ ?_ ?_
 ·rintro i σ H' hi ⟨⟨u,v,rfl⟩,sH,no⟩
  rw[DE];have go:∀st:Nat,st=(if i=0 then 1 else 0)→∀(Q':VK),(∀H1 r R,aL H' H1→H1 r=some (.dK (dkV R))→qJ S i=decide ((R.length:Int)<(S.pts.length:Int)-1)→Q' (.ref r) H1)→mm [.ref a,.int (st:Int),.int (i:Int)] H' Q' E0:=by
   intro st est Q' hQ;refine⟨a,as,cP S,st,some i,rfl,na.same sH,by split at est <;> omega,by omega,by intro z;injection z with z;split at est <;> omega,by intro p z;injection z with z;omega,yC lk,fun H1 r R s1 hR rk rl=>hQ H1 r R s1 hR ?_⟩;rw[NL] at rk rl;rw[← abO hi rk rl,est];rfl
  refine⟨_,rfl,rfl,_,rfl,?_⟩;refine bJ (fun z => ?_) (fun z => ?_)
  ·have i0:i=0:=by
    have:=Al z;injection this with this;omega
   refine⟨_,rfl,_,rfl,_,rfl,tf <| go 1 (by rw[Ag i0]) _ fun H1 r R s1 hR hl => ?_⟩;have sB:=(s0.trans sH).trans s1;refine⟨r,_,rfl,hR,_,rfl,fl (sB _ _ hd.ob) T.draw qa ⟨lp,ps,rfl,.inl (SqL.of (sB _ _ pl.lst)),_,_,rfl,rfl,_,_,rfl,rfl,_,rfl,?_⟩⟩;have e1:(decide (((dkV R).length:Int)<(ps.length:Int)-1))=qJ S i:=by
    rw[hl,pl.len];unfold dkV;rw[Ab]
   rw[e1];refine bJ (fun y => ?_) (fun y => ?_)
   ·rw[aY hi y no] at q
    exact⟨_,rfl,d,dx,_,rfl,sB _ _ hd.ob,rfl,_,rfl,d,_,rfl,q _ sB⟩
   ·exact⟨⟨_,_,rfl⟩,sH.trans s1,b7 no (Bool.eq_false_iff.mpr y)⟩
  ·have i0:¬i=0:=fun y=>z (Ak (by rw[y];rfl))
   refine⟨_,rfl,_,rfl,_,rfl,tf <| go 0 (by rw[Ad i0]) _ fun H1 r R s1 hR hl => ?_⟩;have sB:=(s0.trans sH).trans s1;refine⟨r,_,rfl,hR,_,rfl,fl (sB _ _ hd.ob) T.draw qa ⟨lp,ps,rfl,.inl (SqL.of (sB _ _ pl.lst)),_,_,rfl,rfl,_,_,rfl,rfl,_,rfl,?_⟩⟩;have e1:(decide (((dkV R).length:Int)<(ps.length:Int)-1))=qJ S i:=by
    rw[hl,pl.len];unfold dkV;rw[Ab]
   rw[e1];refine bJ (fun y => ?_) (fun y => ?_)
   ·rw[aY hi y no] at q
    exact⟨_,rfl,d,dx,_,rfl,sB _ _ hd.ob,rfl,_,rfl,d,_,rfl,q _ sB⟩
   ·exact⟨⟨_,_,rfl⟩,sH.trans s1,b7 no (Bool.eq_false_iff.mpr y)⟩
 ·rintro σ H' ⟨⟨u,v,rfl⟩,sH,no⟩
  rw[ba no] at q;exact q _ (s0.trans sH)
end
open Geo (aq)
open Geo.Rules (orb ows)
def wkV(L:List (Nat×Nat)):List (List Key×V):=L.map fun(e:Nat×Nat)=>([Sum.inl (e.1:Int),Sum.inl (e.2:Int)],V.bl true)
def wkK(e:Nat×Nat):List Key := [Sum.inl (e.1:Int),Sum.inl (e.2:Int)]
theorem adC{e f:Nat×Nat}(h:wkK e=wkK f):e=f:=by
 unfold wkK at h;injection h with h1 h2
 injection h2 with h2 _
 have a:=Sum.inl.inj h1;have b:=Sum.inl.inj h2;exact Prod.ext (by omega) (by omega)
theorem x6(L:List (Nat×Nat))(e:Nat×Nat):i5 (wkV L) (wkK e)=if e∈L then some (.bl true) else Option.none:=by
 induction L with
 | nil=>rfl
 | cons a r ih =>
  by_cases h:a=e
  ·subst h
   rw[Ag (Ah ..)];exact bY (p:=(wkK a,V.bl true)) rfl
  ·have:i5 (wkV (a::r)) (wkK e)=i5 (wkV r) (wkK e):=bZ (p:=(wkK a,V.bl true)) (fun z=>h (adC z))
   rw[this,ih]
   by_cases m:e∈r
   ·rw[Ag m,Ag (Af _ m)]
   ·rw[Ad m,Ad (fun z=>(List.mem_cons.mp z).elim (fun y=>h y.symm) m)]
theorem ags{L:List (Nat×Nat)}{e:Nat×Nat}(h:¬e∈L):putK (wkV L) (wkK e) (V.bl true)=wkV (L++[e]):=by
 rw[uz _ (by rw[x6,Ad h])];unfold wkV;rw[As];rfl
def fG(H H':Hp)(d:Addr):Prop:=∀b o,H b=some o→b≠d→H' b=some o
theorem fG.trans{H H1 H2:Hp}{d:Addr}(a:fG H H1 d)(b:fG H1 H2 d):fG H H2 d:=fun c o e n=>b c o (a c o e n) n
theorem fG.of{H H':Hp}{d:Addr}(s:aL H H'):fG H H' d:=fun c o e _=>s c o e
theorem wQ{H H':Hp}{d:Addr}{o:HO}(s:fG H H' d):fG H (upd H' d o) d:=fun b u e n=>by rw[az n];exact s b u e n
theorem zu{H H':Hp}{d p:Addr}{o:HO}(s:fG H H' d)(h:H p=Option.none):fG H (upd H' p o) d:=fun b u e n=>by
 rw[az (aN e h)];exact s b u e n
theorem PL.ac4{H H':Hp}{a d dx:Addr}{pts:List Pt}{xs:List V}(h:PL H a pts xs)(s:fG H H' d){kvs:List (List Key×V)}(hd:H d=some (.dT kvs)):PL H' a pts xs :=
 ⟨s _ _ h.lst (bw h.lst hd),h.len,fun i hi=>let ⟨p,e1,e2⟩:=h.at_ i hi;⟨p,e1,s _ _ e2 (bw e2 hd)⟩⟩
theorem NA.ac4{H H':Hp}{a d:Addr}{as:List Addr}{nl:List (List Nat)}(h:NA H a as nl)(s:fG H H' d){kvs:List (List Key×V)}(hd:H d=some (.dT kvs)):NA H' a as nl :=
 ⟨s _ _ h.lst (bw h.lst hd),h.nd,h.ne,h.len,fun i p e=>s _ _ (h.at_ i p e) (bw (h.at_ i p e) hd)⟩
section
variable {P:Program}{w:World}{K:DG}{mg:DH}{base:Heap}{ad:Adr}
inductive zi(vs:List V)(H:Hp)(Q:VK)(E:XK):Prop
 | mk (a b d:Addr) (as:List Addr) (S:Plan) (xs:List V) (s:Nat×Nat) (Wd:List (Nat×Nat)) (c0:vs=[.ref a,.ref b,.int s.1,.int s.2,.ref d]) (c1:PL H a S.pts xs) (c2:SmP S.pts) (c3:NA H b as (cP S)) (c4:Geo.Rules S) (c5:s∈Gla.ways S) (c6:H d=some (.dT (wkV Wd))) (c7:(∀e∈ows S s,e ∉ Wd)) (c8:Wd.length≤200000) (c9:S.lines.length<65536) (c10:∀H' o,fG H H' d→H' d=some (.dT (wkV (Wd++ows S s)))→H o=none→H' o=some (.lst ((orb S s).map eX))→Q (.ref o) H'):zi vs H Q E
abbrev acE:Stmt:=(top 21)
theorem ck{n:Nat}(h:n<1000000):n<sizeLine:=by
 have:(1000000:Nat)<sizeLine:=by decide
 omega
theorem ac2(D:Def K mg "walk_round" acE ["points","near","first","second","walked"])(kH:Fn P w K mg base 3 "leftmost" ["points","others","here","there"] ahQ):Fn P w K mg base 4 "walk_round" ["points","near","first","second","walked"] zi:=by
 refine D.fx ["points","near","first","second","walked","outline","here","there","onward"] ?_;rintro nd f cdv A outer s H vs Q E hr ⟨a,b,d,as,S,xs,s,Wd,rfl,pl,sm,na,R,hs,hd,hW,hl,hm,q⟩;have hu:=nI hr;obtain⟨m,m0,em,hmin,eo,ew⟩:=R.cf hs;have lenW:m≤2*S.lines.length:=by
  have:(ows S s).length≤(Gla.ways S).length:=by
   refine AJ ?_ (fun e he=>R.mw hs he);rw[ew];have:=R.ok.f9 hs hmin (i:=0) (j:=m) (Ae _);rw[BP,← BI] at this;exact this
  rw[ew,Ab,Au,R.fo] at this;exact this
 have wayk:∀k,(aq S).it k s∈Gla.ways S:=fun k=>R.ok.bV hs k;refine⟨_,(kxs 5 nd (aG ak) (kxs 6 nd (pv 2) (kxs 7 nd (pv 3) (aA (oN PassesOwn.never (ig (gk hu (du (ab (pv 6) (ab (pv 7) ak))) (pv 4))) (aA (pJ hu (pv 4) (du (ab (pv 6) (ab (pv 7) ak))) kn rfl) (kxe (kxA (pv 5) (pv 6)) (kxs 8 nd (kxF kH hr (ab (pv 0) (ab (kxI (pv 1) (pv 7)) (ab (pv 6) (ab (pv 7) ak))))) (kxs 6 nd (pv 7) (aF (lV (i:=7) nd rfl (Or.inl rfl) (pv 8)))))))) (kxr (pv 5)))))),?_⟩;refine⟨Av _,fun o ho => ?_⟩;have od:o≠d:=Ne.symm (aN hd ho);refine⟨_,rfl,_,rfl,?_⟩;dsimp only[o8,adW];refine pC (fun σ H'=>∃(k:Nat) (v:Option V),k≤m∧σ=[some (.ref a),some (.ref b),some (.int s.1),some (.int s.2),some (.ref d),some (.ref o),some (.int ((aq S).it k s).1),some (.int ((aq S).it k s).2),v]∧fG H H' d ∧
   H' d=some (.dT (wkV (Wd++(List.range k).map fun j=>(aq S).it j s)))∧H' o=some (.lst (((List.range k).map fun j=>((aq S).it j s).1).map eX)))
  (fun σ H'=>match H' o with|some (.lst xs)=>m-xs.length|_=>0) ?_ ?_ ?_
 ·refine⟨0,none,Av _,rfl,fG.of (ah ho),?_,ag⟩
  rw[az (Ne.symm od)]
  simpa using hd
 ·rintro σ H' ⟨k,v,hk,rfl,sX,hd',ho'⟩
  refine⟨_,rfl,_,rfl,by show 2≤sizeLine;decide,fun t ht=>⟨_,rfl,d,_,rfl,sO.t (k:=wkK ((aq S).it k s)) (b:=t) (by rw[az (aN hd' ht)];exact hd') ag,_,rfl,?_⟩⟩;rw[x6];have s1:=ah (o:=.tup [.int (((aq S).it k s).1:Int),.int (((aq S).it k s).2:Int)]) ht
  by_cases c:k<m
  ·have nin:¬(aq S).it k s∈Wd++(List.range k).map fun j=>(aq S).it j s:=by
    intro z;rcases List.mem_append.mp z with y|y
    ·exact hW _ ((R.gh hs).mpr ⟨k,rfl⟩) y
    ·obtain⟨j,hj,ej⟩:=List.mem_map.mp y
     rw[AZ] at hj;exact hmin (k-j) (by omega) (by omega) (R.ok.oX hs (by omega) ej)
   rw[Ad nin];refine f6 ?_;have hd1:=s1 _ _ hd';have ho1:=s1 _ _ ho';have sX1:=sX.trans (fG.of s1);generalize upd H' t (.tup [.int (((aq S).it k s).1:Int),.int (((aq S).it k s).2:Int)])=H1 at *
   refine⟨_,rfl,_,rfl,_,rfl,by show 2≤sizeLine;decide,fun t2 ht2=>⟨d,_,rfl,aaB.t (k:=wkK ((aq S).it k s)) (b:=t2) (by rw[az (aN hd1 ht2)];exact hd1) ag ?_,?_⟩⟩
   ·unfold wkV
    rw[Ab,Ai,Ab,Au];exact ck (by omega)
   rw[ags nin];have s2:=ah (o:=.tup [.int (((aq S).it k s).1:Int),.int (((aq S).it k s).2:Int)]) ht2;have ho2:=s2 _ _ ho1;have sX2:=sX1.trans (fG.of s2);generalize upd H1 t2 (.tup [.int (((aq S).it k s).1:Int),.int (((aq S).it k s).2:Int)])=H2 at *
   have eW:(Wd++(List.range k).map fun j=>(aq S).it j s)++[(aq S).it k s]=Wd++(List.range (k+1)).map fun j=>(aq S).it j s:=by
    rw[Bj,As,Bt];rfl
   rw[eW];have ho3:(upd H2 d (.dT (wkV (Wd++(List.range (k+1)).map fun j=>(aq S).it j s)))) o=some (.lst (((List.range k).map fun j=>((aq S).it j s).1).map eX)):=by
    rw[az od];exact ho2
   refine⟨_,rfl,.inl ⟨rfl,_,SqL.of ho3⟩,_,rfl,o,_,_,rfl,rfl,ho3,?_,?_⟩
   ·rw[Ab,Ab,Au];exact ck (by omega)
   have sX3:fG H (upd (upd H2 d (.dT (wkV (Wd++(List.range (k+1)).map fun j=>(aq S).it j s)))) o (.lst ((((List.range k).map fun j=>((aq S).it j s).1).map eX)++[.int (((aq S).it k s).1:Int)]))) d :=
    zu (wQ sX2) ho
   have hd3:(upd (upd H2 d (.dT (wkV (Wd++(List.range (k+1)).map fun j=>(aq S).it j s)))) o (.lst ((((List.range k).map fun j=>((aq S).it j s).1).map eX)++[.int (((aq S).it k s).1:Int)]))) d=some (.dT (wkV (Wd++(List.range (k+1)).map fun j=>(aq S).it j s))):=by
    rw[az (Ne.symm od)];exact ag
   have ho4:(upd (upd H2 d (.dT (wkV (Wd++(List.range (k+1)).map fun j=>(aq S).it j s)))) o (.lst ((((List.range k).map fun j=>((aq S).it j s).1).map eX)++[.int (((aq S).it k s).1:Int)]))) o=some (.lst (((List.range (k+1)).map fun j=>((aq S).it j s).1).map eX)):=by
    rw[ag,Bj,As,As];rfl
   generalize (upd (upd H2 d (.dT (wkV (Wd++(List.range (k+1)).map fun j=>(aq S).it j s)))) o (.lst ((((List.range k).map fun j=>((aq S).it j s).1).map eX)++[.int (((aq S).it k s).1:Int)])))=H3 at *
   have wk:=wayk k;have wl:=R.bF (i:=((aq S).it k s).1) (j:=((aq S).it k s).2) wk;have na3:=na.ac4 sX3 hd;obtain⟨p,fp,gp,hp⟩:=na3.get (i:=((aq S).it k s).2) (by rw[bB];exact wl.2.1);rw[iS S wl.2.1] at hp;refine⟨_,rfl,_,rfl,_,rfl,b,_,_,_,rfl,rfl,SqL.of na3.lst,aM gp,_,rfl,_,rfl,a,p,S.pts,xs,S.near ((aq S).it k s).2,((aq S).it k s).1,((aq S).it k s).2,rfl,pl.ac4 (dx:=d) sX3 hd,sm,hp,wl.1,wl.2.1,fun x hx => ?_,?_⟩
   ·exact(R.bF (R.cU.mp hx)).2.1
   have en:aeE S.pts (S.near ((aq S).it k s).2) ((aq S).it k s).1 ((aq S).it k s).2=some ((aq S).it (k+1) s).2:=R.vZ wk;rw[en];refine⟨_,rfl,_,rfl,⟨k+1,_,c,rfl,sX3,hd3,ho4⟩,?_⟩;rw[ho4,ho'];simp only[Ab,Au];omega
  ·have km:k=m:=by omega
   subst km;have inn:(aq S).it k s∈Wd++(List.range k).map fun j=>(aq S).it j s:=by
    refine AL _ (List.mem_map.mpr ⟨0,List.mem_range.mpr m0,?_⟩);rw[em];rfl
   rw[Ag inn];refine fS ⟨_,rfl,?_⟩;refine q _ o (sX.trans (fG.of s1)) ?_ ho ?_
   ·rw[ew];exact s1 _ _ hd'
   ·rw[eo];exact s1 _ _ ho'
 ·rintro σ H Q Q' hQ ⟨v,e,v',e',hl,h⟩
  refine⟨v,e,v',e',hl,fun p hp => ?_⟩;obtain⟨v2,e2,a2,o2,x2,g2,c2,y2,z⟩:=h p hp;exact⟨v2,e2,a2,o2,x2,g2,c2,y2,hQ _ _ z⟩
end
end Gs
namespace Gs
open PySem PySem.Spec PyProof.Rows L2
open Gla (Plan Pt Mark)
open Geo.Rules (prs)
abbrev ptO(pts:List Pt)(k:Nat):HO:=.tup [.int ((pts.getD k ⟨0,0⟩).x:Int),.int ((pts.getD k ⟨0,0⟩).y:Int)]
structure SD(H:Hp)(l:Addr)(pts:List Pt)(o:List Nat)(ts:List Addr):Prop where
 lst:H l=some (.lst (ts.map V.ref))
 len:ts.length=(prs o).length
 at_:∀(j:Nat) (t:Addr) (e:Nat×Nat),ts[j]? = some t→(prs o)[j]? = some e→∃p q,H t=some (.tup [.ref p,.ref q])∧H p=some (ptO pts e.1)∧H q=some (ptO pts e.2)
theorem SD.same{H H':Hp}{l:Addr}{pts:List Pt}{o:List Nat}{ts:List Addr}(h:SD H l pts o ts)(s:aL H H'):SD H' l pts o ts :=
 ⟨s _ _ h.lst,h.len,fun j t e e1 e2=>let ⟨p,q,a,b,c⟩:=h.at_ j t e e1 e2;⟨p,q,s _ _ a,s _ _ b,s _ _ c⟩⟩
theorem zS(o:List Nat):(prs o).length=o.length:=by
 unfold prs;rw[CD,Ai,Bl,A2];omega
theorem uF(xs:List V)(a:Nat):kS xs (some (a:Int)) Option.none=xs.drop a:=by
 have h:=oP xs a xs.length;have e:kS xs (some (a:Int)) Option.none=kS xs (some (a:Int)) (some (xs.length:Int)):=by
  unfold kS;rw[HT.mj,HT.mj,DF];rfl
 rw[e,h,AK (by rw[Bl];omega)]
section
variable {X:Cx}{K:DG}
theorem ur(hK:X.K=K):IxR X (af5 K):=by subst hK;exact zm
theorem sj(hK:X.K=K):IxR X (agD K):=by subst hK;exact acz
end
section
variable {P:Program}{w:World}{K:DG}{mg:DH}{base:Heap}{ad:Adr}
inductive oY(vs:List V)(H:Hp)(Q:VK)(E:XK):Prop
 | mk (a b:Addr) (pts:List Pt) (xs:List V) (o:List Nat) (c0:vs=[.ref a,.ref b]) (c1:PL H a pts xs) (c2:H b=some (.lst (o.map eX))) (c3:(∀k∈o,k<pts.length)) (c4:o.length<1000000) (c5:∀H' l ts,aL H H'→H l=none→SD H' l pts o ts→Q (.ref l) H'):oY vs H Q E
abbrev yn:Stmt:=(top 25)
theorem abg(D:Def K mg "sides" yn ["points","outline"])(T:Txt K mg ad):Fn P w K mg base 1 "sides" ["points","outline"] oY:=by
 refine D.fx ["points","outline","k","corners"] ?_;rintro nd f cdv A outer s H vs Q E hr ⟨a,b,pts,xs,o,rfl,pl,hb,hk,hl,q⟩;have hu:=nI hr;refine⟨_,(aA (dD (i:=3) rfl nd rfl rfl rfl (bU (pv 1)) (ff (own := [("k",2)]) rfl) (fun _ _ _ _ _=>(kxo 2 nd)) (fun _ _ _ _ _=>dh) (fun _ _ _ _ _=>(sS (ur (K:=K) rfl) (pv 0) (pv 2) (fun _ _=>rfl)))) (kxr (vQ rfl (by rfl) T.aeG (by rfl) T.acU (ab (pv 3) (ab (aP qN (fE iV (pv 3) (d9 ao) oV) (fE iV (pv 3) oV (d9 ao))) ak))))),?_⟩;have vl:∀i,i<o.length→∃k p,o[i]? = some k∧xs[k]? = some (.ref p)∧H p=some (ptO pts k):=fun i hi=>by
  have hm:=hk o[i] (Bb hi);obtain⟨p,e1,e2⟩:=pl.at_ _ hm;exact⟨o[i],p,Aa hi,e1,e2⟩
 refine⟨_,rfl,b,rfl,⟨_,SqL.of hb⟩,fun c hc => ?_⟩;refine kq (J:=Itl K b) c o.length (fun i H'=>aL H H'∧H' c=some (.lst ((o.take i).map fun k=>(xs[k]?).getD .non)))
  ⟨ah hc,ag⟩ ?_ ?_ ?_
 ·rintro i H' hi ⟨sH,_⟩
  obtain⟨k,p,e,_⟩:=vl i hi;exact⟨_,.int (k:Int),SqL.of (sH _ _ hb),by rw[Am,e];rfl⟩
 ·rintro i x H' H2 hi ⟨sH,hc'⟩ ⟨rfl,hx⟩
  obtain⟨k,p,e,e1,e2⟩:=vl i hi;have ex:=hx _ (SqL.of (sH _ _ hb));rw[Am,e] at ex;obtain rfl:V.int (k:Int)=x:=Ac ex;refine⟨rfl,lA ⟨_,rfl,_,rfl,a,_,_,_,rfl,rfl,SqL.of (sH _ _ pl.lst),aM e1,_,hc',?_,aH sH hc,?_⟩⟩
  ·rw[Ab,A2];exact ck (by omega)
  ·rw[ag,take_snoc e,As,BS,e1];rfl
 ·rintro H' ⟨sH,hc'⟩
  rw[AK (Ae _)] at hc';refine⟨⟨_,SqL.of (sH _ _ hb),by rw[Ab];exact Ae _⟩,?_⟩;generalize hcs:(o.map fun k=>(xs[k]?).getD .non)=cs at hc';have lc:cs.length=o.length:=by rw[← hcs,Ab]
  refine⟨_,rfl,_,rfl,_,rfl,c,cs,rfl,SqL.of hc',fun l1 h1 => ?_⟩;have s1:=ah (o:=.lst (kS cs (some 1) Option.none)) h1;refine⟨_,rfl,_,rfl,c,cs,rfl,SqL.of (s1 _ _ hc'),fun l2 h2 => ?_⟩;have s2:=ah (o:=.lst (kS cs Option.none (some 1))) h2;have g1:(upd (upd H' l1 (.lst (kS cs (some 1) Option.none))) l2 (.lst (kS cs Option.none (some 1)))) l1=some (.lst (cs.drop 1)):=by
   rw[s2 _ _ ag];exact congrArg (fun z=>some (HO.lst z)) (uF cs 1)
  have g2:(upd (upd H' l1 (.lst (kS cs (some 1) Option.none))) l2 (.lst (kS cs Option.none (some 1)))) l2=some (.lst (cs.take 1)):=by
   rw[ag];exact congrArg (fun z=>some (HO.lst z)) (ab5 cs 1)
  have sH2:=(sH.trans s1).trans s2;have hc2:=s2 _ _ (s1 _ _ hc');generalize (upd (upd H' l1 (.lst (kS cs (some 1) Option.none))) l2 (.lst (kS cs Option.none (some 1))))=H2 at *
  have lz:(cs.drop 1).length+(cs.take 1).length=cs.length:=by rw[Bl,A2];omega
  refine⟨l1,l2,_,_,rfl,rfl,g1,g2,?_,fun p hp => ?_⟩
  ·rw[lz,lc];exact Br (ck hl)
  have s3:=ah (o:=.lst (cs.drop 1++cs.take 1)) hp;have hc3:=s3 _ _ hc2;have hp3:(upd H2 p (.lst (cs.drop 1++cs.take 1))) p=some (.lst (cs.drop 1++cs.take 1)):=ag;have sH3:=sH2.trans s3;generalize (upd H2 p (.lst (cs.drop 1++cs.take 1)))=H3 at *
  refine⟨c,p,cs,_,rfl,SqL.of hc3,SqL.of hp3,hc3,hp3,?_,fun l H4 ts hln sm hL ht hts => ?_⟩
  ·rw[Ai,lz]
  have hlH:H l=Option.none:=by
   cases e:H l with
   | none=>rfl
   | some u=>rw[sH3 _ _ e] at hln;cases hln
  refine q H4 l ts (sH3.trans sm) hlH ⟨hL,by rw[ht,zS,lc],fun j t e ej ee => ?_⟩;have hj:j<o.length:=by
   have:=(List.getElem?_eq_some_iff.mp ee).1;rw[zS] at this;exact this
  have em:cs.zip (cs.drop 1++cs.take 1)=(prs o).map fun e=>((xs[e.1]?).getD .non,(xs[e.2]?).getD .non):=by
   unfold prs;rw[← hcs,← C7,← Ci,← As,List.zip_map];rfl
  have ez:(cs.zip (cs.drop 1++cs.take 1))[j]? = some ((xs[e.1]?).getD .non,(xs[e.2]?).getD .non):=by rw[em,Am,ee];rfl
  rw[List.getElem?_zip_eq_some] at ez;have me:=A4 ee;have m1:e.1∈o:=(Cj me).1;have m2:e.2∈o:=by
   have:=(Cj me).2;rcases List.mem_append.mp this with z|z
   ·exact List.mem_of_mem_drop z
   ·exact C9 z
  obtain⟨p1,a1,b1⟩:=pl.at_ _ (hk _ m1);obtain⟨p2,a2,b2⟩:=pl.at_ _ (hk _ m2);have:=hts j t _ _ ej ez.1 ez.2;rw[a1,a2] at this;exact⟨p1,p2,this,sm _ _ (sH3 _ _ b1),sm _ _ (sH3 _ _ b2)⟩
end
def ptX(pts:List Pt)(k:Nat):Int:=((pts.getD k ⟨0,0⟩).x:Int)
def ptY(pts:List Pt)(k:Nat):Int:=((pts.getD k ⟨0,0⟩).y:Int)
def uR(pts:List Pt)(a:Int)(e:Nat×Nat):Int:=a+ptX pts e.1*ptY pts e.2-ptY pts e.1*ptX pts e.2
def arZ(pts:List Pt)(o:List Nat):Int:=(prs o).foldl (uR pts) 0
theorem afA(S:Plan)(o:List Nat):arZ S.pts o=Gla.twiceArea S o:=by
 have go:∀(l:List (Nat×Nat)) (a:Int),l.foldl (uR S.pts) a=a+(l.map fun(x:Nat×Nat)=>((S.pt x.1).x:Int)*((S.pt x.2).y:Int)-((S.pt x.2).x:Int)*((S.pt x.1).y:Int)).foldr (fun(a b:Int)=>a+b) 0:=by
  intro l
  induction l with
  | nil=>intro a;simp
  | cons e l ih =>
   intro a;rw[Bk,ih,A3,List.foldr_cons];unfold uR ptX ptY Plan.pt;rw[A9 ((S.pts.getD e.1 ⟨0,0⟩).y:Int)];omega
 unfold arZ;rw[go];unfold Gla.twiceArea prs;rw[DE]
def pass(pts:List Pt)(zx zy:Int)(e:Nat×Nat):Bool :=
 (decide (ptY pts e.1≤zy) != decide (ptY pts e.2≤zy))&&(if ptY pts e.1<ptY pts e.2 then decide (0<nG (ptX pts e.1) (ptY pts e.1) (ptX pts e.2) (ptY pts e.2) zx zy) else decide (nG (ptX pts e.1) (ptY pts e.1) (ptX pts e.2) (ptY pts e.2) zx zy<0))
def inZ(pts:List Pt)(o:List Nat)(zx zy:Int):Bool:=(prs o).foldl (fun b e=>if pass pts zx zy e=true then !b else b) false
theorem uM{α:Type}(p:α→Bool):∀(l:List α) (b:Bool),l.foldl (fun b e=>if p e=true then !b else b) b=(b != decide ((l.filter p).length % 2=1))
 | [],b=>by simp
 | e::l,b=>by
  rw[Bk,uM p l]
  by_cases h:p e=true
  ·rw[Ag h,AH h,Aq]
   have:(decide (((l.filter p).length+1) % 2=1)) = !decide ((l.filter p).length % 2=1):=by
    rcases Nat.mod_two_eq_zero_or_one (l.filter p).length with q|q
    ·rw[q,show((l.filter p).length+1) % 2=1 by omega];rfl
    ·rw[q,show((l.filter p).length+1) % 2=0 by omega];rfl
   rw[this];cases b <;> cases decide ((l.filter p).length % 2=1) <;> rfl
  ·rw[Ad h,AQ h]
theorem abA(S:Plan)(i j:Nat)(z:Pt):nG (ptX S.pts i) (ptY S.pts i) (ptX S.pts j) (ptY S.pts j) (z.x:Int) (z.y:Int)=Gla.turn (S.pt i) (S.pt j) z:=rfl
theorem acx(S:Plan)(o:List Nat)(z:Pt):inZ S.pts o (z.x:Int) (z.y:Int)=Gla.insideOf S o z:=by
 unfold inZ;rw[uM,Bool.false_bne];unfold Gla.insideOf;have e:(prs o).filter (pass S.pts (z.x:Int) (z.y:Int))=(o.zip (o.drop 1++o.take 1)).filter fun(x:Nat×Nat) =>
   let p:=S.pt x.1
   let q:=S.pt x.2
   (decide (p.y≤z.y)&&(decide (z.y<q.y)&&decide (0<Gla.turn p q z)))||(decide (q.y≤z.y)&&(decide (z.y<p.y)&&decide (Gla.turn p q z<0))):=by
  unfold prs;refine List.filter_congr fun x _ => ?_;unfold pass;rw[abA];have y1:ptY S.pts x.1=((S.pt x.1).y:Int):=rfl;have y2:ptY S.pts x.2=((S.pt x.2).y:Int):=rfl;rw[y1,y2];dsimp only;generalize Gla.turn (S.pt x.1) (S.pt x.2) z=t;generalize (S.pt x.1).y=a;generalize (S.pt x.2).y=b;rw[AM];simp only[Ar,BU,Ap,bne_iff_ne,ne_eq,decide_eq_decide]
  by_cases h:(a:Int)<b
  ·rw[Ag h]
   simp only[Ap];omega
  ·rw[Ad h]
   simp only[Ap];omega
 rw[e]
section
variable {P:Program}{w:World}{K:DG}{mg:DH}{base:Heap}{ad:Adr}
inductive yf(vs:List V)(H:Hp)(Q:VK)(E:XK):Prop
 | mk (a b:Addr) (pts:List Pt) (xs:List V) (o:List Nat) (c0:vs=[.ref a,.ref b]) (c1:PL H a pts xs) (c2:SmP pts) (c3:H b=some (.lst (o.map eX))) (c4:(∀k∈o,k<pts.length)) (c5:o.length<1000000) (c6:∀H',aL H H'→Q (.bl (decide (0<arZ pts o))) H'):yf vs H Q E
abbrev acq:Stmt:=(top 24)
theorem acD{H:Hp}{l:Addr}{pts:List Pt}{o:List Nat}{ts:List Addr}(h:SD H l pts o ts){i:Nat}{x:V}(hx:(ts.map V.ref)[i]? = some x):∃t e p q,x=.ref t∧(prs o)[i]? = some e∧H t=some (.tup [.ref p,.ref q])∧H p=some (ptO pts e.1)∧H q=some (ptO pts e.2):=by
 rw[Am] at hx;cases et:ts[i]? with
 | none=>rw[et] at hx;cases hx
 | some t =>
  rw[et] at hx;have hi:=(List.getElem?_eq_some_iff.mp et).1;rw[h.len] at hi;obtain⟨p,q,a,b,c⟩:=h.at_ i t _ et (Aa hi);exact⟨t,_,p,q,(Ac hx).symm,Aa hi,a,b,c⟩
theorem acY(D:Def K mg "runs_to_the_left" acq ["points","outline"])(kI:Fn P w K mg base 1 "sides" ["points","outline"] oY):Fn P w K mg base 2 "runs_to_the_left" ["points","outline"] yf:=by
 refine D.fx ["points","outline","area","p","q"] ?_;rintro nd f cdv A outer s H vs Q E hr ⟨a,b,pts,xs,o,rfl,pl,sm,hb,hk,hl,q⟩;refine⟨_,(kxs 2 nd ao (aA (bC PassesOwn.never rfl (bU (kxF kI hr (ab (pv 0) (ab (pv 1) ak)))) (dv rfl (aJ (kxo 3 nd) (aJ (kxo 4 nd) b8))) (aF (lV (i:=2) nd rfl (Or.inl rfl) (aP dX (aP aT (pv 2) (aP dr (kxT (pv 3) ao) (kxT (pv 4) ao))) (aP dr (kxT (pv 3) ao) (kxT (pv 4) ao)))))) (kxr (aX lD (pv 2) ao (a8 _))))),?_⟩;refine⟨_,rfl,_,rfl,a,b,pts,xs,o,rfl,pl,hb,hk,hl,fun H1 l ts s1 hln sd => ?_⟩;refine⟨l,rfl,⟨_,SqL.of sd.lst⟩,dE (K:=K) (a:=l) (xs:=ts.map V.ref) (fun i σ H'=>(∃u v,σ=[some (.ref a),some (.ref b),some (.int (((prs o).take i).foldl (uR pts) 0)),u,v])∧H'=H1)
  ⟨⟨none,none,rfl⟩,rfl⟩ (fun i σ H' _ ⟨_,e⟩=>by rw[e];exact SqL.of sd.lst) ?_ ?_⟩
 ·rintro i x σ H' hx ⟨⟨u,v,rfl⟩,rfl⟩
  obtain⟨t,e,p,r,rfl,ee,ht,hp,hr2⟩:=acD sd hx;refine⟨t,_,rfl,SqT.of ht,rfl,_,_,rfl,_,_,rfl,rfl,?_⟩;have a1:=sm.at_ e.1;refine⟨_,rfl,dG (j:=0) rfl (SqT.of hp) rfl (dG (j:=1) rfl (SqT.of hr2) rfl ⟨_,_,rfl,rfl,ack a1.1,_,_,rfl,rfl,?_⟩)⟩;refine dG (j:=1) rfl (SqT.of hp) rfl (dG (j:=0) rfl (SqT.of hr2) rfl ⟨_,_,rfl,rfl,ack a1.2,_,_,rfl,rfl,?_⟩);refine⟨⟨some (.ref p),some (.ref r),?_⟩,rfl⟩;rw[take_snoc ee,BY];rfl
 ·rintro σ H' ⟨⟨u,v,rfl⟩,rfl⟩
  rw[Ab,sd.len,Bm];exact⟨_,rfl,_,_,rfl,rfl,q _ s1⟩
inductive aes(K:DG)(vs:List V)(H:Hp)(Q:VK)(E:XK):Prop
 | mk (m l:Addr) (zx zy:Int) (pts:List Pt) (o:List Nat) (ts:List Addr) (c0:vs=[.ref m,.ref l]) (c1:vi K H m zx zy) (c2:SD H l pts o ts) (c3:SmP pts) (c4:Q (.bl (inZ pts o zx zy)) H):aes K vs H Q E
abbrev afd:Stmt:=(top 26)
theorem afY(D:Def K mg "is_inside" afd ["mark","outline_sides"])(fJ:Fn P w K mg base 2 "is_right_of" ["mark","p","q"] (tS K)):Fn P w K mg base 3 "is_inside" ["mark","outline_sides"] (aes K):=by
 refine D.fx ["mark","outline_sides","inside","p","q"] ?_;rintro nd f cdv A outer s H vs Q E hr ⟨m,l,zx,zy,pts,o,ts,rfl,hm,sd,sm,q⟩;obtain⟨ms,hms,mx,my⟩:=id hm;refine⟨_,(kxs 2 nd kn (aA (bC PassesOwn.never rfl (bU (pv 1)) (dv rfl (aJ (kxo 3 nd) (aJ (kxo 4 nd) b8))) (aF (di ((jH (kxn (aX pT (kxT (pv 3) ao) (kxT (pv 0) ao) (a8 _)) (aX pT (kxT (pv 4) ao) (kxT (pv 0) ao) (a8 _))) (fA (aS (kxF fJ hr (ab (pv 0) (ab (pv 3) (ab (pv 4) ak)))) (fun _=>rfl))))).pt (aF (lV (i:=2) nd rfl (Or.inl rfl) (afx (pv 2)))) bb))) (kxr (pv 2)))),?_⟩;refine⟨_,rfl,l,rfl,⟨_,SqL.of sd.lst⟩,dE (K:=K) (a:=l) (xs:=ts.map V.ref) (fun i σ H'=>(∃u v,σ=[some (.ref m),some (.ref l),some (.bl (((prs o).take i).foldl (fun b e=>if pass pts zx zy e=true then !b else b) false)),u,v])∧H'=H)
  ⟨⟨none,none,rfl⟩,rfl⟩ (fun i σ H' _ ⟨_,e⟩=>by rw[e];exact SqL.of sd.lst) ?_ ?_⟩
 ·rintro i x σ H' hx ⟨⟨u,v,rfl⟩,rfl⟩
  obtain⟨t,e,p,r,rfl,ee,ht,hp,hr2⟩:=acD sd hx;have a1:=sm.at_ e.1;have a2:=sm.at_ e.2;refine⟨t,_,rfl,SqT.of ht,rfl,_,_,rfl,_,_,rfl,rfl,?_⟩;have nxt:∀b:Bool,(if pass pts zx zy e=true then !(((prs o).take i).foldl (fun b e=>if pass pts zx zy e=true then !b else b) false) else ((prs o).take i).foldl (fun b e=>if pass pts zx zy e=true then !b else b) false)=b →
    ((prs o).take (i+1)).foldl (fun b e=>if pass pts zx zy e=true then !b else b) false=b:=by
   intro b eb;rw[take_snoc ee,BY];exact eb
  refine dG (j:=1) rfl (SqT.of hp) rfl (dG rfl hms my ⟨_,_,rfl,rfl,dG (j:=1) rfl (SqT.of hr2) rfl (dG rfl hms my ⟨_,_,rfl,rfl,rfl,_,rfl,?_⟩)⟩);rw[aiK];refine bJ (fun z => ?_) (fun z => ?_)
  ·have z':(decide (ptY pts e.1≤zy) != decide (ptY pts e.2≤zy))=true:=by simpa[ptY] using z
   refine⟨_,rfl,_,rfl,_,rfl,m,p,r,zx,zy,ptX pts e.1,ptY pts e.1,ptX pts e.2,ptY pts e.2,rfl,hm,.of2 hp,.of2 hr2,a1.1,a1.2,a2.1,a2.2,_,rfl,bJ (fun y => ?_) (fun y => ?_)⟩
   ·have py:pass pts zx zy e=true:=by unfold pass;rw[z',y];rfl
    refine⟨_,rfl,_,rfl,⟨some (.ref p),some (.ref r),?_⟩,rfl⟩;rw[nxt _ (by rw[Ag py])];rfl
   ·have py:¬pass pts zx zy e=true:=by unfold pass;rw[z',AU];exact y
    refine⟨⟨some (.ref p),some (.ref r),?_⟩,rfl⟩;rw[nxt _ (by rw[Ad py])];rfl
  ·have z':(decide (ptY pts e.1≤zy) != decide (ptY pts e.2≤zy))=false:=by simpa[ptY] using z
   have py:¬pass pts zx zy e=true:=by unfold pass;rw[z',A5];exact Az
   refine fS ⟨⟨some (.ref p),some (.ref r),?_⟩,rfl⟩;rw[nxt _ (by rw[Ad py])];rfl
 ·rintro σ H' ⟨⟨u,v,rfl⟩,rfl⟩
  rw[Ab,sd.len,Bm];exact⟨_,rfl,q⟩
end
end Gs
namespace Gs
open PySem PySem.Spec PyProof.Rows L2
open Gla (Plan Pt Mark)
open Geo (aq)
open Geo.Rules (prs orb ows cX de bK)
def wH(S:Plan)(i:Nat):List (Nat×Nat):=(List.range i).flatMap fun u=>(S.near u).map fun v=>(u,v)
theorem rM(S:Plan)(i:Nat):wH S (i+1)=wH S i++(S.near i).map fun v=>(i,v):=by
 unfold wH;rw[Bj,Bc];simp
theorem vT{S:Plan}{i j v:Nat}(hi:i<S.pts.length)(hv:(S.near i)[j]? = some v):∃rest,de S=(wH S i++((S.near i).take j).map fun v=>(i,v))++(i,v)::rest:=by
 have e1:List.range S.pts.length=List.range (i+1)++(List.range S.pts.length).drop (i+1):=by
  conv=>lhs;rw[← D2 (i+1) (List.range S.pts.length)]
  rw[List.take_range,B2 (by omega)]
 obtain⟨hj,ev⟩:=List.getElem?_eq_some_iff.mp hv;have e2:S.near i=(S.near i).take j++v::(S.near i).drop (j+1):=by
  conv=>lhs;rw[← D2 j (S.near i)]
  rw[AI hj,ev]
 refine⟨((S.near i).drop (j+1)).map (fun v=>(i,v))++((List.range S.pts.length).drop (i+1)).flatMap (fun u=>(S.near u).map fun v=>(u,v)),?_⟩;unfold de;rw[e1,Bc];show wH S (i+1)++_=_;rw[rM]
 conv=>lhs;rw[e2]
 simp[Bt]
structure FI(S:Plan)(Pfx Wd:List (Nat×Nat)):Prop where
 mem:∀e,e∈Wd↔∃s∈Pfx,e∈ows S s
 nd:Wd.Nodup
theorem lT{S:Plan}(R:Geo.Rules S){s:Nat×Nat}(hs:s∈Gla.ways S):(ows S s).Nodup:=by
 obtain⟨m,m0,em,hmin,eo,ew⟩:=R.cf hs;rw[ew];have:=R.ok.f9 hs hmin (i:=0) (j:=m) (Ae _);rw[BP,← BI] at this;exact this
theorem FI.way{S:Plan}(R:Geo.Rules S){Pfx Wd:List (Nat×Nat)}(F:FI S Pfx Wd)(hP:∀s∈Pfx,s∈Gla.ways S){e:Nat×Nat}(he:e∈Wd):e∈Gla.ways S:=by
 obtain⟨s,hs,h⟩:=(F.mem e).mp he;exact R.mw (hP s hs) h
theorem FI.len{S:Plan}(R:Geo.Rules S){Pfx Wd:List (Nat×Nat)}(F:FI S Pfx Wd)(hP:∀s∈Pfx,s∈Gla.ways S):Wd.length≤2*S.lines.length:=by
 rw[← R.fo];exact AJ F.nd fun e he=>F.way R hP he
theorem FI.step{S:Plan}(R:Geo.Rules S){Pfx Wd rest:List (Nat×Nat)}{s:Nat×Nat}(F:FI S Pfx Wd)(h:de S=Pfx++s::rest) :
  (s∈Wd→¬cX S s∧FI S (Pfx++[s]) Wd)∧(s ∉ Wd→cX S s∧(∀e∈ows S s,e ∉ Wd)∧FI S (Pfx++[s]) (Wd++ows S s)):=by
 have nd:=R.dB;have so:=R.nO;rw[h] at nd so;have all:∀{e},e∈Pfx++s::rest→e∈Gla.ways S:=fun he=>R.cN.mp (h▸he);have hs:s∈Gla.ways S:=all (by simp);have hP:∀e∈Pfx,e∈Gla.ways S:=fun e he=>all (by simp[he]);have sP:s ∉ Pfx:=fun z=>by
  have:=(List.nodup_append.mp nd).2.2 s z s (by simp);exact this rfl
 have le:∀e∈Pfx,e.1≤s.1:=fun e he=>(List.pairwise_append.mp so).2.2 e he s (by simp);have mem:∀{e},e∈Gla.ways S→e∈Pfx∨e=s∨e∈rest:=fun{e} he=>by
  have:=R.cN.mpr he;rw[h] at this
  simpa using this
 have ge:∀e∈rest,s.1≤e.1:=fun e he=>by
  have:=(List.pairwise_append.mp so).2.1;exact(List.pairwise_cons.mp this).1 e he
 have key:s∈Wd↔¬cX S s:=by
  constructor
  ·intro hw hr
   obtain⟨t,ht,hst⟩:=(F.mem s).mp hw;have hts:=R.fB (hP t ht) hst;have a:=hr.2 t hts;have b:=le t ht;have:t=s:=R.tO hs hts (R.pA hs) (by omega);exact sP (this▸ht)
  ·intro hn
   obtain⟨r,hr,hm,_⟩:=R.pz hs;have hsr:s∈ows S r:=R.fB hs hm;have a:=hr.2 s hsr;have ne:r≠s:=fun z=>hn (z▸hr);rcases mem hr.1 with z|z|z
   ·exact(F.mem s).mpr ⟨r,z,hsr⟩
   ·exact absurd z ne
   ·have:=ge r z
    exact absurd (R.tO hs hm (R.pA hs) (by omega)) ne
 refine⟨fun hw=>⟨key.mp hw,⟨fun e => ?_,F.nd⟩⟩,fun hw => ?_⟩
 ·rw[F.mem]
  constructor
  ·rintro⟨t,ht,he⟩
   exact⟨t,by simp[ht],he⟩
  ·rintro⟨t,ht,he⟩
   rcases List.mem_append.mp ht with z|z
   ·exact⟨t,z,he⟩
   ·obtain rfl:t=s:=by simpa using z
    obtain⟨u,hu,hsu⟩:=(F.mem t).mp hw;exact⟨u,hu,R.gr (hP u hu) hsu he⟩
 ·have hr:cX S s:=by
   by_cases z:cX S s
   ·exact z
   ·exact absurd (key.mpr z) hw
  have dis:∀e∈ows S s,e ∉ Wd:=fun e he hm=>by
   obtain⟨t,ht,het⟩:=(F.mem e).mp hm;exact hw ((F.mem s).mpr ⟨t,ht,R.gr (hP t ht) het (R.fB hs he)⟩)
  refine⟨hr,dis,fun e => ?_,?_⟩
  ·rw[List.mem_append,F.mem]
   constructor
   ·rintro(⟨t,ht,he⟩|he)
    ·exact⟨t,by simp[ht],he⟩
    ·exact⟨s,by simp,he⟩
   ·rintro⟨t,ht,he⟩
    rcases List.mem_append.mp ht with z|z
    ·exact .inl ⟨t,z,he⟩
    ·obtain rfl:t=s:=by simpa using z
     exact .inr he
  ·refine List.nodup_append.mpr ⟨F.nd,lT R hs,fun a ha b hb e => ?_⟩
   subst e;exact dis a hb ha
def kU(S:Plan)(Pfx:List (Nat×Nat)):List (List Nat):=((Pfx.filter fun s=>decide (cX S s)).filter fun s=>decide (0<Gla.twiceArea S (orb S s))).map (orb S)
theorem iO(S:Plan)(Pfx:List (Nat×Nat))(s:Nat×Nat):kU S (Pfx++[s])=if cX S s∧0<Gla.twiceArea S (orb S s) then kU S Pfx++[orb S s] else kU S Pfx:=by
 unfold kU;rw[CO,CO,As]
 by_cases h1:cX S s
 ·by_cases h2:0<Gla.twiceArea S (orb S s)
  ·rw[Ag ⟨h1,h2⟩];simp[h1,h2]
  ·rw[Ad (fun z=>h2 z.2)];simp[h1,h2]
 ·rw[Ad (fun z=>h1 z.1)];simp[h1]
structure LN(H:Hp)(L:Addr)(os:List (List Nat))(ls:List Addr):Prop where
 lst:H L=some (.lst (ls.map V.ref))
 len:ls.length=os.length
 at_:∀(j:Nat) (l:Addr) (o:List Nat),ls[j]? = some l→os[j]? = some o→H l=some (.lst (o.map eX))
theorem LN.same{H H':Hp}{L:Addr}{os:List (List Nat)}{ls:List Addr}(h:LN H L os ls)(s:aL H H'):LN H' L os ls:=⟨s _ _ h.lst,h.len,fun j l o e1 e2=>s _ _ (h.at_ j l o e1 e2)⟩
theorem LN.snoc{H:Hp}{L p:Addr}{os:List (List Nat)}{ls:List Addr}{o:List Nat}(h:LN H L os ls)(hp:H p=some (.lst (o.map eX)))(ne:p≠L)(nel:∀l∈ls,l≠L):LN (upd H L (.lst (ls.map V.ref++[.ref p]))) L (os++[o]) (ls++[p]):=by
 refine⟨by rw[ag,As];rfl,by rw[Ai,Ai,h.len];rfl,fun j l o' e1 e2 => ?_⟩
 by_cases hj:j<ls.length
 ·rw[Aw hj] at e1
  rw[Aw (by rw[← h.len];exact hj)] at e2;rw[az (nel l (A4 e1))];exact h.at_ j l o' e1 e2
 ·have hj':j=ls.length:=by
   have:=(List.getElem?_eq_some_iff.mp e1).1;rw[Ai] at this;simp at this;omega
  rw[hj',Ao (Ae _),AO] at e1;rw[hj',h.len,Ao (Ae _),AO] at e2;obtain rfl:p=l:=Ac e1;obtain rfl:o=o':=Ac e2;rw[az ne];exact hp
section
variable {P:Program}{w:World}{K:DG}{mg:DH}{base:Heap}{ad:Adr}
inductive xB(vs:List V)(H:Hp)(Q:VK)(E:XK):Prop
 | mk (a b:Addr) (as:List Addr) (S:Plan) (xs:List V) (c0:vs=[.ref a,.ref b]) (c1:PL H a S.pts xs) (c2:SmP S.pts) (c3:NA H b as (cP S)) (c4:Geo.Rules S) (c5:S.lines.length<65536) (c6:∀H' L ls,aL H H'→LN H' L (bK S) ls→Q (.ref L) H'):xB vs H Q E
abbrev acf:Stmt:=(top 20)
def FSt(S:Plan)(H:Hp)(d u:Addr)(Pfx:List (Nat×Nat))(H':Hp):Prop:=aL H H'∧∃Wd ls,FI S Pfx Wd∧H' d=some (.dT (wkV Wd))∧LN H' u (kU S Pfx) ls∧(∀l∈ls,l≠u∧l≠d)
theorem FSt.same{S:Plan}{H H' H2:Hp}{d u:Addr}{Pfx:List (Nat×Nat)}(h:FSt S H d u Pfx H')(s:aL H' H2):FSt S H d u Pfx H2:=by
 obtain⟨a,Wd,ls,b,c,e,f⟩:=h;exact⟨a.trans s,Wd,ls,b,s _ _ c,e.same s,f⟩
theorem uW{S:Plan}(R:Geo.Rules S){Pfx:List (Nat×Nat)}(hP:∀s∈Pfx,s∈Gla.ways S)(hn:Pfx.Nodup):(kU S Pfx).length≤2*S.lines.length:=by
 unfold kU;rw[Ab,← R.fo];refine AS (AJ (l₂:=Gla.ways S) ((hn.filter _).filter _) fun e he => ?_) (Ae _);exact hP e (List.mem_filter.mp (List.mem_filter.mp he).1).1
theorem ade(D:Def K mg "find_outlines" acf ["points","near"])(T:Txt K mg ad)(gA:Fn P w K mg base 4 "walk_round" ["points","near","first","second","walked"] zi)(cH:Fn P w K mg base 2 "runs_to_the_left" ["points","outline"] yf):Fn P w K mg base 5 "find_outlines" ["points","near"] xB:=by
 refine D.fx ["points","near","walked","outlines","first","others","second","outline"] ?_;rintro nd f cdv A outer s H vs Q E hr ⟨a,b,as,S,xs,rfl,pl,sm,na,R,hm,q⟩;have hu:=nI hr;refine⟨_,(kxs 2 nd aaZ (kxs 3 nd (aG ak) (aA (bC PassesOwn.never rfl (dP (by rfl) T.aV (ab (pv 1) ak)) (dv rfl (aJ (kxo 4 nd) (aJ (kxo 5 nd) b8))) (aF (bC PassesOwn.never rfl (bU (pv 5)) (kxo 6 nd) (aF (di (ig (gk hu (du (ab (pv 4) (ab (pv 6) ak))) (pv 2))) (kxs 7 nd (kxF gA hr (ab (pv 0) (ab (pv 1) (ab (pv 4) (ab (pv 6) (ab (pv 2) ak)))))) (aF (di (aS (kxF cH hr (ab (pv 0) (ab (pv 7) ak))) (fun _=>rfl)) (aF (iM (kxA (pv 3) (pv 7)))) bb))) bb))))) (kxr (pv 3))))),?_⟩;intro d hd;refine⟨Av _,fun u hu' => ?_⟩;have s0:aL H (upd (upd H d (.dT [])) u (.lst [])):=(ah hd).trans (ah hu');have ud:u≠d:=Ne.symm (aN (H:=upd H d (.dT [])) ag hu');have hun:H u=Option.none:=(ah (o:=.dT []) hd).free hu';have st0:FSt S H d u [] (upd (upd H d (.dT [])) u (.lst [])):=⟨s0,[],[],⟨fun e=>by simp,CK⟩,by rw[az (Ne.symm ud)];exact ag,⟨ag,rfl,fun j l o e=>by simp at e⟩,fun l hl=>nomatch hl⟩;generalize (upd (upd H d (.dT [])) u (.lst []))=H0 at *
 refine⟨_,rfl,b,_,rfl,SqL.of (s0 _ _ na.lst),cS (K:=K) (a:=b) (xs:=as.map V.ref) (fun i σ H'=>(∃v1 v2 v3 v4,σ=[some (.ref a),some (.ref b),some (.ref d),some (.ref u),v1,v2,v3,v4])∧FSt S H d u (wH S i) H')
  ⟨⟨none,none,none,none,rfl⟩,st0⟩ (fun i σ H' _ ⟨_,e⟩=>SqL.of (e.1 _ _ na.lst)) ?_ ?_⟩
 ·rintro i x σ H' t hx ⟨⟨v1,v2,v3,v4,rfl⟩,st⟩ ht
  have hi:i<S.pts.length:=by
   have:=(List.getElem?_eq_some_iff.mp hx).1;rw[Ab,na.len,bB] at this;exact this
  obtain⟨p,ep,gp,hp⟩:=na.get (i:=i) (by rw[bB];exact hi);rw[gp] at hx;obtain rfl:=Ac hx;rw[iS S hi] at hp;refine⟨t,_,rfl,SqT.of ag,rfl,_,_,rfl,_,_,rfl,rfl,?_⟩;have st1:=st.same (ah (o:=.tup [.int (i:Nat),.ref p]) ht);generalize upd H' t (.tup [.int (i:Nat),.ref p])=H1 at *
  refine⟨_,rfl,p,rfl,⟨_,SqL.of (st1.1 _ _ hp)⟩,dE (K:=K) (a:=p) (xs:=(S.near i).map eX) (fun j σ H'=>(∃v3 v4,σ=[some (.ref a),some (.ref b),some (.ref d),some (.ref u),some (.int (i:Nat)),some (.ref p),v3,v4])∧FSt S H d u (wH S i++((S.near i).take j).map fun v=>(i,v)) H')
   ⟨⟨v3,v4,rfl⟩,by simpa using st1⟩ (fun j σ H' _ ⟨_,e⟩=>SqL.of (e.1 _ _ hp)) ?_ ?_⟩
  ·rintro j x σ H' hx ⟨⟨v3,v4,rfl⟩,sH,Wd,ls,fi,hd',ln,nel⟩
   obtain⟨v,ev,rfl⟩:=mh hx;obtain⟨rest,er⟩:=vT hi ev;have wP:∀e∈wH S i++((S.near i).take j).map fun v=>(i,v),e∈Gla.ways S:=fun e he=>R.cN.mp (er▸Bx _ he);have ws:(i,v)∈Gla.ways S:=R.cN.mp (er▸(by simp));have nP:(wH S i++((S.near i).take j).map fun v=>(i,v)).Nodup:=by
    have:=R.dB;rw[er] at this;exact(List.nodup_append.mp this).1
   have eP:wH S i++((S.near i).take (j+1)).map (fun v=>(i,v))=(wH S i++((S.near i).take j).map fun v=>(i,v))++[(i,v)]:=by
    rw[take_snoc ev,As,Bt];rfl
   have lW:=fi.len R wP;obtain⟨stp1,stp2⟩:=fi.step R er;rw[eP];generalize (wH S i++((S.near i).take j).map fun v=>(i,v))=Pfx at *
   refine⟨_,rfl,_,rfl,by show 2≤sizeLine;decide,fun t2 ht2=>⟨_,rfl,d,_,rfl,sO.t (k:=wkK (i,v)) (b:=t2) (by rw[az (aN hd' ht2)];exact hd') ag,_,rfl,?_⟩⟩;rw[x6];have s2:=ah (o:=.tup [.int (i:Int),.int (v:Int)]) ht2;have hd2:=s2 _ _ hd';have ln2:=ln.same s2;have sH2:=sH.trans s2;generalize upd H' t2 (.tup [.int (i:Int),.int (v:Int)])=H2 at *
   by_cases c:(i,v)∈Wd
   ·obtain⟨nr,fi'⟩:=stp1 c
    rw[Ag c];refine fS ⟨⟨_,_,rfl⟩,sH2,Wd,ls,fi',hd2,?_,nel⟩;rw[iO,Ad (fun z=>nr z.1)];exact ln2
   ·obtain⟨rt,dis,fi'⟩:=stp2 c
    rw[Ad c];refine f6 ⟨_,rfl,_,rfl,_,rfl,_,rfl,_,rfl,a,b,d,as,S,xs,(i,v),Wd,rfl,pl.same sH2,sm,na.same sH2,R,ws,hd2,dis,by omega,hm,fun H3 o sX hd3 hon ho => ?_⟩;have od:o≠d:=fun z=>by rw[z,hd2] at hon;cases hon
    have ou:o≠u:=fun z=>by rw[z,ln2.lst] at hon;cases hon
    have sH3:aL H H3:=fun c' o' e=>sX c' o' (sH2 _ _ e) (fun z=>by rw[z,hd] at e;cases e);have ln3:LN H3 u (kU S Pfx) ls:=⟨sX _ _ ln2.lst ud,ln2.len,fun j l o' e1 e2=>sX _ _ (ln2.at_ j l o' e1 e2) (nel l (A4 e1)).2⟩;have ok:∀k∈orb S (i,v),k<S.pts.length:=fun k hk=>by
     obtain⟨m,m0,em,hmin,eo,ew⟩:=R.cf ws;rw[eo] at hk;obtain⟨n,_,rfl⟩:=List.mem_map.mp hk;exact(R.bF (R.ok.bV ws n)).1
    have ol:(orb S (i,v)).length<1000000:=by
     obtain⟨m,m0,em,hmin,eo,ew⟩:=R.cf ws;have e1:(orb S (i,v)).length=(ows S (i,v)).length:=by rw[eo,ew,Ab,Ab]
     have e2:(ows S (i,v)).length≤(Gla.ways S).length:=AJ (lT R ws) fun e he=>R.mw ws he;rw[R.fo] at e2;omega
    refine⟨_,rfl,_,rfl,a,o,S.pts,xs,orb S (i,v),rfl,pl.same sH3,sm,ho,ok,ol,fun H4 s4 => ?_⟩;rw[afA];have ho4:=s4 _ _ ho;refine⟨_,rfl,bJ (fun z => ?_) (fun z => ?_)⟩
    ·have z':=Al z
     have ln4:=ln3.same s4;refine⟨_,rfl,.inl ⟨rfl,_,SqL.of ln4.lst⟩,_,rfl,u,_,_,rfl,rfl,ln4.lst,?_,?_⟩
     ·rw[Ab,ln4.len]
      have:=uW R wP nP;exact ck (by omega)
     refine⟨⟨_,_,rfl⟩,aH (sH3.trans s4) hun,_,ls++[o],fi',?_,?_,fun l hl => ?_⟩
     ·rw[az (Ne.symm ud)];exact s4 _ _ hd3
     ·rw[iO,Ag ⟨rt,z'⟩]
      exact ln4.snoc ho4 ou fun l hl=>(nel l hl).1
     ·rcases List.mem_append.mp hl with y|y
      ·exact nel l y
      ·obtain rfl:l=o:=by simpa using y
       exact⟨ou,od⟩
    ·have z':¬0<Gla.twiceArea S (orb S (i,v)):=fun y=>z (Ak y)
     refine⟨⟨_,_,rfl⟩,sH3.trans s4,_,ls,fi',s4 _ _ hd3,?_,nel⟩;rw[iO,Ad (fun y=>z' y.2)];exact ln3.same s4
  ·rintro σ H' ⟨⟨v3,v4,rfl⟩,st⟩
   rw[Ab,Bm] at st;refine⟨⟨_,_,_,_,rfl⟩,?_⟩;rw[rM];exact st
 ·rintro σ H' ⟨⟨v1,v2,v3,v4,rfl⟩,sH,Wd,ls,fi,hd',ln,nel⟩
  rw[Ab,na.len,bB] at ln;exact⟨_,rfl,q H' u ls sH ln⟩
structure OL(H:Hp)(L:Addr)(pts:List Pt)(os:List (List Nat))(ls:List Addr):Prop where
 lst:H L=some (.lst (ls.map V.ref))
 len:ls.length=os.length
 at_:∀(j:Nat) (l:Addr) (o:List Nat),ls[j]? = some l→os[j]? = some o→∃ts,SD H l pts o ts
theorem OL.same{H H':Hp}{L:Addr}{pts:List Pt}{os:List (List Nat)}{ls:List Addr}(h:OL H L pts os ls)(s:aL H H'):OL H' L pts os ls :=
 ⟨s _ _ h.lst,h.len,fun j l o e1 e2=>let ⟨ts,sd⟩:=h.at_ j l o e1 e2;⟨ts,sd.same s⟩⟩
def rm(pts:List Pt)(os:List (List Nat))(zx zy:Int):Option Nat:=aQ os.length fun j=>inZ pts (os.getD j []) zx zy
inductive yd(vs:List V)(H:Hp)(Q:VK)(E:XK):Prop
 | mk (m L:Addr) (zx zy:Int) (r:List V) (pts:List Pt) (os:List (List Nat)) (ls:List Addr) (c0:vs=[.ref m,.ref L]) (c1:H m=some (.tup (.int zx::.int zy::r))) (c2:OL H L pts os ls) (c3:SmP pts) (c4:∀H',aL H H'→Q (aaD (rm pts os zx zy)) H'):yd vs H Q E
abbrev ab8:Stmt:=(top 52)
theorem ad0(D:Def K mg "pane_of" ab8 ["mark","outlines_sides"])(T:Txt K mg ad)(i9:Fn P w K mg base 3 "is_inside" ["mark","outline_sides"] (aes K)):Fn P w K mg base 4 "pane_of" ["mark","outlines_sides"] yd:=by
 refine D.fx ["mark","outlines_sides","k","outline_sides"] ?_;rintro nd f cdv A outer s H vs Q E hr ⟨m,L,zx,zy,r,pts,os,ls,rfl,hm,ol,sm,q⟩;refine⟨_,(aA (bC PassesOwn.never rfl (dP (by rfl) T.aV (ab (pv 1) ak)) (dv rfl (aJ (kxo 2 nd) (aJ (kxo 3 nd) b8))) (aF (di (aS (kxF i9 hr (ab (pv 0) (ab (pv 3) ak))) (fun _=>rfl)) (kxr (pv 2)) bb))) (kxr fT)),?_⟩;refine⟨_,rfl,L,_,rfl,SqL.of ol.lst,cS (K:=K) (a:=L) (xs:=ls.map V.ref) (fun i σ H'=>(∃u v,σ=[some (.ref m),some (.ref L),u,v])∧aL H H'∧∀e,e<i→inZ pts (os.getD e []) zx zy=false)
  ⟨⟨none,none,rfl⟩,aL.refl H,fun e he=>absurd he (AE e)⟩ (fun i σ H' _ ⟨_,e,_⟩=>SqL.of (e _ _ ol.lst)) ?_ ?_⟩
 ·rintro i x σ H' t hx ⟨⟨u,v,rfl⟩,sH,no⟩ ht
  rw[Am] at hx;cases el:ls[i]? with
  | none=>rw[el] at hx;cases hx
  | some l =>
   rw[el] at hx;obtain rfl:V.ref l=x:=Ac hx;have hi:i<os.length:=by rw[← ol.len];exact(List.getElem?_eq_some_iff.mp el).1
   have eo:os[i]? = some (os.getD i []):=by rw[Aj,Aa hi];rfl
   obtain⟨ts,sd⟩:=ol.at_ i l _ el eo;refine⟨t,_,rfl,SqT.of ag,rfl,_,_,rfl,_,_,rfl,rfl,?_⟩;have s1:=sH.trans (ah (o:=.tup [.int (i:Nat),.ref l]) ht);generalize upd H' t (.tup [.int (i:Nat),.ref l])=H1 at *
   refine⟨_,rfl,_,rfl,m,l,zx,zy,pts,_,ts,rfl,.of2 (s1 _ _ hm),sd.same s1,sm,_,rfl,bJ (fun z => ?_) (fun z => ?_)⟩
   ·refine⟨_,rfl,?_⟩
    have:=q H1 s1;unfold rm at this;rw[aY hi z no] at this;exact this
   ·exact⟨⟨_,_,rfl⟩,s1,b7 no (by simpa using z)⟩
 ·rintro σ H' ⟨⟨u,v,rfl⟩,sH,no⟩
  rw[Ab,ol.len] at no;have:=q H' sH;unfold rm at this;rw[ba no] at this;exact this
end
end Gs
namespace Gs
open PySem PySem.Spec PyProof.Rows L2
open Gla (Plan Pt Mark)
theorem vV:bootBuiltins "dict" = some (.type "dict"):=by decide +kernel
section
variable {X:Cx}{K:DG}
theorem adx{es:List Expr}{k:Nat}{t:TGs}{n:Nat}{pos:Pos}(hK:X.K=K)(hc:X.calm=true)(h:PGs X es t)
  (hn:(assignEach es X.env).length=n:=by rfl) (hst:(assignEach es X.env).findIdx? (·.1)=none:=by rfl):PG X (.Tuple es k pos) (aii K n t):=by
 subst hK;exact dv hc h hn hst
theorem yQ{e:Expr}{f:Str}{pos:Pos}{ta:TE}(hK:X.K=K)(he:PE X e ta)(hb:attributeBase e f X.env (eval e X.env)=eval e X.env):PE X (.Attribute e f pos) (ahd K ta f):=by
 subst hK;exact ay he hb
end
theorem adH{K:DG}{a b:Addr}{xs ys:List V}{g:TG}{tb:TS}{D:Ends}{σ:L2.St}{H:Hp}(n:Nat)(hn:n=min xs.length ys.length)(Pv:Nat→L2.St→Hp→Prop)(h0:Pv 0 σ H)(hl:∀i σ H,i≤n→Pv i σ H→SqL K H a xs∧SqL K H b ys)
  (hs:∀i x y σ H T,xs[i]? = some x→ys[i]? = some y→Pv i σ H→H T=Option.none→g (.ref T) σ (upd H T (.tup [x,y])) fun σ2 H2=>tb { D with nx:=Pv (i+1),ct:=Pv (i+1),bk:=D.nx } σ2 H2) (hd:∀σ H,Pv n σ H→D.nx σ H) :
  ∃W:Nat→Nat→L2.St→Hp→Prop,(∃m,W 0 m σ H)∧∀i m σ H,W i m σ H →
   ((Itz K a b).stop i H∧D.nx σ H)∨((Itz K a b).go i H∧∃N:L2.St→Hp→Prop,(∀σ' H',N σ' H'→∃m',m'<m∧W (i+1) m' σ' H')∧∀x H',(Itz K a b).yld i H x H'→g x σ H' fun σ2 H2=>tb { D with nx:=N,ct:=N,bk:=D.nx } σ2 H2):=by
 refine u4 (J:=Itz K a b) n Pv h0 (fun i σ H hi p => ?_) (fun i v σ H H' hi p y => ?_) (fun σ H p=>⟨⟨xs,ys,(hl _ σ H (Ae _) p).1,(hl _ σ H (Ae _) p).2,by omega⟩,hd σ H p⟩)
 ·have:=hl i σ H (Br hi) p
  exact⟨xs,ys,xs[i]'(by omega),ys[i]'(by omega),this.1,this.2,Aa _,Aa _⟩
 ·obtain⟨T,x,y',rfl,hT,rfl,hx,hy⟩:=y
  have:=hl i σ H (Br hi) p;exact hs i x y' σ H T (hx xs this.1) (hy ys this.2) p hT
section
variable {P:Program}{w:World}{K:DG}{mg:DH}{base:Heap}{ad:Adr}
def lnI(S:Plan)(k:Nat):List Int := [((S.lines.getD k (0,0)).1:Int),((S.lines.getD k (0,0)).2:Int)]
def cM(S:Plan)(k:Nat):Bool:=(decide ((S.lines.getD k (0,0)).2≤(S.lines.getD k (0,0)).1)||decide (S.pts.length≤(S.lines.getD k (0,0)).2))||(decide (0<k)&&lx true (lnI S k) (lnI S (k-1)))
inductive pP(ad:Adr)(vs:List V)(H:Hp)(Q:VK)(E:XK):Prop
 | mk (d dx lp ll lm:Addr) (S:Plan) (c0:vs=[.ref d]) (c1:b0 ad H d S dx lp ll lm) (c2:∀H',aL H H'→Q (plV ((aQ S.lines.length (cM S)).map (aaI S))) H'):pP ad vs H Q E
abbrev uu:Stmt:=(top 30)
theorem decLe(x y:Nat):decide ((x:Int)≤(y:Int))=decide (x≤y):=decide_eq_decide.mpr ⟨fun h=>by omega,fun h=>by omega⟩
theorem xM(D:Def K mg "stray_line" uu ["drawing"])(T:Txt K mg ad)(bj:Me P w K mg base 2 ad.drawing "line_place" ["self","k"] (aeO ad)):Fn P w K mg base 3 "stray_line" ["drawing"] (pP ad):=by
 refine D.fx ["drawing","k","line"] ?_;rintro nd f cdv A outer s H vs Q E hr ⟨d,dx,lp,ll,lm,S,rfl,hd,q⟩;obtain⟨ps,pl⟩:=hd.pts.pts;obtain⟨ls,ln⟩:=hd.lns.lns;refine⟨_,(aA (bC PassesOwn.never rfl (dP (by rfl) T.aV (ab (ay (pv 0) rfl) ak)) (dv rfl (aJ (kxo 1 nd) (aJ (kxo 2 nd) b8))) (kxf ((lC (ag3 (kxT (pv 2) ao) (kxT (pv 2) ao)) (fW (ag3 (kxT (pv 2) ao) (kxL T.bD (ay (pv 0) rfl)))))).pt (jr (pv 0) bj (hr.mono (by decide)) (ab (pv 1) ak)) (aF (di ((jH (kxg (pv 1) ao) (fA (gn (afU hr.ae4) (pv 2) (kxI (ay (pv 0) rfl) (aP dX (pv 1) ao)) (a8 _))))).pt (kxr (jr (pv 0) bj (hr.mono (by decide)) (ab (pv 1) ak))) bb)))) (kxr fT)),?_⟩;refine⟨_,rfl,fl hd.ob T.draw aaW ⟨ll,ls,rfl,SqL.of ln.lst,cS (K:=K) (a:=ll) (xs:=ls) (fun i σ H'=>(∃u v,σ=[some (.ref d),u,v])∧aL H H'∧∀e,e<i→cM S e=false)
  ⟨⟨none,none,rfl⟩,aL.refl H,fun e he=>absurd he (AE e)⟩ (fun i σ H' _ ⟨_,e,_⟩=>SqL.of (e _ _ ln.lst)) ?_ ?_⟩⟩
 ·rintro i x σ H' t hx ⟨⟨u,v,rfl⟩,sH,no⟩ ht
  have hi:i<S.lines.length:=by
   have:=(List.getElem?_eq_some_iff.mp hx).1;rw[ln.len] at this;exact this
  obtain⟨b,eb,qb⟩:=ln.at_ i hi;rw[eb] at hx;obtain rfl:=Ac hx;refine⟨t,_,rfl,SqT.of ag,rfl,_,_,rfl,_,_,rfl,rfl,?_⟩;have s1:=sH.trans (ah (o:=.tup [.int (i:Nat),.ref b]) ht);generalize upd H' t (.tup [.int (i:Nat),.ref b])=H1 at *
  have ret:cM S i=true→aeO ad [.ref d,.int (i:Nat)] H1 Q E0:=by
   intro bad;rw[aY hi bad no] at q;exact⟨d,dx,lp,ll,lm,S,_,rfl,hd.same s1,q _ s1⟩
  refine dG (j:=0) rfl (SqT.of (s1 _ _ qb)) rfl (dG (j:=1) rfl (SqT.of (s1 _ _ qb)) rfl ⟨_,_,rfl,rfl,_,rfl,?_⟩);rw[decLe];refine bJ (fun z => ?_) (fun z => ?_)
  ·have bad:cM S i=true:=by unfold cM;rw[z];rfl
   exact f6 ⟨_,rfl,d,dx,_,rfl,s1 _ _ hd.ob,rfl,_,rfl,ret bad⟩
  ·refine dG (j:=1) rfl (SqT.of (s1 _ _ qb)) rfl ⟨_,rfl,fl (s1 _ _ hd.ob) T.draw qa ⟨lp,_,rfl,.inl (SqL.of (s1 _ _ pl.lst)),_,_,rfl,rfl,_,rfl,?_⟩⟩
   rw[pl.len,decLe];refine bJ (fun y => ?_) (fun y => ?_)
   ·have bad:cM S i=true:=by unfold cM;rw[y,BJ];rfl
    exact⟨_,rfl,d,dx,_,rfl,s1 _ _ hd.ob,rfl,_,rfl,ret bad⟩
   ·refine⟨_,rfl,_,_,rfl,rfl,_,rfl,?_⟩
    rw[yx];refine bJ (fun g => ?_) (fun g => ?_)
    ·have g':0<i:=Al g
     obtain⟨c,ec,qc⟩:=ln.at_ (i-1) (by omega);refine⟨_,rfl,_,rfl,fl (s1 _ _ hd.ob) T.draw aaW ⟨_,rfl,_,_,rfl,rfl,ll,ls,_,.ref c,rfl,rfl,SqL.of (s1 _ _ ln.lst),?_,?_⟩⟩
     ·rw[show(i:Int)-1=((i-1:Nat):Int) by omega]
      exact aM ec
     ·refine⟨b,c,lnI S i,lnI S (i-1),rfl,rfl,SqT.of (s1 _ _ qb),SqT.of (s1 _ _ qc),_,rfl,?_⟩
      refine bJ (fun h => ?_) (fun h => ?_)
      ·have bad:cM S i=true:=by unfold cM;rw[h,g,Dc,BJ]
       exact⟨_,rfl,d,dx,_,rfl,s1 _ _ hd.ob,rfl,_,rfl,ret bad⟩
      ·refine⟨⟨_,_,rfl⟩,s1,b7 no ?_⟩
       unfold cM;rw[Bool.eq_false_iff.mpr z,Bool.eq_false_iff.mpr y,Bool.eq_false_iff.mpr h,Cr];rfl
    ·refine fS ⟨⟨_,_,rfl⟩,s1,b7 no ?_⟩
     unfold cM;rw[Bool.eq_false_iff.mpr z,Bool.eq_false_iff.mpr y,Bool.eq_false_iff.mpr g,A5];rfl
 ·rintro σ H' ⟨⟨u,v,rfl⟩,sH,no⟩
  rw[ln.len] at no;rw[ba no] at q;exact q _ sH
end
def crd(p:Pt)(ax:Nat):Nat:=if ax=0 then p.x else p.y
def nR(S:Plan)(ax v i:Nat):List Nat:=(List.range i).filter fun k=>decide (crd (S.pts.getD k ⟨0,0⟩) ax=v)
def fy(S:Plan)(ax v:Nat):List Nat:=nR S ax v S.pts.length
def lO(S:Plan)(l:List Nat):Bool:=(l.zip (l.drop 1)).all fun e=>decide (e∈S.lines)
def agL(S:Plan):List (Nat×Nat) := [(0,0),(S.w,0),(0,S.h),(S.w,S.h)]
def axL(S:Plan):List (Nat×Nat) := [(0,0),(0,S.w),(1,0),(1,S.h)]
def zN(S:Plan):Bool := !((agL S).all fun c=>decide ((⟨c.1,c.2⟩:Pt)∈S.pts)) || !((axL S).all fun c=>lO S (fy S c.1 c.2))
theorem yZ(S:Plan)(a b:Nat):decide ([(a:Int),(b:Int)]∈S.pts.map sZ)=decide ((⟨a,b⟩:Pt)∈S.pts):=by
 refine decide_eq_decide.mpr ⟨fun h => ?_,fun h=>List.mem_map.mpr ⟨_,h,rfl⟩⟩;obtain⟨p,hp,e⟩:=List.mem_map.mp h;unfold sZ at e;injection e with e1 e2
 injection e2 with e2 _
 have:p=⟨a,b⟩:=by
  cases p
  simp only[Pt.mk.injEq];exact⟨Int.ofNat.inj e1,Int.ofNat.inj e2⟩
 exact this▸hp
theorem pF{α:Type}{p:α→Bool}{l:List α}:∀(h:∀(i:Nat) (x:α),l[i]? = some x→p x=true),l.all p=true:=fun h=>by
 rw[BM];intro x hx;obtain⟨i,hi,e⟩:=List.mem_iff_getElem.mp hx;exact h i x (by rw[Aa hi,e])
theorem tU{α:Type}{p:α→Bool}{l:List α}{i:Nat}{x:α}(h:l[i]? = some x)(hp:p x=false):l.all p=false:=by
 rw[BZ];intro z;rw[BM] at z;have:=z x (A4 h);rw[hp] at this;cases this
structure PrA(H:Hp)(ts:List Addr)(l:List (Nat×Nat)):Prop where
 len:ts.length=l.length
 at_:∀(j:Nat) (t:Addr) (e:Nat×Nat),ts[j]? = some t→l[j]? = some e→H t=some (.tup [.int (e.1:Int),.int (e.2:Int)])
theorem PrA.same{H H':Hp}{ts:List Addr}{l:List (Nat×Nat)}(h:PrA H ts l)(s:aL H H'):PrA H' ts l:=⟨h.len,fun j t e a b=>s _ _ (h.at_ j t e a b)⟩
theorem PrA.get{H:Hp}{ts:List Addr}{l:List (Nat×Nat)}(h:PrA H ts l){i:Nat}{x:V}(hx:(ts.map V.ref)[i]? = some x):∃t e,x=.ref t∧l[i]? = some e∧H t=some (.tup [.int (e.1:Int),.int (e.2:Int)]):=by
 rw[Am] at hx;cases et:ts[i]? with
 | none=>rw[et] at hx;cases hx
 | some t =>
  rw[et] at hx;have hi:=(List.getElem?_eq_some_iff.mp et).1;rw[h.len] at hi;exact⟨t,_,(Ac hx).symm,Aa hi,h.at_ i t _ et (Aa hi)⟩
theorem ail{H:Hp}{t1 t2 t3 t4:Addr}{a b c d a' b' c' d':Nat}(h1:H t1=some (.tup [.int (a:Int),.int (a':Int)]))(h2:H t2=some (.tup [.int (b:Int),.int (b':Int)]))(h3:H t3=some (.tup [.int (c:Int),.int (c':Int)]))(h4:H t4=some (.tup [.int (d:Int),.int (d':Int)])) :
  PrA H [t1,t2,t3,t4] [(a,a'),(b,b'),(c,c'),(d,d')]:=by
 refine⟨rfl,fun j t e e1 e2 => ?_⟩
 match j,e1,e2 with
 | 0,e1,e2=>cases e1;cases e2;exact h1
 | 1,e1,e2=>cases e1;cases e2;exact h2
 | 2,e1,e2=>cases e1;cases e2;exact h3
 | 3,e1,e2=>cases e1;cases e2;exact h4
section
variable {P:Program}{w:World}{K:DG}{mg:DH}{base:Heap}{ad:Adr}
inductive aev(ad:Adr)(vs:List V)(H:Hp)(Q:VK)(E:XK):Prop
 | mk (d dx lp ll lm:Addr) (S:Plan) (c0:vs=[.ref d]) (c1:b0 ad H d S dx lp ll lm) (c2:S.lines.length<65536) (c3:S.pts.length<65536) (c4:∀H',aL H H'→Q (plV (if zN S=true then some 20 else none)) H'):aev ad vs H Q E
abbrev agI:Stmt:=(top 31)
theorem agR(D:Def K mg "gap_in_frame" agI ["drawing"])(T:Txt K mg ad):Fn P w K mg base 1 "gap_in_frame" ["drawing"] (aev ad):=by
 refine D.fx ["drawing","corner","line","joined","axis","value","k","point","edge","pair"] ?_;rintro nd f cdv A outer s H vs Q E hr ⟨d,dx,lp,ll,lm,S,rfl,hd,hl,hn,q⟩;have hu:=nI hr;have hu64:=hr.units;obtain⟨ps,pl⟩:=hd.pts.pts;obtain⟨ls,ln⟩:=hd.lns.lns;refine⟨_,(aA (bC PassesOwn.never rfl (zZ (du (ab (du (ab ao (ab ao ak))) (ab (du (ab (ay (pv 0) rfl) (ab ao ak))) (ab (du (ab ao (ab (ay (pv 0) rfl) ak))) (ab (du (ab (ay (pv 0) rfl) (ab (ay (pv 0) rfl) ak))) ak)))))) (kxo 1 nd) (aF (di (gn (yt hu64) (pv 1) (ay (pv 0) rfl) (by with_unfolding_all rfl)) (kxr (kxG T.bg)) bb))) (kxs 3 nd (qg (vz rfl hu64) (by rfl) T.aeF vV (ab (aaG rfl nd (bU (ay (pv 0) rfl)) (ff (own := [("line",2)]) rfl) (fun _ _ _ _ _=>(kxo 2 nd)) (fun _ _ _ _ _=>dh) (fun _ _ _ _ _=>(du (ab (pv 2) (ab kn ak))))) ak)) (aA (bC PassesOwn.never rfl (zZ (du (ab (du (ab ao (ab ao ak))) (ab (du (ab ao (ab (ay (pv 0) rfl) ak))) (ab (du (ab ao (ab ao ak))) (ab (du (ab ao (ab (ay (pv 0) rfl) ak))) ak)))))) (dv rfl (aJ (kxo 4 nd) (aJ (kxo 5 nd) b8))) (aA (dD (i:=8) rfl nd rfl rfl rfl (dP (by rfl) T.aV (ab (ay (pv 0) rfl) ak)) (ff (own := [("k",6),("point",7)]) rfl) (fun _ _ _ _ _=>(adx (K:=K) (n:=2) rfl rfl (aJ (kxo 6 nd) (aJ (kxo 7 nd) b8)))) (fun _ _ _ _ _=>aeD (kxq (sS (sj (K:=K) rfl) (pv 7) (pv 4) (fun _ _=>rfl)) (pv 5))) (fun _ _ _ _ _=>(pv 6))) (aF (bC PassesOwn.never rfl (aeq (by rfl) T.acU (ab (pv 8) (ab (fE iV (pv 8) (d9 ao) oV) ak))) (kxo 9 nd) (aF (di (ig (gk hu (pv 9) (pv 3))) (kxr (kxG T.bg)) bb)))))) (kxr fT)))),?_⟩;refine⟨by show 2≤sizeLine;decide,fun t1 h1 => ?_⟩;have s1:=ah (o:=.tup [.int 0,.int 0]) h1;refine⟨_,rfl,fl (s1 _ _ hd.ob) T.draw ae7 ⟨by show 2≤sizeLine;decide,fun t2 h2 => ?_⟩⟩;have s2:=s1.trans (ah (o:=.tup [.int S.w,.int 0]) h2);refine⟨_,rfl,fl (s2 _ _ hd.ob) T.draw afZ ⟨by show 2≤sizeLine;decide,fun t3 h3 => ?_⟩⟩;have s3:=s2.trans (ah (o:=.tup [.int 0,.int S.h]) h3);refine⟨_,rfl,fl (s3 _ _ hd.ob) T.draw ae7 ⟨_,rfl,fl (s3 _ _ hd.ob) T.draw afZ ⟨by show 2≤sizeLine;decide,fun t4 h4=>⟨by show 4≤sizeLine;decide,fun tt htt => ?_⟩⟩⟩⟩;have s4:=s3.trans (ah (o:=.tup [.int S.w,.int S.h]) h4);have s5:=s4.trans (ah (o:=.tup [.ref t1,.ref t2,.ref t3,.ref t4]) htt);have g1:PrA (upd (upd (upd (upd H t1 (.tup [.int 0,.int 0])) t2 (.tup [.int S.w,.int 0])) t3 (.tup [.int 0,.int S.h])) t4 (.tup [.int S.w,.int S.h])) [t1,t2,t3,t4] (agL S) :=
  ail (a:=0) (a':=0) ((ah h4) _ _ ((ah h3) _ _ ((ah h2) _ _ ag))) ((ah h4) _ _ ((ah h3) _ _ ag)) ((ah h4) _ _ ag) ag
 have g2:=g1.same (ah (o:=.tup [.ref t1,.ref t2,.ref t3,.ref t4]) htt);have gt:(upd (upd (upd (upd (upd H t1 (.tup [.int 0,.int 0])) t2 (.tup [.int S.w,.int 0])) t3 (.tup [.int 0,.int S.h])) t4 (.tup [.int S.w,.int S.h])) tt (.tup [.ref t1,.ref t2,.ref t3,.ref t4])) tt=some (.tup ([t1,t2,t3,t4].map V.ref)):=ag;generalize (upd (upd (upd (upd (upd H t1 (.tup [.int 0,.int 0])) t2 (.tup [.int S.w,.int 0])) t3 (.tup [.int 0,.int S.h])) t4 (.tup [.int S.w,.int S.h])) tt (.tup [.ref t1,.ref t2,.ref t3,.ref t4]))=H5 at *
 generalize [t1,t2,t3,t4]=ts at *
 refine⟨tt,rfl,⟨_,SqT.of gt⟩,sJ (K:=K) (a:=tt) (xs:=ts.map V.ref) (fun i σ H'=>(∃v,σ=[some (.ref d),v,none,none,none,none,none,none,none,none])∧H'=H5∧∀(j:Nat) (c:Nat×Nat),j<i→(agL S)[j]? = some c→decide ((⟨c.1,c.2⟩:Pt)∈S.pts)=true)
  ⟨⟨none,rfl⟩,rfl,fun j c h=>absurd h (AE j)⟩ (fun i σ H' _ ⟨_,e,_⟩=>by rw[e];exact SqT.of gt) ?_ ?_⟩
 ·rintro i x σ H' hx ⟨⟨v,rfl⟩,rfl,no⟩
  obtain⟨t,e,rfl,ee,ht⟩:=g2.get hx;refine⟨_,rfl,_,rfl,fl (s5 _ _ hd.ob) T.draw qa ⟨t,lp,[(e.1:Int),(e.2:Int)],S.pts.map sZ,rfl,rfl,SqT.of ht,hd.pts.same s5,_,rfl,?_⟩⟩;rw[yZ];refine bJ (fun z => ?_) (fun z => ?_)
  ·have gp:zN S=true:=by
    unfold zN;rw[tU ee (by simpa using z)];rfl
   have:=q _ s5;rw[Ag gp] at this;exact this
  ·refine⟨⟨_,rfl⟩,rfl,fun j c hj hc => ?_⟩
   by_cases ji:j=i
   ·subst ji
    rw[ee] at hc;obtain rfl:=Ac hc
    simpa using z
   ·exact no j c (by omega) hc
 ·rintro σ H' ⟨⟨v,rfl⟩,eH,no⟩
  obtain rfl:=eH.symm;have all1:((agL S).all fun c=>decide ((⟨c.1,c.2⟩:Pt)∈S.pts))=true:=pF fun i c hc=>no i c (by
   have:=(List.getElem?_eq_some_iff.mp hc).1;rw[Ab,g2.len];exact this) hc
  refine⟨_,rfl,fl (s5 _ _ hd.ob) T.draw aaW ⟨ll,rfl,⟨_,SqL.of (s5 _ _ ln.lst)⟩,fun c hc => ?_⟩⟩;refine kq (J:=Itl K ll) c S.lines.length (fun i H'=>aL H' H'∧aL H5 H'∧∃qs:List Addr,PT2 H' c qs (S.lines.take i))
   ⟨aL.refl _,ah hc,[],⟨ag,by simp,fun j p e e1=>by simp at e1⟩⟩ ?_ ?_ ?_
  ·rintro i H' hi ⟨_,sH,_⟩
   obtain⟨p,e,_⟩:=ln.at_ i hi;exact⟨ls,_,SqL.of (sH _ _ (s5 _ _ ln.lst)),e⟩
  ·rintro i x H' H2 hi ⟨_,sH,qs,pt⟩ ⟨rfl,hx⟩
   obtain⟨b,eb,qb⟩:=ln.at_ i hi;have ex:=hx _ (SqL.of (sH _ _ (s5 _ _ ln.lst)));rw[eb] at ex;obtain rfl:V.ref b=x:=Ac ex;have hql:qs.length=i:=by rw[pt.len,A2];omega
   refine⟨rfl,lA ⟨_,rfl,by show 2≤sizeLine;decide,fun p hp => ?_⟩⟩;have sp:=ah (o:=.tup [.ref b,.bl true]) hp;have ptp:=pt.same sp;have hpp:(upd H2 p (.tup [.ref b,.bl true])) p=some (.tup [.ref b,.bl true]):=ag;have sHp:=sH.trans sp;generalize upd H2 p (.tup [.ref b,.bl true])=H3 at *
   refine⟨_,ptp.lst,by rw[Ab,hql];exact ck (by omega),aL.refl _,aH sHp hc,qs++[p],?_⟩;have nc:∀{z:Addr} {ys:List V},H3 z=some (.tup ys)→z≠c:=fun e=>sV e ptp.lst (fun y=>nomatch y);refine⟨by rw[ag,As];rfl,by rw[Ai,hql,A2];simp;omega,fun j p' e e1 e2 => ?_⟩
   by_cases hj:j<qs.length
   ·rw[Aw hj] at e1
    rw[AF (by omega)] at e2;obtain⟨t,a1,a2⟩:=ptp.at_ j p' e e1 (by rw[AF (by omega)];exact e2);exact⟨t,by rw[az (nc a1)];exact a1,by rw[az (nc a2)];exact a2⟩
   ·have hj':j=qs.length:=by
     have:=(List.getElem?_eq_some_iff.mp e1).1;rw[Ai] at this;simp at this;omega
    rw[hj',Ao (Ae _),AO] at e1;obtain rfl:p=p':=Ac e1;rw[hj',hql,AF (by omega)] at e2;have ee:S.lines.getD i (0,0)=e:=by rw[Aj,e2];rfl
    have a2:=sHp _ _ (s5 _ _ qb);rw[ee] at a2;exact⟨b,by rw[az (nc hpp)];exact hpp,by rw[az (nc a2)];exact a2⟩
  ·rintro H' ⟨_,sH,qs,pt⟩
   rw[Bm] at pt;refine⟨⟨ls,SqL.of (sH _ _ (s5 _ _ ln.lst)),by rw[ln.len];exact Ae _⟩,?_⟩;refine⟨c,qs,S.lines,rfl,pt,ck (by omega),fun j H6 hj sm hJ => ?_⟩;have s6:=s5.trans (sH.trans sm);clear pt;refine⟨by show 2≤sizeLine;decide,fun t1 h1 => ?_⟩;have r1:=ah (o:=.tup [.int 0,.int 0]) h1;refine⟨_,rfl,fl (r1 _ _ (s6 _ _ hd.ob)) T.draw ae7 ⟨by show 2≤sizeLine;decide,fun t2 h2 => ?_⟩⟩;have r2:=r1.trans (ah (o:=.tup [.int 0,.int S.w]) h2);refine⟨by show 2≤sizeLine;decide,fun t3 h3 => ?_⟩;have r3:=r2.trans (ah (o:=.tup [.int 1,.int 0]) h3);refine⟨_,rfl,fl (r3 _ _ (s6 _ _ hd.ob)) T.draw afZ ⟨by show 2≤sizeLine;decide,fun t4 h4=>⟨by show 4≤sizeLine;decide,fun tx htx => ?_⟩⟩⟩;have r4:=r3.trans (ah (o:=.tup [.int 1,.int S.h]) h4);have r5:=r4.trans (ah (o:=.tup [.ref t1,.ref t2,.ref t3,.ref t4]) htx);have k1:PrA (upd (upd (upd (upd H6 t1 (.tup [.int 0,.int 0])) t2 (.tup [.int 0,.int S.w])) t3 (.tup [.int 1,.int 0])) t4 (.tup [.int 1,.int S.h])) [t1,t2,t3,t4] (axL S) :=
    ail (a:=0) (a':=0) (b:=0) (c:=1) (c':=0) (d:=1) ((ah h4) _ _ ((ah h3) _ _ ((ah h2) _ _ ag))) ((ah h4) _ _ ((ah h3) _ _ ag)) ((ah h4) _ _ ag) ag
   have k2:=k1.same (ah (o:=.tup [.ref t1,.ref t2,.ref t3,.ref t4]) htx);have kt:(upd (upd (upd (upd (upd H6 t1 (.tup [.int 0,.int 0])) t2 (.tup [.int 0,.int S.w])) t3 (.tup [.int 1,.int 0])) t4 (.tup [.int 1,.int S.h])) tx (.tup [.ref t1,.ref t2,.ref t3,.ref t4])) tx=some (.tup ([t1,t2,t3,t4].map V.ref)):=ag;generalize (upd (upd (upd (upd (upd H6 t1 (.tup [.int 0,.int 0])) t2 (.tup [.int 0,.int S.w])) t3 (.tup [.int 1,.int 0])) t4 (.tup [.int 1,.int S.h])) tx (.tup [.ref t1,.ref t2,.ref t3,.ref t4]))=H7 at *
   generalize [t1,t2,t3,t4]=us at *
   have s7:=s6.trans r5;have hJ7:=r5 _ _ hJ;refine⟨tx,rfl,⟨_,SqT.of kt⟩,sJ (K:=K) (a:=tx) (xs:=us.map V.ref) (fun i σ H'=>(∃v0 v1 v2 v3 v4 v5 v6 v7,σ=[some (.ref d),v0,v1,some (.ref j),v2,v3,v4,v5,v6,v7])∧aL H7 H'∧∀(n:Nat) (e:Nat×Nat),n<i→(axL S)[n]? = some e→lO S (fy S e.1 e.2)=true)
    ⟨⟨_,_,_,_,_,_,_,_,rfl⟩,aL.refl _,fun n e h=>absurd h (AE n)⟩ (fun i σ H' _ ⟨_,e,_⟩=>SqT.of (e _ _ kt)) ?_ ?_⟩
   ·rintro i x σ H' hx ⟨⟨v0,v1,v2,v3,v4,v5,v6,v7,rfl⟩,sH7,no7⟩
    obtain⟨t,e,rfl,ee,ht⟩:=k2.get hx;refine⟨t,_,rfl,SqT.of (sH7 _ _ ht),rfl,_,_,rfl,_,_,rfl,rfl,?_⟩;have s8:=s7.trans sH7;have e01:e.1=0∨e.1=1:=by
     have:=A4 ee;unfold axL at this;simp only[D8,List.not_mem_nil,or_false] at this;rcases this with rfl|rfl|rfl|rfl
     ·exact .inl rfl
     ·exact .inl rfl
     ·exact .inr rfl
     ·exact .inr rfl
    refine⟨_,rfl,fl (s8 _ _ hd.ob) T.draw qa ⟨lp,ps,rfl,SqL.of (s8 _ _ pl.lst),fun c2 hc2 => ?_⟩⟩;refine kq (J:=Ite K lp) c2 S.pts.length (fun n H9=>aL H' H9∧H9 c2=some (.lst ((nR S e.1 e.2 n).map eX)))
     ⟨ah hc2,ag⟩ ?_ ?_ ?_
    ·rintro n H9 hn' ⟨s9,_⟩
     obtain⟨p,ep,_⟩:=pl.at_ n hn';exact⟨ps,_,SqL.of (s9 _ _ (s8 _ _ pl.lst)),ep⟩
    ·rintro n v H9 H10 hn' ⟨s9,hc9⟩ ⟨tq,xq,rfl,htq,rfl,hxq⟩
     obtain⟨p,ep,qp⟩:=pl.at_ n hn';have ex:=hxq _ (SqL.of (s9 _ _ (s8 _ _ pl.lst)));rw[ep] at ex;obtain rfl:V.ref p=xq:=Ac ex;have s10:=s9.trans (ah (o:=.tup [.int (n:Nat),.ref p]) htq);refine⟨tq,_,rfl,SqT.of ag,rfl,_,_,rfl,_,_,rfl,rfl,rfl,?_⟩;have hc10:=(ah (o:=.tup [.int (n:Nat),.ref p]) htq) _ _ hc9;generalize upd H9 tq (.tup [.int (n:Nat),.ref p])=H11 at *
     refine⟨_,rfl,_,rfl,p,_,_,.int (crd (S.pts.getD n ⟨0,0⟩) e.1:Int),rfl,rfl,SqT.of (s10 _ _ (s8 _ _ qp)),?_,_,rfl,rfl,_,rfl,?_⟩
     ·rcases e01 with z|z
      ·rw[z];exact aM (j:=0) rfl
      ·rw[z];exact aM (j:=1) rfl
     ·rw[aid]
      have eK:nR S e.1 e.2 (n+1)=if crd (S.pts.getD n ⟨0,0⟩) e.1=e.2 then nR S e.1 e.2 n++[n] else nR S e.1 e.2 n:=by
       unfold nR;rw[Bj,CO]
       by_cases z:crd (S.pts.getD n ⟨0,0⟩) e.1=e.2
       ·rw[Ag z,AH (by simpa using z)];rfl
       ·rw[Ad z,AQ (by simpa using z)];simp
      refine bJ (fun z0 => ?_) (fun z0 => ?_)
      ·have z:crd (S.pts.getD n ⟨0,0⟩) e.1=e.2:=Al z0
       refine⟨_,rfl,_,hc10,?_,aH s10 hc2,?_⟩
       ·rw[Ab]
        have:(nR S e.1 e.2 n).length≤n:=by
         unfold nR;refine AS (D0 _ _) ?_;rw[Au];exact Ae _
        exact ck (by omega)
       ·rw[ag,eK,Ag z,As];rfl
      ·have z:¬crd (S.pts.getD n ⟨0,0⟩) e.1=e.2:=fun y=>z0 (Ak y)
       exact⟨s10,by rw[eK,Ad z];exact hc10⟩
    ·rintro H9 ⟨s9,hc9⟩
     refine⟨⟨ps,SqL.of (s9 _ _ (s8 _ _ pl.lst)),by rw[pl.len];exact Ae _⟩,?_⟩;have hc9':H9 c2=some (.lst ((fy S e.1 e.2).map eX)):=hc9;refine⟨_,rfl,_,rfl,_,rfl,c2,_,rfl,SqL.of hc9',fun c3 hc3 => ?_⟩;have s11:=ah (o:=.lst (kS ((fy S e.1 e.2).map eX) (some 1) Option.none)) hc3;have g3:(upd H9 c3 (.lst (kS ((fy S e.1 e.2).map eX) (some 1) Option.none))) c3=some (.lst (((fy S e.1 e.2).drop 1).map eX)):=by
      rw[ag,C7];exact congrArg (fun z=>some (HO.lst z)) (uF _ 1)
     have g4:=s11 _ _ hc9';have s12:=sH7.trans (s9.trans s11);generalize upd H9 c3 (.lst (kS ((fy S e.1 e.2).map eX) (some 1) Option.none))=H12 at *
     refine⟨c2,c3,_,_,rfl,SqL.of g4,SqL.of g3,adH (K:=K) (a:=c2) (b:=c3) ((fy S e.1 e.2).zip ((fy S e.1 e.2).drop 1)).length (by rw[CD,Ab,Ab])
      (fun n σ H'=>(∃w7,σ=[some (.ref d),v0,v1,some (.ref j),some (.int e.1),some (.int e.2),v4,v5,some (.ref c2),w7])∧aL H12 H'∧∀(m:Nat) (g:Nat×Nat),m<n→((fy S e.1 e.2).zip ((fy S e.1 e.2).drop 1))[m]? = some g→g∈S.lines)
      ⟨⟨_,rfl⟩,aL.refl _,fun m g h=>absurd h (AE m)⟩ (fun n σ H' _ ⟨_,se,_⟩=>⟨SqL.of (se _ _ g4),SqL.of (se _ _ g3)⟩) ?_ ?_⟩
     ·rintro n xa xb σ H' tp hxa hxb ⟨⟨w7,rfl⟩,s13,no13⟩ htp
      obtain⟨a,ea,rfl⟩:=mh hxa;obtain⟨b,eb,rfl⟩:=mh hxb;have ez:((fy S e.1 e.2).zip ((fy S e.1 e.2).drop 1))[n]? = some (a,b):=List.getElem?_zip_eq_some.mpr ⟨ea,eb⟩;have s14:=s13.trans (ah (o:=.tup [.int (a:Int),.int (b:Int)]) htp);have hJ14:=s14 _ _ (s12 _ _ hJ7);have htp':(upd H' tp (.tup [.int (a:Int),.int (b:Int)])) tp=some (.tup ((pK (a,b)).map kV)):=ag;generalize upd H' tp (.tup [.int (a:Int),.int (b:Int)])=H14 at *
      refine⟨_,rfl,_,rfl,j,_,rfl,sO.t (k:=pK (a,b)) (b:=tp) hJ14 htp',_,rfl,?_⟩;rw[vp,aaK]
      by_cases z:(a,b)∈S.lines
      ·rw[Ag z]
       refine fS ⟨⟨_,rfl⟩,s14,fun m g hm hg => ?_⟩
       by_cases mn:m=n
       ·subst mn
        rw[ez] at hg;obtain rfl:=Ac hg;exact z
       ·exact no13 m g (by omega) hg
      ·rw[Ad z]
       refine f6 ?_;have gp:zN S=true:=by
        unfold zN;have c1:lO S (fy S e.1 e.2)=false:=tU ez (Ax z);rw[tU ee c1,Bool.not_false,BJ]
       have:=q _ (s7.trans (s12.trans s14));rw[Ag gp] at this;exact this
     ·rintro σ H' ⟨⟨w7,rfl⟩,s13,no13⟩
      refine⟨⟨_,_,_,_,_,_,_,_,rfl⟩,s12.trans s13,fun n g hn hg => ?_⟩
      by_cases ni:n=i
      ·subst ni
       rw[ee] at hg;obtain rfl:=Ac hg;exact pF fun m g hg=>Ak (no13 m g (List.getElem?_eq_some_iff.mp hg).1 hg)
      ·exact no7 n g (by omega) hg
   ·rintro σ H' ⟨⟨v0,v1,v2,v3,v4,v5,v6,v7,rfl⟩,sH7,no7⟩
    have all2:((axL S).all fun c=>lO S (fy S c.1 c.2))=true:=pF fun i c hc=>no7 i c (by
     have:=(List.getElem?_eq_some_iff.mp hc).1;rw[Ab,k2.len];exact this) hc
    have gp:¬zN S=true:=by
     unfold zN;rw[all1,all2];exact Az
    have:=q _ (s7.trans sH7);rw[Ad gp] at this;exact this
end
def aeR(S:Plan):List (Option Int) := [(aQ S.pts.length (dN S)).map ace,(aQ S.lines.length (cM S)).map (aaI S),if zN S=true then some 20 else none,(aQ S.lines.length (l4 S)).map (aaI S),
 (aQ S.pts.length (mz S)).map ace,(aQ S.pts.length (rN S)).map ace,(aQ S.pts.length (qJ S)).map ace,(aQ S.marks.length (cW S)).map (abN S)]
def acm:Nat→List (Option Int)→Option (Nat×Int)
 | _,[]=>none
 | k,some p::_=>some (k,p)
 | k,none::r=>acm (k+1) r
def oE(S:Plan):Option (Nat×Int):=acm 4 (aeR S)
theorem md:∀(i k:Nat) (l:List (Option Int)),(∀j,j<i→l[j]? = some none)→acm k l=acm (k+i) (l.drop i)
 | 0,k,l,_=>by simp
 | i+1,k,[],h=>by have:=h 0 (B9 _);simp at this
 | i+1,k,a::l,h=>by
  have e:a=none:=by have:=h 0 (B9 _);simpa using this
  subst e;rw[CF];show acm (k+1) l=_;rw[md i (k+1) l fun j hj=>by have:=h (j+1) (by omega);simpa using this]
  congr 1
  omega
theorem ac7{i k:Nat}{l:List (Option Int)}{p:Int}(h:∀j,j<i→l[j]? = some none)(hp:l[i]? = some (some p)):acm k l=some (k+i,p):=by
 rw[md i k l h,List.drop_eq_getElem?_toList_append,hp];rfl
theorem yy{k:Nat}{l:List (Option Int)}(h:∀j,j<l.length→l[j]? = some none):acm k l=none:=by
 rw[md l.length k l h,List.drop_length];rfl
def jdV:Option (Nat×Int)→List V
 | none=>[]
 | some x=>[.int (x.1:Int),.int x.2]
structure Txt2(K:DG)(mg:DH)(ad:Adr):Prop where
 aal:mg "FINDERS" = some (.ref ad.finders)
 finders:∃a0 a1 a2 a3 a4 a5 a6 a7:Addr,nA K ad.finders [.ref a0,.ref a1,.ref a2,.ref a3,.ref a4,.ref a5,.ref a6,.ref a7]∧mg "stray_point" = some (.ref a0)∧mg "stray_line" = some (.ref a1)∧mg "gap_in_frame" = some (.ref a2)∧mg "tangled_line" = some (.ref a3) ∧
  mg "loose_point" = some (.ref a4)∧mg "lone_point" = some (.ref a5)∧mg "only_link" = some (.ref a6)∧mg "stray_mark" = some (.ref a7)
structure Fit(S:Plan):Prop where
 sm:SmP S.pts
 p2:2≤S.pts.length
 pn:S.pts.length<65536
 ln:S.lines.length<65536
theorem cC{n:Nat}{p:Nat→Bool}(h:aQ n p=none):∀i,i<n→p i=false:=by
 intro i hi;unfold aQ at h;rw[Bg] at h;have:=h i (List.mem_range.mpr hi)
 simpa using this
theorem yI{S:Plan}(h:aQ S.lines.length (cM S)=none):rV S:=by
 intro l hl;obtain⟨i,hi,e⟩:=List.mem_iff_getElem.mp hl;have:=cC h i hi;unfold cM at this;rw[AW,AW] at this;have e2:S.lines.getD i (0,0)=l:=by rw[Aj,Aa hi,e];rfl
 rw[e2] at this;have a:=CP this.1.1;have b:=CP this.1.2;omega
section
variable {P:Program}{w:World}{K:DG}{mg:DH}{base:Heap}{ad:Adr}
theorem Fn.toV{k j:Nat}{x:Str}{ps:List Str}{sp:Sp}{f:Addr}(F:Fn P w K mg base j x ps sp)(h:mg x=some (.ref f))(hk:j≤k):FnV P w K mg base k f sp:=by
 obtain⟨g,fd,a,b,c,d⟩:=F.ex;rw[h] at a;injection a with a
 injection a with a
 subst a;exact⟨fd,ps,b,c,d.mono hk⟩
inductive adt(ad:Adr)(vs:List V)(H:Hp)(Q:VK)(E:XK):Prop
 | mk (d dx lp ll lm:Addr) (S:Plan) (c0:vs=[.ref d]) (c1:b0 ad H d S dx lp ll lm) (c2:Fit S) (c3:∀H' l,aL H H'→H l=none→H' l=some (.lst (jdV (oE S)))→Q (.ref l) H'):adt ad vs H Q E
abbrev agj:Stmt:=(top 46)
theorem xN{a:Addr}{xs:List V}{g:TG}{tb:TS}{D:Ends}{σ:L2.St}{H:Hp}(Pv:Nat→L2.St→Hp→Prop)(h0:Pv 0 σ H)(hl:∀i σ H,i≤xs.length→Pv i σ H→SqT K H a xs)
  (hs:∀i x σ H T,xs[i]? = some x→Pv i σ H→H T=Option.none→g (.ref T) σ (upd H T (.tup [.int ((i+4:Nat):Int),x])) fun σ2 H2=>tb { D with nx:=Pv (i+1),ct:=Pv (i+1),bk:=D.nx } σ2 H2) (hd:∀σ H,Pv xs.length σ H→D.nx σ H) :
  ∃W:Nat→Nat→L2.St→Hp→Prop,(∃m,W 0 m σ H)∧∀i m σ H,W i m σ H →
   ((ItS K a).stop i H∧D.nx σ H)∨((ItS K a).go i H∧∃N:L2.St→Hp→Prop,(∀σ' H',N σ' H'→∃m',m'<m∧W (i+1) m' σ' H')∧∀x H',(ItS K a).yld i H x H'→g x σ H' fun σ2 H2=>tb { D with nx:=N,ct:=N,bk:=D.nx } σ2 H2):=by
 refine u4 (J:=ItS K a) xs.length Pv h0 (fun i σ H hi p => ?_) (fun i v σ H H' hi p y => ?_) (fun σ H p=>⟨⟨xs,hl _ σ H (Ae _) p,Ae _⟩,hd σ H p⟩)
 ·exact⟨xs,xs[i],hl i σ H (Br hi) p,Aa hi⟩
 ·obtain⟨T,x,rfl,hT,rfl,hx⟩:=y
  exact hs i x σ H T (hx xs (hl i σ H (Br hi) p)) p hT
theorem afD(D:Def K mg "judge_drawing" agj ["drawing"])(T:Txt K mg ad)(T2:Txt2 K mg ad)(fK:Fn P w K mg base 2 "stray_point" ["drawing"] (pR ad))(gC:Fn P w K mg base 3 "stray_line" ["drawing"] (pP ad))
  (eE:Fn P w K mg base 1 "gap_in_frame" ["drawing"] (aev ad)) (eF:Fn P w K mg base 5 "tangled_line" ["drawing"] (xi ad)) (fL:Fn P w K mg base 2 "loose_point" ["drawing"] (tG ad))
  (gD:Fn P w K mg base 2 "lone_point" ["drawing"] (zF ad)) (jb:Fn P w K mg base 2 "only_link" ["drawing"] (xy ad)) (gE:Fn P w K mg base 4 "stray_mark" ["drawing"] (oT ad)):Fn P w K mg base 9 "judge_drawing" ["drawing"] (adt ad):=by
 refine D.fx ["drawing","rule","finder","place"] ?_;rintro nd f cdv A outer s H vs Q E hr ⟨d,dx,lp,ll,lm,S,rfl,hd,fit,q⟩;obtain⟨a0,a1,a2,a3,a4,a5,a6,a7,hF,m0,m1,m2,m3,m4,m5,m6,m7⟩:=T2.finders;have asks:∀(i:Nat) (x:V),([.ref a0,.ref a1,.ref a2,.ref a3,.ref a4,.ref a5,.ref a6,.ref a7]:List V)[i]? = some x→(∀j,j<i→(aeR S)[j]? = some none) →
   ∃(f:Addr) (sp:Sp) (r:Option Int),x=.ref f∧FnV P w K mg base 8 f sp∧(aeR S)[i]? = some r∧∀(H1:Hp) (Q1:VK),b0 ad H1 d S dx lp ll lm→(∀H',aL H1 H'→Q1 (plV r) H')→sp [.ref d] H1 Q1 E0:=by
  intro i x hx no;have lk:1<i→rV S:=fun h=>yI (by
   have:=no 1 h;have e:(aQ S.lines.length (cM S)).map (aaI S)=none:=Ac this;exact Option.map_eq_none_iff.mp e)
  match i,hx,lk with
  | 0,hx,lk=>exact⟨a0,_,_,(Ac hx).symm,fK.toV m0 (by decide),rfl,fun H1 Q1 h1 h2=>⟨d,dx,lp,ll,lm,S,rfl,h1,h2⟩⟩
  | 1,hx,lk=>exact⟨a1,_,_,(Ac hx).symm,gC.toV m1 (by decide),rfl,fun H1 Q1 h1 h2=>⟨d,dx,lp,ll,lm,S,rfl,h1,h2⟩⟩
  | 2,hx,lk=>exact⟨a2,_,_,(Ac hx).symm,eE.toV m2 (by decide),rfl,fun H1 Q1 h1 h2=>⟨d,dx,lp,ll,lm,S,rfl,h1,fit.ln,fit.pn,h2⟩⟩
  | 3,hx,lk=>exact⟨a3,_,_,(Ac hx).symm,eF.toV m3 (by decide),rfl,fun H1 Q1 h1 h2=>⟨d,dx,lp,ll,lm,S,rfl,h1,fit.sm,fit.pn,lk (by decide),h2⟩⟩
  | 4,hx,lk=>exact⟨a4,_,_,(Ac hx).symm,fL.toV m4 (by decide),rfl,fun H1 Q1 h1 h2=>⟨d,dx,lp,ll,lm,S,rfl,h1,lk (by decide),fit.pn,fit.ln,h2⟩⟩
  | 5,hx,lk=>exact⟨a5,_,_,(Ac hx).symm,gD.toV m5 (by decide),rfl,fun H1 Q1 h1 h2=>⟨d,dx,lp,ll,lm,S,rfl,h1,lk (by decide),fit.p2,fit.pn,fit.ln,h2⟩⟩
  | 6,hx,lk=>exact⟨a6,_,_,(Ac hx).symm,jb.toV m6 (by decide),rfl,fun H1 Q1 h1 h2=>⟨d,dx,lp,ll,lm,S,rfl,h1,lk (by decide),fit.p2,fit.pn,fit.ln,h2⟩⟩
  | 7,hx,lk=>exact⟨a7,_,_,(Ac hx).symm,gE.toV m7 (by decide),rfl,fun H1 Q1 h1 h2=>⟨d,dx,lp,ll,lm,S,rfl,h1,fit.sm,lk (by decide),h2⟩⟩
  | n+8,hx,lk=>exact absurd (List.getElem?_eq_some_iff.mp hx).1 (by simp)
 refine⟨_,(aA (bC PassesOwn.never rfl (abk (by rfl) T.aV (kxR T2.aal)) (dv rfl (aJ (kxo 1 nd) (aJ (kxo 2 nd) b8))) (kxs 3 nd (abm (k:=8) (pv 2) (hr.mono (by decide)) (ab (pv 0) ak)) (aF (di (ig (zf (pv 3))) (kxr (aG (ab (pv 1) (ab (pv 3) ak)))) bb)))) (kxr (aG ak))),?_⟩;refine⟨ad.finders,_,rfl,hF H,xN (K:=K) (a:=ad.finders) (xs := [.ref a0,.ref a1,.ref a2,.ref a3,.ref a4,.ref a5,.ref a6,.ref a7]) (fun i σ H'=>(∃u v z,σ=[some (.ref d),u,v,z])∧aL H H'∧∀j,j<i→(aeR S)[j]? = some none)
  ⟨⟨none,none,none,rfl⟩,aL.refl H,fun j hj=>absurd hj (AE j)⟩ (fun i σ H' _ _=>hF H') ?_ ?_⟩
 ·rintro i x σ H' t hx ⟨⟨u,v,z,rfl⟩,sH,no⟩ ht
  obtain⟨f1,sp,r,rfl,fv,er,run⟩:=asks i x hx no;refine⟨t,_,rfl,SqT.of ag,rfl,_,_,rfl,_,_,rfl,rfl,?_⟩;have s1:=sH.trans (ah (o:=.tup [.int ((i+4:Nat):Int),.ref f1]) ht);generalize upd H' t (.tup [.int ((i+4:Nat):Int),.ref f1])=H1 at *
  refine⟨_,rfl,f1,sp,rfl,fv,_,rfl,run H1 _ (hd.same s1) fun H2 s2 => ?_⟩;have s12:=s1.trans s2;cases r with
  | none =>
   refine⟨_,rfl,_,rfl,fS ⟨⟨_,_,_,rfl⟩,s12,fun j hj => ?_⟩⟩
   by_cases ji:j=i
   ·subst ji;exact er
   ·exact no j (by omega)
  | some p =>
   refine⟨_,rfl,_,rfl,f6 ⟨_,rfl,_,rfl,by show 2≤sizeLine;decide,fun l hl => ?_⟩⟩;refine q _ l (s12.trans (ah hl)) (s12.free hl) ?_;rw[ag];unfold oE;rw[ac7 no er];have e4:4+i=i+4:=by omega
   rw[e4];rfl
 ·rintro σ H' ⟨⟨u,v,z,rfl⟩,sH,no⟩
  refine⟨Av _,fun l hl=>q _ l (sH.trans (ah hl)) (sH.free hl) ?_⟩;rw[ag];unfold oE;rw[yy no];rfl
def oo:List V→List (Str×V)
 | [v1,v2]=>[("glass",v1),("corners",v2)]
 | _=>[]
abbrev sU:Stmt:=(inClass (top 48) 0)
theorem xh:bG ["self","glass","corners"] ["self","glass","corners"] (aE sU):=fsc
theorem adL(D:mf K mg "Pane" "Pane.__init__" ad.pane sU ["self","glass","corners"] ["glass","corners"]):Kl P w K mg base 1 "Pane" ad.pane 2 oo:=by
 have nd:=xh.nd;refine D.kl (n:=2) xh rfl (fun f cdv A outer s H p dx us Q E hr hl hp k => ?_);obtain⟨v1,v2,rfl⟩:=us2 hl;refine⟨_,(aA (bq (pv 0) (pv 1) rfl) (aF (bq (pv 0) (pv 2) rfl))),?_⟩;refine⟨_,rfl,_,rfl,p,_,dx,_,rfl,hp,D.cl,D.no _ (by decide +kernel),A1 rfl,?_⟩
 iterate 1 (refine⟨_,rfl,_,rfl,p,_,dx,_,rfl,ag,D.cl,D.no _ (by decide +kernel),A1 rfl,?_⟩;rw[bQ])
 exact k
def gw:List V→List (Str×V)
 | [v1,v2]=>[("broken",v1),("panes",v2)]
 | _=>[]
abbrev ki:Stmt:=(inClass (top 49) 0)
theorem oI:bG ["self","broken","panes"] ["self","broken","panes"] (aE ki):=fsc
theorem wC(D:mf K mg "Cartoon" "Cartoon.__init__" ad.cartoon ki ["self","broken","panes"] ["broken","panes"]):Kl P w K mg base 1 "Cartoon" ad.cartoon 2 gw:=by
 have nd:=oI.nd;refine D.kl (n:=2) oI rfl (fun f cdv A outer s H p dx us Q E hr hl hp k => ?_);obtain⟨v1,v2,rfl⟩:=us2 hl;refine⟨_,(aA (bq (pv 0) (pv 1) rfl) (aF (bq (pv 0) (pv 2) rfl))),?_⟩;refine⟨_,rfl,_,rfl,p,_,dx,_,rfl,hp,D.cl,D.no _ (by decide +kernel),A1 rfl,?_⟩
 iterate 1 (refine⟨_,rfl,_,rfl,p,_,dx,_,rfl,ag,D.cl,D.no _ (by decide +kernel),A1 rfl,?_⟩;rw[bQ])
 exact k
def tJ:List V→List (Str×V)
 | [v1,v2,v3]=>[("glass",v1),("width",v2),("height",v3)]
 | _=>[]
abbrev o7:Stmt:=(inClass (top 83) 0)
theorem uN:bG ["self","glass","width","height"] ["self","glass","width","height"] (aE o7):=fsc
theorem aaO(D:mf K mg "Blank" "Blank.__init__" ad.blank o7 ["self","glass","width","height"] ["glass","width","height"]):Kl P w K mg base 1 "Blank" ad.blank 3 tJ:=by
 have nd:=uN.nd;refine D.kl (n:=3) uN rfl (fun f cdv A outer s H p dx us Q E hr hl hp k => ?_);obtain⟨v1,v2,v3,rfl⟩:=us3 hl;refine⟨_,(aA (bq (pv 0) (pv 1) rfl) (aA (bq (pv 0) (pv 2) rfl) (aF (bq (pv 0) (pv 3) rfl)))),?_⟩;refine⟨_,rfl,_,rfl,p,_,dx,_,rfl,hp,D.cl,D.no _ (by decide +kernel),A1 rfl,?_⟩
 iterate 2 (refine⟨_,rfl,_,rfl,p,_,dx,_,rfl,ag,D.cl,D.no _ (by decide +kernel),A1 rfl,?_⟩;rw[bQ])
 exact k
def wU:List V→List (Str×V)
 | [v1,v2,v3,v4]=>[("glass",v1),("width",v2),("height",v3),("turns",v4)]
 | _=>[]
abbrev pZ:Stmt:=(inClass (top 84) 0)
theorem uY:bG ["self","glass","width","height","turns"] ["self","glass","width","height","turns"] (aE pZ):=fsc
theorem abM(D:mf K mg "Sheet" "Sheet.__init__" ad.sheet pZ ["self","glass","width","height","turns"] ["glass","width","height","turns"]):Kl P w K mg base 1 "Sheet" ad.sheet 4 wU:=by
 have nd:=uY.nd;refine D.kl (n:=4) uY rfl (fun f cdv A outer s H p dx us Q E hr hl hp k => ?_);obtain⟨v1,v2,v3,v4,rfl⟩:=us4 hl;refine⟨_,(aA (bq (pv 0) (pv 1) rfl) (aA (bq (pv 0) (pv 2) rfl) (aA (bq (pv 0) (pv 3) rfl) (aF (bq (pv 0) (pv 4) rfl))))),?_⟩;refine⟨_,rfl,_,rfl,p,_,dx,_,rfl,hp,D.cl,D.no _ (by decide +kernel),A1 rfl,?_⟩
 iterate 3 (refine⟨_,rfl,_,rfl,p,_,dx,_,rfl,ag,D.cl,D.no _ (by decide +kernel),A1 rfl,?_⟩;rw[bQ])
 exact k
def kD:List V→List (Str×V)
 | [v1,v2,v3]=>[("refusal",v1),("blanks",v2),("sheets",v3)]
 | _=>[]
abbrev pQ:Stmt:=(inClass (top 94) 0)
theorem vj:bG ["self","refusal","blanks","sheets"] ["self","refusal","blanks","sheets"] (aE pQ):=fsc
theorem aaH(D:mf K mg "Order" "Order.__init__" ad.order pQ ["self","refusal","blanks","sheets"] ["refusal","blanks","sheets"]):Kl P w K mg base 1 "Order" ad.order 3 kD:=by
 have nd:=vj.nd;refine D.kl (n:=3) vj rfl (fun f cdv A outer s H p dx us Q E hr hl hp k => ?_);obtain⟨v1,v2,v3,rfl⟩:=us3 hl;refine⟨_,(aA (bq (pv 0) (pv 1) rfl) (aA (bq (pv 0) (pv 2) rfl) (aF (bq (pv 0) (pv 3) rfl)))),?_⟩;refine⟨_,rfl,_,rfl,p,_,dx,_,rfl,hp,D.cl,D.no _ (by decide +kernel),A1 rfl,?_⟩
 iterate 2 (refine⟨_,rfl,_,rfl,p,_,dx,_,rfl,ag,D.cl,D.no _ (by decide +kernel),A1 rfl,?_⟩;rw[bQ])
 exact k
end
open Geo.Rules (bK)
structure og(ad:Adr)(H:Hp)(p:Addr)(pts:List Pt)(x:Nat×List Nat):Prop where
 ex:∃(dx lc:Addr) (cs:List Addr),H p=some (.ins ad.pane dx [("glass",.int (x.1:Int)),("corners",.ref lc)])∧H lc=some (.lst (cs.map V.ref))∧cs.length=x.2.length∧∀(j:Nat) (c:Addr) (k:Nat),cs[j]? = some c→x.2[j]? = some k→H c=some (ptO pts k)
theorem og.same{ad:Adr}{H H':Hp}{p:Addr}{pts:List Pt}{x:Nat×List Nat}(h:og ad H p pts x)(s:aL H H'):og ad H' p pts x:=by
 obtain⟨dx,lc,cs,a,b,c,d⟩:=h.ex;exact⟨dx,lc,cs,s _ _ a,s _ _ b,c,fun j q k e1 e2=>s _ _ (d j q k e1 e2)⟩
structure PnL(ad:Adr)(H:Hp)(l:Addr)(pts:List Pt)(xs:List (Nat×List Nat))(ps:List Addr):Prop where
 lst:H l=some (.lst (ps.map V.ref))
 len:ps.length=xs.length
 at_:∀(j:Nat) (p:Addr) (x:Nat×List Nat),ps[j]? = some p→xs[j]? = some x→og ad H p pts x
theorem PnL.same{ad:Adr}{H H':Hp}{l:Addr}{pts:List Pt}{xs:List (Nat×List Nat)}{ps:List Addr}(h:PnL ad H l pts xs ps)(s:aL H H'):PnL ad H' l pts xs ps:=⟨s _ _ h.lst,h.len,fun j p x e1 e2=>(h.at_ j p x e1 e2).same s⟩
structure yo(ad:Adr)(H:Hp)(c:Addr)(pts:List Pt)(b:Option (Nat×Int))(xs:List (Nat×List Nat)):Prop where
 ex:∃(dx lb lp:Addr) (ps:List Addr),H c=some (.ins ad.cartoon dx [("broken",.ref lb),("panes",.ref lp)])∧H lb=some (.lst (jdV b))∧PnL ad H lp pts xs ps
structure iw(ad:Adr)(H:Hp)(p:Addr)(pts:List Pt)(x:Nat×List Nat)(l:Addr):Prop where
 ex:∃(dx lc:Addr) (cs:List Addr),H p=some (.ins ad.pane dx [("glass",.int (x.1:Int)),("corners",.ref lc)])∧H lc=some (.lst (cs.map V.ref))∧lc≠l∧cs.length=x.2.length∧∀(j:Nat) (c:Addr) (k:Nat),cs[j]? = some c→x.2[j]? = some k→H c=some (ptO pts k)
theorem iw.to{ad:Adr}{H:Hp}{p l:Addr}{pts:List Pt}{x:Nat×List Nat}(h:iw ad H p pts x l):og ad H p pts x:=by
 obtain⟨dx,lc,cs,a,b,_,c,d⟩:=h.ex;exact⟨dx,lc,cs,a,b,c,d⟩
theorem iw.keep{ad:Adr}{H H':Hp}{p l:Addr}{pts:List Pt}{x:Nat×List Nat}(h:iw ad H p pts x l)(k1:∀b C dx fs,H b=some (.ins C dx fs)→H' b=some (.ins C dx fs))(k2:∀b xs,b≠l→H b=some (.lst xs)→H' b=some (.lst xs))(k3:∀b xs,H b=some (.tup xs)→H' b=some (.tup xs)):iw ad H' p pts x l:=by
 obtain⟨dx,lc,cs,a,b,n,c,d⟩:=h.ex;exact⟨dx,lc,cs,k1 _ _ _ _ a,k2 _ _ n b,n,c,fun j q k e1 e2=>k3 _ _ (d j q k e1 e2)⟩
structure PnV(ad:Adr)(H:Hp)(l:Addr)(pts:List Pt)(xs:List (Nat×List Nat))(ps:List Addr):Prop where
 lst:H l=some (.lst (ps.map V.ref))
 len:ps.length=xs.length
 at_:∀(j:Nat) (p:Addr) (x:Nat×List Nat),ps[j]? = some p→xs[j]? = some x→iw ad H p pts x l
theorem PnV.to{ad:Adr}{H:Hp}{l:Addr}{pts:List Pt}{xs:List (Nat×List Nat)}{ps:List Addr}(h:PnV ad H l pts xs ps):PnL ad H l pts xs ps:=⟨h.lst,h.len,fun j p x e1 e2=>(h.at_ j p x e1 e2).to⟩
theorem PnV.same{ad:Adr}{H H':Hp}{l:Addr}{pts:List Pt}{xs:List (Nat×List Nat)}{ps:List Addr}(h:PnV ad H l pts xs ps)(s:aL H H'):PnV ad H' l pts xs ps :=
 ⟨s _ _ h.lst,h.len,fun j p x e1 e2=>(h.at_ j p x e1 e2).keep (fun _ _ _ _ e=>s _ _ e) (fun _ _ _ e=>s _ _ e) (fun _ _ e=>s _ _ e)⟩
theorem PnV.dk{ad:Adr}{H:Hp}{l d:Addr}{pts:List Pt}{xs:List (Nat×List Nat)}{ps:List Addr}{k0 k1:List (Key×V)}(h:PnV ad H l pts xs ps)(hd:H d=some (.dK k0)):PnV ad (upd H d (.dK k1)) l pts xs ps:=by
 refine⟨by rw[az (bw h.lst hd)];exact h.lst,h.len,fun j p x e1 e2=>(h.at_ j p x e1 e2).keep (fun b C dx fs e => ?_) (fun b ys _ e => ?_) (fun b ys e => ?_)⟩
 ·rw[az (bw e hd)];exact e
 ·rw[az (bw e hd)];exact e
 ·rw[az (bw e hd)];exact e
theorem PnV.snoc{ad:Adr}{H:Hp}{l q:Addr}{pts:List Pt}{xs:List (Nat×List Nat)}{ps:List Addr}{x:Nat×List Nat}(h:PnV ad H l pts xs ps)(hq:iw ad H q pts x l):PnV ad (upd H l (.lst (ps.map V.ref++[.ref q]))) l pts (xs++[x]) (ps++[q]):=by
 have kp:∀{p:Addr} {y:Nat×List Nat},iw ad H p pts y l→iw ad (upd H l (.lst (ps.map V.ref++[.ref q]))) p pts y l:=fun hy=>hy.keep (fun b C dx fs e=>by rw[az (bw e h.lst)];exact e) (fun b ys n e=>by rw[az n];exact e) (fun b ys e=>by rw[az (bw e h.lst)];exact e);refine⟨by rw[ag,As];rfl,by rw[Ai,Ai,h.len];rfl,fun j p y e1 e2 => ?_⟩
 by_cases hj:j<ps.length
 ·rw[Aw hj] at e1
  rw[Aw (by rw[← h.len];exact hj)] at e2;exact kp (h.at_ j p y e1 e2)
 ·have hj':j=ps.length:=by
   have:=(List.getElem?_eq_some_iff.mp e1).1;rw[Ai] at this;simp at this;omega
  rw[hj',Ao (Ae _),AO] at e1;rw[hj',h.len,Ao (Ae _),AO] at e2;obtain rfl:q=p:=Ac e1;obtain rfl:x=y:=Ac e2;exact kp hq
theorem tR{S:Plan}(R:Geo.Rules S)(hm:S.lines.length<65536){o:List Nat}(ho:o∈bK S):(∀k∈o,k<S.pts.length)∧o.length<1000000:=by
 obtain⟨r,hr,rfl,_⟩:=R.gz.mp ho;have ws:=hr.1;obtain⟨m,m0,em,hmin,eo,ew⟩:=R.cf ws;refine⟨fun k hk => ?_,?_⟩
 ·rw[eo] at hk
  obtain⟨n,_,rfl⟩:=List.mem_map.mp hk;exact(R.bF (R.ok.bV ws n)).1
 ·have e1:(Geo.Rules.orb S r).length=(Geo.Rules.ows S r).length:=by rw[eo,ew,Ab,Ab]
  have e2:(Geo.Rules.ows S r).length≤(Gla.ways S).length:=AJ (lT R ws) fun e he=>R.mw ws he;rw[R.fo] at e2;omega
theorem wV{S:Plan}(R:Geo.Rules S)(hm:S.lines.length<65536):(bK S).length<1000000:=by
 have:(bK S).length≤2*S.lines.length:=uW R (Pfx:=Geo.Rules.de S) (fun s hs=>R.cN.mp hs) R.dB;omega
theorem xF{n i:Nat}{p:Nat→Bool}(h:aQ n p=some i):i<n∧p i=true:=by
 unfold aQ at h;exact⟨List.mem_range.mp (CT h),by simpa using List.find?_some h⟩
def ahA:V→Addr
 | .ref a=>a
 | _=>0
def nS(S:Plan)(k:Nat):Option Nat:=rm S.pts (bK S) ((S.marks.getD k m0).at_.x:Int) ((S.marks.getD k m0).at_.y:Int)
def acQ(S:Plan)(k:Nat):Bool:=(List.range k).any fun j=>decide (nS S j=nS S k)
def mE(S:Plan):Option (Nat×Int):=match aQ S.marks.length (acQ S) with
 | some k=>some (12,abN S k)
 | none=>if S.marks.length<(bK S).length then some (13,20+8*(S.pts.length:Int)+4*(S.lines.length:Int)+12*(S.marks.length:Int)) else none
def fZ(S:Plan)(k:Nat):Nat×List Nat:=((S.marks.getD k m0).glass,(bK S).getD ((nS S k).getD 0) [])
def mN(S:Plan):List (Nat×List Nat):=if mE S=none then (List.range S.marks.length).map (fZ S) else []
section
variable {P:Program}{w:World}{K:DG}{mg:DH}{base:Heap}{ad:Adr}
inductive zb(ad:Adr)(vs:List V)(H:Hp)(Q:VK)(E:XK):Prop
 | mk (d dx lp ll lm:Addr) (S:Plan) (c0:vs=[.ref d]) (c1:b0 ad H d S dx lp ll lm) (c2:Fit S) (c3:rV S) (c4:Geo.Rules S) (c5:S.marks.length<65536) (c6:(∀k,k<S.marks.length→∃j,nS S k=some j)) (c7:∀H' c,aL H H'→yo ad H' c S.pts (mE S) (mN S)→Q (.ref c) H'):zb ad vs H Q E
abbrev acG:Stmt:=(top 51)
theorem jz{H:Hp}{Q:VK}{lb lp:Addr}{ps:List Addr}{pts:List Pt}{b:Option (Nat×Int)}{xs:List (Nat×List Nat)}(hb:H lb=some (.lst (jdV b)))(hp:PnL ad H lp pts xs ps)(q:∀H' c,aL H H'→yo ad H' c pts b xs→Q (.ref c) H') :
  ∀x dx,H x=Option.none→H dx=Option.none→dx≠x→Q (.ref x) (upd (upd H dx (.own x)) x (.ins ad.cartoon dx (gw [.ref lb,.ref lp]))):=by
 intro x dx nx ndx ne;have s1:aL H (upd (upd H dx (.own x)) x (.ins ad.cartoon dx (gw [.ref lb,.ref lp]))):=(ah ndx).trans (ah (by rw[az (Ne.symm ne)];exact nx));exact q _ x s1 ⟨dx,lb,lp,ps,ag,s1 _ _ hb,hp.same s1⟩
theorem pO{H:Hp}{l:Addr}{pts:List Pt}(h:H l=some (.lst [])):PnL ad H l pts [] []:=⟨h,rfl,fun j p x e=>by simp at e⟩
theorem aeC(D:Def K mg "give_marks_their_panes" acG ["drawing"])(T:Txt K mg ad)(dR:Fn P w K mg base 5 "find_outlines" ["points","near"] xB)(aW:Fn P w K mg base 1 "neighbours" ["drawing"] (wd ad))(kI:Fn P w K mg base 1 "sides" ["points","outline"] oY)
  (mV:Fn P w K mg base 4 "pane_of" ["mark","outlines_sides"] yd) (bo:Me P w K mg base 3 ad.drawing "mark_place" ["self","k"] (aeS ad)) (gF:Me P w K mg base 4 ad.drawing "byte_count" ["self"] (ah1 ad))
  (cI:Kl P w K mg base 1 "Cartoon" ad.cartoon 2 gw) (aam:Kl P w K mg base 1 "Pane" ad.pane 2 oo):Fn P w K mg base 6 "give_marks_their_panes" ["drawing"] (zb ad):=by
 refine D.fx ["drawing","outlines","outline","outlines_sides","marked","panes","k","mark","found","corner"] ?_;rintro nd f cdv A outer s H vs Q E hr ⟨d,dx,lp,ll,lm,S,rfl,hd,fit,lk,R,hmk,hpn,q⟩;have hu:=nI hr;have hu64:=hr.units;obtain⟨ps,pl⟩:=hd.pts.pts;obtain⟨ms,ml⟩:=hd.mks.mks;refine⟨_,(kxs 1 nd (kxF dR hr (ab (ay (pv 0) rfl) (ab (kxF aW hr (ab (pv 0) ak)) ak))) (aA (dD (i:=3) rfl nd rfl rfl rfl (bU (pv 1)) (ff (own := [("outline",2)]) rfl) (fun _ _ _ _ _=>(kxo 2 nd)) (fun _ _ _ _ _=>dh) (fun _ _ _ _ _=>(kxF kI hr (ab (yQ (K:=K) rfl (pv 0) rfl) (ab (pv 2) ak))))) (kxs 4 nd u0 (kxs 5 nd (aG ak) (aA (bC PassesOwn.never rfl (dP (by rfl) T.aV (ab (ay (pv 0) rfl) ak)) (dv rfl (aJ (kxo 6 nd) (aJ (kxo 7 nd) b8))) (kxs 8 nd (kxF mV hr (ab (pv 7) (ab (pv 3) ak))) (kxf (ig (ab7 hu (pv 8) (pv 4))) (kxK cI hr (ab (aG (ab ao (ab (jr (pv 0) bo (hr.mono (by decide)) (ab (pv 6) ak)) ak))) (ab (aG ak) ak))) (aA (pJ hu (pv 4) (pv 8) kn rfl) (aF (iM (kxA (pv 5) (kxK aam hr (ab (kxT (pv 7) ao) (ab (aaG rfl nd (bU (kxI (pv 1) (pv 8))) (ff (own := [("corner",9)]) rfl) (fun _ _ _ _ _=>(kxo 9 nd)) (fun _ _ _ _ _=>dh) (fun _ _ _ _ _=>(sS (ur (K:=K) rfl) (yQ (K:=K) rfl (pv 0) rfl) (pv 9) (fun _ _=>rfl)))) ak)))))))))) (kxf (kxl (cT mL (by rfl) T.bD PySem.boot_len (ab (pv 4) ak)) (kxL T.bD (pv 1))) (kxK cI hr (ab (aG (ab ao (ab (afr (pv 0) gF (hr.mono (by decide))) ak))) (ab (aG ak) ak))) (kxr (kxK cI hr (ab (aG ak) (ab (pv 5) ak)))))))))),?_⟩;refine⟨_,rfl,fl hd.ob T.draw qa ⟨_,rfl,?_⟩⟩;refine⟨d,dx,lp,ll,lm,S,rfl,hd,lk,fit.pn,fit.ln,fun H1 a as s1 na => ?_⟩;refine⟨lp,a,as,S,ps,rfl,pl.same s1,fit.sm,na,R,fit.ln,fun H2 L ls s2' lnn => ?_⟩;have s2:=s1.trans s2';refine⟨_,rfl,L,rfl,⟨_,SqL.of lnn.lst⟩,fun c hc => ?_⟩;refine kq (J:=Itl K L) c (bK S).length (fun i H'=>aL H2 H'∧∃ss,OL H' c S.pts ((bK S).take i) ss∧∀l∈ss,l≠c)
  ⟨ah hc,[],⟨ag,by simp,fun j l o e=>by simp at e⟩,fun l hl=>nomatch hl⟩ ?_ ?_ ?_
 ·rintro i H' hi ⟨sH,_⟩
  refine⟨_,.ref (ls[i]'(by rw[lnn.len];exact hi)),SqL.of (sH _ _ lnn.lst),?_⟩;rw[Am,Aa];rfl
 ·rintro i x H' H3 hi ⟨sH,ss,ol,nec⟩ ⟨rfl,hx⟩
  have hil:i<ls.length:=by rw[lnn.len];exact hi
  have ex:=hx _ (SqL.of (sH _ _ lnn.lst));rw[Am,Aa hil] at ex;obtain rfl:V.ref ls[i]=x:=Ac ex;have hl:=lnn.at_ i _ _ (Aa hil) (Aa hi);obtain⟨ok1,ok2⟩:=tR R fit.ln (Bb hi);have sHH:=s2.trans sH;refine⟨rfl,lA ⟨_,rfl,fl (sHH _ _ hd.ob) T.draw qa ⟨_,rfl,lp,ls[i],S.pts,ps,(bK S)[i],rfl,pl.same sHH,sH _ _ hl,ok1,ok2,fun H4 sl ts s4 hsl sd => ?_⟩⟩⟩;have ol4:=ol.same s4;have ssl:ss.length=i:=by rw[ol.len,A2];omega
  refine⟨_,ol4.lst,by rw[Ab,ssl];exact ck (by have:=wV R fit.ln;omega),aH (sH.trans s4) hc,ss++[sl],?_⟩;have slc:sl≠c:=fun z=>by rw[z,ol.lst] at hsl;cases hsl
  have nt:∀{z:Addr} {ys:List V},H4 z=some (.tup ys)→z≠c:=fun e=>sV e ol4.lst (fun y=>nomatch y);have ku:∀{l:Addr} {o:List Nat} {tt:List Addr},l≠c→SD H4 l S.pts o tt→SD (upd H4 c (.lst (ss.map V.ref++[.ref sl]))) l S.pts o tt:=fun nl sd=>⟨by rw[az nl];exact sd.lst,sd.len,fun j t e e1 e2=>by
   obtain⟨p,q,a1,a2,a3⟩:=sd.at_ j t e e1 e2;exact⟨p,q,by rw[az (nt a1)];exact a1,by rw[az (nt a2)];exact a2,by rw[az (nt a3)];exact a3⟩⟩
  refine⟨⟨by rw[ag,As];rfl,by rw[Ai,ssl,A2];simp;omega,fun j l o e1 e2 => ?_⟩,fun l hl => ?_⟩
  ·by_cases hj:j<ss.length
   ·rw[Aw hj] at e1
    rw[AF (by omega)] at e2;obtain⟨tt,sdd⟩:=ol4.at_ j l o e1 (by rw[AF (by omega)];exact e2);exact⟨tt,ku (nec l (A4 e1)) sdd⟩
   ·have hj':j=ss.length:=by
     have:=(List.getElem?_eq_some_iff.mp e1).1;rw[Ai] at this;simp at this;omega
    rw[hj',Ao (Ae _),AO] at e1;obtain rfl:sl=l:=Ac e1;rw[hj',ssl,AF (by omega),Aa hi] at e2;obtain rfl:=Ac e2;exact⟨ts,ku slc sd⟩
  ·rcases List.mem_append.mp hl with z|z
   ·exact nec l z
   ·obtain rfl:l=sl:=by simpa using z
    exact slc
 ·rintro H3 ⟨sH,ss,ol,_⟩
  rw[Bm] at ol;have s3:=s2.trans sH;refine⟨⟨_,SqL.of (sH _ _ lnn.lst),by rw[Ab,lnn.len];exact Ae _⟩,?_⟩;intro dd hdd;refine⟨Av _,fun pp hpp => ?_⟩;have pd:pp≠dd:=Ne.symm (aN (H:=upd H3 dd (.dK [])) ag hpp);have hpn3:H3 pp=Option.none:=(ah (o:=.dK []) hdd).free hpp;have lnn3:=lnn.same sH;have s4:aL H3 (upd (upd H3 dd (.dK [])) pp (.lst [])):=(ah hdd).trans (ah hpp);have e1:(upd (upd H3 dd (.dK [])) pp (.lst [])) dd=some (.dK (dkV [])):=by rw[az (Ne.symm pd)];exact ag
  have e2:PnV ad (upd (upd H3 dd (.dK [])) pp (.lst [])) pp S.pts [] []:=⟨ag,rfl,fun j p x e=>by simp at e⟩;generalize (upd (upd H3 dd (.dK [])) pp (.lst []))=H4 at *
  refine⟨_,rfl,fl (s4 _ _ (s3 _ _ hd.ob)) T.draw agZ ⟨lm,ms,rfl,SqL.of (s4 _ _ (s3 _ _ ml.lst)),cS (K:=K) (a:=lm) (xs:=ms)
   (fun i σ H'=>(∃v2 v6 v7 v8 v9,σ=[some (.ref d),some (.ref L),v2,some (.ref c),some (.ref dd),some (.ref pp),v6,v7,v8,v9])∧aL H3 H'∧H' dd=some (.dK (dkV ((List.range i).map fun k=>(nS S k).getD 0)))∧(∃pps,PnV ad H' pp S.pts ((List.range i).map (fZ S)) pps)∧∀e,e<i→acQ S e=false)
   ⟨⟨_,_,_,_,_,rfl⟩,s4,e1,⟨[],e2⟩,fun e he=>absurd he (AE e)⟩ (fun i σ H' _ ⟨_,e,_⟩=>SqL.of (e _ _ (s3 _ _ ml.lst))) ?_ ?_⟩⟩
  ·rintro i x σ H' t hx ⟨⟨v2,v6,v7,v8,v9,rfl⟩,sH',hdk,⟨pps,pv⟩,no⟩ ht
   have hi:i<S.marks.length:=by
    have:=(List.getElem?_eq_some_iff.mp hx).1;rw[ml.len] at this;exact this
   obtain⟨b,eb,qb⟩:=ml.at_ i hi;rw[eb] at hx;obtain rfl:=Ac hx;refine⟨t,_,rfl,SqT.of ag,rfl,_,_,rfl,_,_,rfl,rfl,?_⟩;have st:=ah (o:=.tup [.int (i:Nat),.ref b]) ht;have s5:=sH'.trans st;have hdk5:=st _ _ hdk;have pv5:=pv.same st;generalize upd H' t (.tup [.int (i:Nat),.ref b])=H5 at *
   have s35:=s3.trans s5;refine⟨_,rfl,_,rfl,b,c,((S.marks.getD i m0).at_.x:Int),((S.marks.getD i m0).at_.y:Int),_,S.pts,bK S,ss,rfl,s35 _ _ qb,ol.same s5,fit.sm,fun H6 s6 => ?_⟩;obtain⟨jx,ej⟩:=hpn i hi;have ev:aaD (rm S.pts (bK S) ((S.marks.getD i m0).at_.x:Int) ((S.marks.getD i m0).at_.y:Int))=.int (jx:Int):=by
    have:rm S.pts (bK S) ((S.marks.getD i m0).at_.x:Int) ((S.marks.getD i m0).at_.y:Int)=some jx:=ej;rw[this];rfl
   rw[ev];have s36:=s35.trans s6;have hdk6:=s6 _ _ hdk5;have pv6:=pv5.same s6;refine⟨_,rfl,_,rfl,dd,_,rfl,sO.k (k:=Sum.inl (jx:Int)) hdk6,_,rfl,?_⟩;rw[qK];have dupi:jx∈((List.range i).map fun k=>(nS S k).getD 0)↔acQ S i=true:=by
    unfold acQ;rw[Du,AV]
    constructor
    ·rintro⟨k,hk,e⟩
     refine⟨k,hk,Ak ?_⟩;rw[AZ] at hk;obtain⟨jk,ek⟩:=hpn k (by omega);rw[ek] at e;rw[ek,ej];exact congrArg some e
    ·rintro⟨k,hk,e⟩
     refine⟨k,hk,?_⟩;rw[Al e,ej];rfl
   by_cases dz:jx∈((List.range i).map fun k=>(nS S k).getD 0)
   ·rw[Ag dz]
    have gB:mE S=some (12,abN S i):=by
     unfold mE;rw[aY hi (dupi.mp dz) no]
    refine f6 ⟨_,rfl,d,dx,_,rfl,s36 _ _ hd.ob,rfl,_,rfl,d,dx,lp,ll,lm,S,_,rfl,hd.same s36,by show 2≤sizeLine;decide,fun lb hlb=>⟨Av _,fun le hle=>ro rfl ?_⟩⟩;have sb:=ah (o:=.lst [.int 12,.int (20+8*(S.pts.length:Int)+4*(S.lines.length:Int)+12*((i:Nat):Int))]) hlb;have se:=ah (o:=.lst []) hle;refine jz (b:=some (12,abN S i)) (xs := []) (pts:=S.pts) (se _ _ ag) (pO ag) fun H7 cc s7 ca=>q H7 cc (s36.trans (sb.trans (se.trans s7))) ?_;have gP:mN S=[]:=by unfold mN;rw[gB];rfl
    rw[gB,gP];exact ca
   ·rw[Ad dz]
    have ndup:acQ S i=false:=Bool.eq_false_iff.mpr fun y=>dz (dupi.mpr y);refine fS ⟨_,rfl,_,rfl,dd,_,rfl,aaB.k (k:=Sum.inl (jx:Int)) hdk6 (aZ (by unfold dkV;rw[Ab,Ab,Au];omega)),?_⟩;rw[xp dz];have eR:((List.range i).map fun k=>(nS S k).getD 0)++[jx]=(List.range (i+1)).map fun k=>(nS S k).getD 0:=by
     rw[Bj,As,BS,ej];rfl
    rw[eR];have s7:aL H3 (upd H6 dd (.dK (dkV ((List.range (i+1)).map fun k=>(nS S k).getD 0)))):=aH (s5.trans s6) hdd;have pv7:=pv6.dk (k1:=dkV ((List.range (i+1)).map fun k=>(nS S k).getD 0)) hdk6;have hdk7:(upd H6 dd (.dK (dkV ((List.range (i+1)).map fun k=>(nS S k).getD 0)))) dd=some (.dK (dkV ((List.range (i+1)).map fun k=>(nS S k).getD 0))):=ag;generalize (upd H6 dd (.dK (dkV ((List.range (i+1)).map fun k=>(nS S k).getD 0))))=H7 at *
    have s37:=s3.trans s7;have lnn7:=lnn3.same s7;have hjx:jx<(bK S).length:=(xF ej).1;have hjl:jx<ls.length:=by rw[lnn7.len];exact hjx
    have hlo:=lnn7.at_ jx _ _ (Aa hjl) (Aa hjx);obtain⟨ok1,ok2⟩:=tR R fit.ln (Bb hjx);have ppn:fZ S i=((S.marks.getD i m0).glass,(bK S)[jx]'hjx):=by
     unfold fZ;rw[ej];show((S.marks.getD i m0).glass,(bK S).getD jx [])=_;have e0:(bK S).getD jx []=(bK S)[jx]'hjx:=by rw[Aj,Aa hjx];rfl
     rw[e0]
    generalize ho:(bK S)[jx]'hjx=o at *
    generalize hlo2:ls[jx]=lo at *
    have glo:(ls.map V.ref)[jx]? = some (.ref lo):=by rw[Am,Aa hjl,hlo2];rfl
    refine⟨_,rfl,.inl ⟨rfl,_,SqL.of pv7.lst⟩,dG (j:=2) rfl (SqT.of (s37 _ _ qb)) rfl ⟨_,rfl,_,rfl,L,_,_,_,rfl,rfl,SqL.of lnn7.lst,aM glo,lo,rfl,⟨_,SqL.of hlo⟩,fun cc hcc => ?_⟩⟩;have vl:∀n,n<o.length→∃k p,o[n]? = some k∧ps[k]? = some (.ref p)∧H p=some (ptO S.pts k):=fun n hn=>by
     have hm:=ok1 o[n] (Bb hn);obtain⟨p,e1,e2⟩:=pl.at_ _ hm;exact⟨o[n],p,Aa hn,e1,e2⟩
    refine kq (J:=Itl K lo) cc o.length (fun n H'=>aL H7 H'∧H' cc=some (.lst ((o.take n).map fun k=>(ps[k]?).getD .non)))
     ⟨ah hcc,ag⟩ ?_ ?_ ?_
    ·rintro n H8 hn ⟨s8,_⟩
     obtain⟨k,p,e,_⟩:=vl n hn;exact⟨_,.int (k:Int),SqL.of (s8 _ _ hlo),by rw[Am,e];rfl⟩
    ·rintro n x H8 H9 hn ⟨s8,hc8⟩ ⟨rfl,hx⟩
     obtain⟨k,p,e,e1,e2⟩:=vl n hn;have ex:=hx _ (SqL.of (s8 _ _ hlo));rw[Am,e] at ex;obtain rfl:V.int (k:Int)=x:=Ac ex;have s38:=s37.trans s8;refine⟨rfl,lA ⟨_,rfl,fl (s38 _ _ hd.ob) T.draw qa ⟨_,rfl,lp,_,_,_,rfl,rfl,SqL.of (s38 _ _ pl.lst),aM e1,_,hc8,?_,aH s8 hcc,?_⟩⟩⟩
     ·rw[Ab,A2];exact ck (by omega)
     ·rw[ag,take_snoc e,As,BS,e1];rfl
    ·rintro H8 ⟨s8,hc8⟩
     rw[AK (Ae _)] at hc8;refine⟨⟨_,SqL.of (s8 _ _ hlo),by rw[Ab];exact Ae _⟩,?_⟩;refine tf ?_;intro px dxp n1 n2 ne;refine⟨px,dxp,[.int ((S.marks.getD i m0).glass:Int),.ref cc],rfl,rfl,ag,rfl,?_⟩;rw[bQ];have s38:=s37.trans s8;have s9:aL H8 (upd (upd H8 dxp (.own px)) px (.ins ad.pane dxp (oo [.int ((S.marks.getD i m0).glass:Int),.ref cc]))):=(ah n2).trans (ah (by rw[az (Ne.symm ne)];exact n1));have gx:(upd (upd H8 dxp (.own px)) px (.ins ad.pane dxp (oo [.int ((S.marks.getD i m0).glass:Int),.ref cc]))) px=some (.ins ad.pane dxp [("glass",.int ((S.marks.getD i m0).glass:Int)),("corners",.ref cc)]):=ag;have pv9:=(pv7.same s8).same s9;have hc9:=s9 _ _ hc8;have ccp:cc≠pp:=fun z=>by rw[z,pv7.lst] at hcc;cases hcc
     have pa:iw ad (upd (upd H8 dxp (.own px)) px (.ins ad.pane dxp (oo [.int ((S.marks.getD i m0).glass:Int),.ref cc]))) px S.pts (fZ S i) pp:=by
      rw[ppn];refine⟨dxp,cc,o.map fun k=>ahA ((ps[k]?).getD .non),gx,?_,ccp,by rw[Ab],fun j ca k ej' ek => ?_⟩
      ·rw[hc9,AX]
       refine congrArg (fun z=>some (HO.lst z)) (Ce fun k hk => ?_);obtain⟨p,e1,_⟩:=pl.at_ _ (ok1 k hk);show(ps[k]?).getD .non=V.ref (ahA ((ps[k]?).getD .non));rw[e1];rfl
      ·rw[Am,ek] at ej'
       obtain⟨p,e1,e2⟩:=pl.at_ _ (ok1 k (A4 ek));have:ahA ((ps[k]?).getD .non)=ca:=Ac ej';rw[e1] at this;obtain rfl:p=ca:=this;exact s9 _ _ (s38 _ _ e2)
     have s39:=s38.trans s9;have hdk9:=s9 _ _ (s8 _ _ hdk7);have s79:=s7.trans (s8.trans s9);generalize (upd (upd H8 dxp (.own px)) px (.ins ad.pane dxp (oo [.int ((S.marks.getD i m0).glass:Int),.ref cc])))=H9 at *
     refine⟨pp,_,_,rfl,rfl,pv9.lst,?_,?_⟩
     ·rw[Ab,pv9.len,Ab,Au];exact aZ (by omega)
     refine⟨⟨_,_,_,_,_,rfl⟩,aH s79 hpn3,?_,⟨pps++[px],?_⟩,b7 no ndup⟩
     ·rw[az (Ne.symm pd)];exact hdk9
     ·have:=pv9.snoc pa
      rw[Bj,As];exact this
  ·rintro σ H' ⟨⟨v2,v6,v7,v8,v9,rfl⟩,sH',hdk,⟨pps,pv⟩,no⟩
   rw[ml.len] at hdk pv no;have s5:=s3.trans sH';have lnn5:=lnn3.same sH';refine⟨_,rfl,dd,_,rfl,hdk,_,rfl,L,_,rfl,.inl (SqL.of lnn5.lst),_,_,rfl,rfl,_,rfl,?_⟩;have l1:(dkV ((List.range S.marks.length).map fun k=>(nS S k).getD 0)).length=S.marks.length:=by unfold dkV;rw[Ab,Ab,Au]
   have l2:(ls.map V.ref).length=(bK S).length:=by rw[Ab,lnn5.len]
   rw[l1,l2,aad];refine bJ (fun z => ?_) (fun z => ?_)
   ·have z':S.marks.length<(bK S).length:=Al z
    have gB:mE S=some (13,20+8*(S.pts.length:Int)+4*(S.lines.length:Int)+12*(S.marks.length:Int)):=by
     unfold mE;rw[ba no];show(if _ then _ else _)=_;rw[Ag z']
    refine⟨_,rfl,d,dx,_,rfl,s5 _ _ hd.ob,rfl,d,dx,lp,ll,lm,S,rfl,hd.same s5,by show 2≤sizeLine;decide,fun lb hlb=>⟨Av _,fun le hle=>ro rfl ?_⟩⟩;have sb:=ah (o:=.lst [.int 13,.int (20+8*(S.pts.length:Int)+4*(S.lines.length:Int)+12*(S.marks.length:Int))]) hlb;have se:=ah (o:=.lst []) hle;refine jz (b:=some (13,20+8*(S.pts.length:Int)+4*(S.lines.length:Int)+12*(S.marks.length:Int))) (xs := []) (pts:=S.pts) (se _ _ ag) (pO ag) fun H7 cc s7 ca=>q H7 cc (s5.trans (sb.trans (se.trans s7))) ?_;have gP:mN S=[]:=by unfold mN;rw[gB];rfl
    rw[gB,gP];exact ca
   ·have z':¬S.marks.length<(bK S).length:=fun y=>z (Ak y)
    have gB:mE S=none:=by
     unfold mE;rw[ba no];show(if _ then _ else _)=_;rw[Ad z']
    refine⟨Av _,fun lb hlb=>⟨_,rfl,ro rfl ?_⟩⟩;have sb:=ah (o:=.lst []) hlb;refine jz (b:=none) (xs:=(List.range S.marks.length).map (fZ S)) (pts:=S.pts) ag (pv.same sb).to fun H7 cc s7 ca=>q H7 cc (s5.trans (sb.trans s7)) ?_;have gP:mN S=(List.range S.marks.length).map (fZ S):=by unfold mN;rw[gB];rfl
    rw[gB,gP];exact ca
end
theorem cy{n:Nat}{p q:Nat→Bool}(h:∀i,i<n→p i=q i):aQ n p=aQ n q:=by
 unfold aQ;have:∀l:List Nat,(∀i∈l,p i=q i)→l.find? p=l.find? q:=by
  intro l
  induction l with
  | nil=>intro _;rfl
  | cons a r ih =>
   intro h;rw[Bu,Bu,h a Ah,ih fun i hi=>h i (Af _ hi)]
 exact this _ fun i hi=>h i (List.mem_range.mp hi)
theorem gm{n i:Nat}{p:Nat→Bool}(h:aQ n p=some i):i<n∧p i=true∧∀j,j<i→p j=false:=by
 unfold aQ at h;rw[C5] at h;obtain⟨a,k,hk,e,b⟩:=h;rw[Cp] at e;subst e;rw[Au] at hk;refine⟨hk,a,fun j hj => ?_⟩;have:=b j hj;rw[Cp] at this
 simpa using this
theorem getD_at{α:Type}{l:List α}{i:Nat}(d:α)(hi:i<l.length):l.getD i d=l[i]:=by rw[Aj,Aa hi];rfl
theorem kj{α:Type}(d:α)(p:Nat→α→Bool)(l:List α):Gla.firstAt p l=aQ l.length fun i=>p i (l.getD i d):=by
 cases h:aQ l.length fun i=>p i (l.getD i d) with
 | none =>
  have no:=cC h;unfold Gla.firstAt;rw[Dx];refine find_none fun i a hi e => ?_;rw[List.length_zipIdx] at hi;rw[CA,Aa hi] at e;obtain rfl:=Ac e;have:=no i hi;rw[getD_at d hi] at this
  simpa using this
 | some i =>
  obtain⟨hi,hp,no⟩:=gm h;unfold Gla.firstAt;rw[getD_at d hi] at hp;rw[find_some (i:=i) (a:=(l[i],i)) (by rw[CA,Aa hi];simp) hp fun j b hj e => ?_]
  ·rfl
  ·rw[CA,Aa (by omega)] at e
   obtain rfl:=Ac e;have:=no j hj;rw[getD_at d (by omega)] at this
   simpa using this
theorem iK{α:Type}(d:α)(ok:α→Bool)(bf:α→α→Bool)(l:List α):Gla.firstBad ok bf l=aQ l.length fun i => !ok (l.getD i d)||(decide (0<i) && !bf (l.getD (i-1) d) (l.getD i d)):=by
 unfold Gla.firstBad;rw[kj d];refine cy fun i hi => ?_
 by_cases h:0<i
 ·have e:l[i-1]? = some (l.getD (i-1) d):=by rw[getD_at d (by omega),Aa]
  rw[e]
 ·rw[Ax h,A5,A5]
theorem kR(p q:Pt):kg p.x p.y q.x q.y=Pt.below q p:=by
 unfold kg Pt.below
 congr 2
 by_cases h:p.y=q.y
 ·rw[h];simp
 ·rw[Ax h];symm;rw[D7];omega
theorem jG(S:Plan):Gla.firstBad (fun(p:Pt)=>decide (p.x≤S.w)&&decide (p.y≤S.h)) Pt.below S.pts=aQ S.pts.length (dN S):=by
 rw[iK ⟨0,0⟩];refine cy fun i hi => ?_;unfold dN;rw[kR]
 congr 1
 rw[CJ]
 congr 1
 ·rw[← BD];exact decide_eq_decide.mpr (by omega)
 ·rw[← BD];exact decide_eq_decide.mpr (by omega)
theorem rj(a b:Nat×Nat):lx true [(a.1:Int),(a.2:Int)] [(b.1:Int),(b.2:Int)] = !Gla.lineBelow b a:=by
 unfold lx Gla.lineBelow
 by_cases h:a.1=b.1
 ·rw[Ag (by omega)]
  unfold lx;rw[h];have e1:decide (b.1<b.1)=false:=Ax (Bh _);rw[e1,C6,Di,AU]
  by_cases h2:a.2=b.2
  ·rw[Ag (by omega),h2,Ax (Bh _)];rfl
  ·rw[Ad (by omega),← BD];exact decide_eq_decide.mpr (by omega)
 ·rw[Ad (by omega)]
  have e1:(b.1==a.1)=false:=by rw[D7];omega
  rw[e1,A5,DA,← BD];exact decide_eq_decide.mpr (by omega)
theorem mC(S:Plan):Gla.firstBad (fun(l:Nat×Nat)=>decide (l.1<l.2)&&decide (l.2<S.pts.length)) Gla.lineBelow S.lines=aQ S.lines.length (cM S):=by
 rw[iK (0,0)];refine cy fun i hi => ?_;unfold cM lnI;rw[rj]
 congr 1
 rw[CJ]
 congr 1
 ·rw[← BD];exact decide_eq_decide.mpr (by omega)
 ·rw[← BD];exact decide_eq_decide.mpr (by omega)
theorem agk{l:List Nat}(h:l.Pairwise (· < ·)):∀e∈l.zip (l.drop 1),e.1<e.2:=by
 induction l with
 | nil=>intro e he;simp at he
 | cons a r ih =>
  intro e he;rw[CF,BN] at he;cases r with
  | nil=>simp at he
  | cons b t =>
   rw[Co] at he;rcases List.mem_cons.mp he with rfl|he
   ·exact(List.pairwise_cons.mp h).1 b Ah
   ·refine ih (List.pairwise_cons.mp h).2 e ?_
    rw[CF,BN];exact he
theorem abD{S:Plan}{l:List Nat}(h:l.Pairwise (· < ·)):Gla.chained S l=lO S l:=by
 unfold Gla.chained lO;have:∀m:List (Nat×Nat),(∀e∈m,e.1<e.2)→(m.all fun(x:Nat×Nat)=>S.joined x.1 x.2)=m.all fun e=>decide (e∈S.lines):=by
  intro m
  induction m with
  | nil=>intro _;rfl
  | cons a r ih =>
   intro h;rw[Dd,Dd,ih fun e he=>h e (Af _ he)]
   congr 1
   have lt:=h a Ah;unfold Plan.joined;rw[B2 (by omega),Dk (by omega),D5]
 exact this _ (agk h)
theorem aaX(n:Nat):(List.range n).Pairwise (· < ·):=B5
theorem pN(S:Plan)(ax v:Nat)(on:Pt→Bool)(h:∀p,on p=decide (crd p ax=v)):Gla.chained S (Gla.edgePts S on)=lO S (fy S ax v):=by
 have e:Gla.edgePts S on=fy S ax v:=by
  unfold Gla.edgePts fy nR;refine congrArg (fun z=>List.filter z _) (funext fun k => ?_);rw[h];rfl
 rw[e];refine abD ?_;unfold fy nR;exact(aaX _).filter _
theorem acg(S:Plan):zN S = !Gla.frameOk S:=by
 unfold zN Gla.frameOk;rw[pN S 1 0 _ fun p=>by rw[AM];simp[crd],pN S 1 S.h _ fun p=>by rw[AM];simp[crd],pN S 0 0 _ fun p=>by rw[AM];simp[crd],pN S 0 S.w _ fun p=>by rw[AM];simp[crd]];unfold agL axL;simp only[Dd,List.all_nil,Dc,D5];rw[← CJ]
 congr 1
 ac_rfl
end Gs
namespace Gs
open PySem PySem.Spec PyProof.Rows L2
open Gla (Plan Pt Mark)
theorem zX(p q r:Pt):onZ (r.x:Int) (r.y:Int) (p.x:Int) (p.y:Int) (q.x:Int) (q.y:Int)=Gla.isOn p q r:=by
 unfold onZ Gla.isOn Gla.between;have e1:nG (p.x:Int) (p.y:Int) (q.x:Int) (q.y:Int) (r.x:Int) (r.y:Int)=Gla.turn p q r:=rfl;rw[e1,AM];simp only[Ar,Ap,Cm]
 constructor
 ·rintro⟨⟨a,b⟩,⟨c,d⟩,e⟩
  exact⟨e,⟨by omega,by omega⟩,by omega,by omega⟩
 ·rintro⟨e,⟨a,b⟩,c,d⟩
  exact⟨⟨by omega,by omega⟩,⟨by omega,by omega⟩,e⟩
def Bf(p q:Pt):Prop:=p.y<q.y∨(p.y=q.y∧p.x<q.x)
theorem aeW{p q r:Pt}(h:Bf p q)(hr:Bf r p):Gla.isOn p q r=false:=by
 rw[BZ];intro z;unfold Gla.isOn Gla.between at z;simp only[Ar,Ap,Cm] at z;obtain⟨t,⟨a,b⟩,c,d⟩:=z;unfold Bf at h hr;rcases hr with hr|⟨e,hr⟩
 ·omega
 ·rcases h with h|⟨e2,h⟩
  ·have:Gla.turn p q r=((q.y:Int)-p.y)*((p.x:Int)-r.x):=by unfold Gla.turn Gla.dx Gla.dy;rw[e];grind
   rw[this] at t;rcases Int.mul_eq_zero.mp t with u|u <;> omega
  ·omega
theorem adm{p q r:Pt}(h:Bf p q)(hr:Bf q r):Gla.isOn p q r=false:=by
 rw[BZ];intro z;unfold Gla.isOn Gla.between at z;simp only[Ar,Ap,Cm] at z;obtain⟨t,⟨a,b⟩,c,d⟩:=z;unfold Bf at h hr;rcases hr with hr|⟨e,hr⟩
 ·omega
 ·rcases h with h|⟨e2,h⟩
  ·have:Gla.turn p q r=((q.y:Int)-p.y)*((q.x:Int)-r.x):=by unfold Gla.turn Gla.dx Gla.dy;rw[e];grind
   rw[this] at t;rcases Int.mul_eq_zero.mp t with u|u <;> omega
  ·omega
theorem sgn_mul{a b:Int}:a*b<0↔(a<0∧0<b)∨(0<a∧b<0):=by
 constructor
 ·intro h
  rcases BX a 0 with u|u|u
  ·rcases BX b 0 with v|v|v
   ·have:=CS u v;omega
   ·rw[v] at h;simp at h
   ·exact .inl ⟨u,v⟩
  ·rw[u] at h;simp at h
  ·rcases BX b 0 with v|v|v
   ·exact .inr ⟨u,v⟩
   ·rw[v] at h;simp at h
   ·have:=A8 u v;omega
 ·rintro(⟨u,v⟩|⟨u,v⟩)
  ·exact Bv u v
  ·exact CQ u v
theorem vg(S:Plan)(i j k l:Nat):n4 S.pts i j k l=Gla.crosses (S.pt i) (S.pt j) (S.pt k) (S.pt l):=by
 unfold n4 qL Gla.crosses;have e:∀a b c,tnI S.pts a b c=Gla.turn (S.pt a) (S.pt b) (S.pt c):=fun _ _ _=>rfl;rw[e,e,e,e,AM];simp only[Ar,BU,Ap,sgn_mul]
theorem abw{p q r s:Pt}(h1:Bf r s)(h2:Bf s p)(h3:Bf p q):Gla.crosses p q r s=false:=by
 rw[BZ];intro z;unfold Gla.crosses at z;simp only[Ar,Ap,sgn_mul] at z;obtain⟨N,hN⟩:∃N:Int,(r.x:Int)<N∧(s.x:Int)<N∧(p.x:Int)<N∧(q.x:Int)<N:=⟨(r.x:Int)+s.x+p.x+q.x+1,by omega,by omega,by omega,by omega⟩;have ht:∀a b:Pt,(a.x:Int)<N→(b.x:Int)<N→Bf a b→N*a.y+a.x<N*b.y+b.x:=by
  intro a b ha hb h;rcases h with h|⟨h,h'⟩
  ·have:N*(a.y:Int)+N≤N*b.y:=by
    have e:N*(b.y:Int)=N*(a.y:Int)+N*((b.y:Int)-a.y):=by grind
    have:N*1≤N*((b.y:Int)-a.y):=Bo (by omega) (by omega);omega
   omega
  ·rw[h];omega
 have f1:=ht r s hN.1 hN.2.1 h1;have f2:=ht s p hN.2.1 hN.2.2.1 h2;have f3:=ht p q hN.2.2.1 hN.2.2.2 h3;generalize hA:Gla.turn p q s=A at z;generalize hB:Gla.turn p q r=B at z;generalize hC:Gla.turn r s q=C at z;generalize hD:Gla.turn r s p=D at z;have i1:A-B+C-D=0:=by rw[← hA,← hB,← hC,← hD];unfold Gla.turn Gla.dx Gla.dy;grind
 have i2:A*(N*r.y+r.x)-B*(N*s.y+s.x)+C*(N*p.y+p.x)-D*(N*q.y+q.x)=0:=by
  rw[← hA,← hB,← hC,← hD];unfold Gla.turn Gla.dx Gla.dy;grind
 generalize N*(r.y:Int)+r.x=fr at *
 generalize N*(s.y:Int)+s.x=fs at *
 generalize N*(p.y:Int)+p.x=fp at *
 generalize N*(q.y:Int)+q.x=fq at *
 obtain⟨u1,u2⟩:=z;rcases u1 with⟨b1,a1⟩|⟨b1,a1⟩
 ·
  have cd:C<0∧0<D:=by omega
  have m1:0<A*(fs-fr):=A8 a1 (by omega);have m2:0<D*(fq-fp):=A8 cd.2 (by omega);have m3:0<(A-B)*(fp-fs):=A8 (by omega) (by omega);have:A*(fs-fr)+D*(fq-fp)+(A-B)*(fp-fs)=0:=by
   have e:D=A-B+C:=by omega
   have i2':=i2;rw[e] at i2' ⊢
   grind
  omega
 ·have cd:0<C∧D<0:=by omega
  have m1:A*(fs-fr)<0:=Bv a1 (by omega);have m2:D*(fq-fp)<0:=Bv cd.2 (by omega);have m3:(A-B)*(fp-fs)<0:=Bv (by omega) (by omega);have:A*(fs-fr)+D*(fq-fp)+(A-B)*(fp-fs)=0:=by
   have e:D=A-B+C:=by omega
   have i2':=i2;rw[e] at i2' ⊢
   grind
  omega
theorem sx{p q r:Pt}:Gla.crosses p q r p=false:=by
 unfold Gla.crosses;have:Gla.turn p q p=0:=by unfold Gla.turn Gla.dx Gla.dy;grind
 rw[this];simp
section
variable {S:Plan}(r4:Gla.firstBad (fun(p:Pt)=>decide (p.x≤S.w)&&decide (p.y≤S.h)) Pt.below S.pts=none)(lo:rV S)
include r4
theorem po4{i j:Nat}(hij:i<j)(hj:j<S.pts.length):Bf (S.pt i) (S.pt j):=by
 have:=Geo.tF (r:=fun(p q:Pt)=>p.y<q.y∨(p.y=q.y∧p.x<q.x)) (by intro a b c h1 h2;omega) (l:=S.pts) (fun i hi=>by
  have:=(Geo.cD r4).2 i hi;unfold Pt.below at this
  simpa using this) i j hij hj
 unfold Plan.pt;rw[getD_at _ hj,getD_at _ (by omega)];exact this
include lo
theorem ye:Gla.firstAt (Gla.touches S) S.lines=aQ S.lines.length (l4 S):=by
 rw[kj (0,0)];refine cy fun i hi => ?_;have hl:=lo.at_ hi;unfold Gla.touches l4;generalize el:S.lines.getD i (0,0)=l at *
 congr 1
 ·unfold zd
  rw[AM,AV,AV];have oe:∀k,onI S.pts k l.1 l.2=Gla.isOn (S.pt l.1) (S.pt l.2) (S.pt k):=fun k=>zX _ _ _
  constructor
  ·rintro⟨k,hk,h⟩
   rw[AZ] at hk;simp only[Ar,bne_iff_ne,ne_eq] at h;obtain⟨n1,n2,on⟩:=h;have a1:l.1<k:=by
    rcases Bd k l.1 with u|u|u
    ·rw[aeW (po4 r4 hl.1 hl.2) (po4 r4 u (by omega))] at on;cases on
    ·exact absurd u n1
    ·exact u
   have a2:k<l.2:=by
    rcases Bd k l.2 with u|u|u
    ·exact u
    ·exact absurd u n2
    ·rw[adm (po4 r4 hl.1 hl.2) (po4 r4 u hk)] at on;cases on
   refine⟨k-(l.1+1),List.mem_range.mpr (by omega),?_⟩;rw[oe];have:l.1+1+(k-(l.1+1))=k:=by omega
   rw[this];exact on
  ·rintro⟨d,hd,h⟩
   rw[AZ] at hd;rw[oe] at h;refine⟨l.1+1+d,List.mem_range.mpr (by omega),?_⟩;simp only[Ar,bne_iff_ne,ne_eq];exact⟨by omega,by omega,h⟩
 ·unfold qV
  rw[el,AM,AV,AV]
  constructor
  ·rintro⟨m,hm,h⟩
   obtain⟨e,he,em⟩:=List.mem_iff_getElem.mp hm;rw[A2] at he;rw[CW] at em;have ge:S.lines.getD e (0,0)=m:=by rw[getD_at _ (by omega),em]
   have hm2:=lo.at_ (i:=e) (by omega);rw[ge] at hm2;refine⟨e,List.mem_range.mpr (by omega),?_⟩;rw[ge,Ar,vg];refine⟨Ak ?_,h⟩;rcases Bd l.1 m.2 with u|u|u
   ·exact u
   ·rw[← u,sx] at h;cases h
   ·rw[abw (po4 r4 hm2.1 hm2.2) (po4 r4 u (by omega)) (po4 r4 hl.1 hl.2)] at h;cases h
  ·rintro⟨e,he,h⟩
   rw[AZ] at he;rw[Ar,vg] at h;refine⟨S.lines.getD e (0,0),?_,h.2⟩;rw[getD_at _ (by omega)];rw[D3];exact⟨e,by rw[A2];omega,by rw[CW]⟩
end
open Geo.Rules (bK)
theorem ad8(S:Plan)(m:Mark):abf S m=Gla.onLines S m.at_:=by
 unfold abf Gla.onLines;rw[AM,AV,AV]
 constructor
 ·rintro⟨e,he,h⟩
  rw[AZ] at he;refine⟨S.lines.getD e (0,0),by rw[getD_at _ he];exact Bb he,?_⟩;have:=zX (S.pt (S.lines.getD e (0,0)).1) (S.pt (S.lines.getD e (0,0)).2) m.at_;rw[← this];exact h
 ·rintro⟨l,hl,h⟩
  obtain⟨e,he,el⟩:=List.mem_iff_getElem.mp hl;have ge:S.lines.getD e (0,0)=l:=by rw[getD_at _ he,el]
  refine⟨e,List.mem_range.mpr he,?_⟩;unfold onM;rw[ge];have:=zX (S.pt l.1) (S.pt l.2) m.at_;rw[← this] at h;exact h
theorem uC(S:Plan)(m:Mark):Gla.clear S m.at_=(iQ S m && !abf S m):=by
 rw[ad8];unfold Gla.clear iQ;simp only[Bool.and_assoc]
theorem yK(S:Plan):Gla.firstBad (Gla.markOk S) Gla.markBelow S.marks=aQ S.marks.length (cW S):=by
 rw[iK m0];refine cy fun i hi => ?_;unfold cW Gla.markOk Gla.markBelow;rw[uC,kR,CJ,Bool.not_not]
def uJ(S:Plan):Option Gla.Fault:=match Gla.twice S S.outlines 0 [] S.marks with
 | some i=>some ⟨12,Gla.markPlace S i⟩
 | none=>if S.marks.length<S.outlines.length then some ⟨13,S.size⟩ else none
theorem mP(S:Plan) :
  (∃(r p:Nat),oE S=some (r,(p:Int))∧S.fault=some ⟨r,p⟩) ∨
  (oE S=none∧S.fault=uJ S∧rV S∧(1≤S.w→1≤S.h→Geo.Rules S)∧∀k,k<S.marks.length→Gla.clear S (S.marks.getD k m0).at_=true):=by
 have bodyJ:oE S=acm 4 (aeR S):=rfl;unfold Plan.fault;unfold aeR at bodyJ;cases h4:aQ S.pts.length (dN S) with
 | some i =>
  left
  refine⟨4,Gla.ptPlace i,?_,?_⟩
  ·rw[bodyJ,h4];rfl
  ·rw[jG,h4]
 | none =>
 cases h5:aQ S.lines.length (cM S) with
 | some i =>
  left
  refine⟨5,Gla.linePlace S i,?_,?_⟩
  ·rw[bodyJ,h4,h5]
   show some (5,aaI S i)=_;unfold aaI Gla.linePlace Gla.HEAD;simp
  ·rw[jG,h4]
   simp only[];rw[mC,h5]
 | none =>
 have lo:=yI h5;cases h6:zN S with
 | true =>
  left
  refine⟨6,20,?_,?_⟩
  ·rw[bodyJ,h4,h5,h6];rfl
  ·rw[jG,h4]
   simp only[];rw[mC,h5];simp only[];rw[acg] at h6;rw[Ag (by simpa using h6)];rfl
 | false =>
 have h6':Gla.frameOk S=true:=by rw[acg] at h6;simpa using h6
 have r4:Gla.firstBad (fun(p:Pt)=>decide (p.x≤S.w)&&decide (p.y≤S.h)) Pt.below S.pts=none:=by rw[jG,h4]
 have r5:Gla.firstBad (fun(l:Nat×Nat)=>decide (l.1<l.2)&&decide (l.2<S.pts.length)) Gla.lineBelow S.lines=none:=by rw[mC,h5]
 rw[r4,r5];simp only[];rw[Ad (by rw[h6'];exact Bool.noConfusion)];cases h7:aQ S.lines.length (l4 S) with
 | some i =>
  left
  refine⟨7,Gla.linePlace S i,?_,?_⟩
  ·rw[bodyJ,h4,h5,h6,h7]
   show some (7,aaI S i)=_;unfold aaI Gla.linePlace Gla.HEAD;simp
  ·rw[ye r4 lo,h7]
 | none =>
 have r7:Gla.firstAt (Gla.touches S) S.lines=none:=by rw[ye r4 lo,h7]
 rw[r7];simp only[];have e8:((List.range S.pts.length).find? fun(i:Nat)=>decide ((S.near i).length<2))=aQ S.pts.length (mz S):=rfl;have e9:((List.range S.pts.length).find? fun(i:Nat) => !((Gla.seenFrom S.nears S.pts.length 0 (Gla.noneSeen S.pts.length)).getD i false))=aQ S.pts.length (rN S):=rfl;have e10:(List.range S.pts.length).find? (Gla.cuts S.nears S.pts.length)=aQ S.pts.length (qJ S):=rfl;rw[e8,e9,e10];cases h8:aQ S.pts.length (mz S) with
 | some i =>
  left
  refine⟨8,Gla.ptPlace i,?_,rfl⟩;rw[bodyJ,h4,h5,h6,h7,h8];rfl
 | none =>
 cases h9:aQ S.pts.length (rN S) with
 | some i =>
  left
  refine⟨9,Gla.ptPlace i,?_,rfl⟩;rw[bodyJ,h4,h5,h6,h7,h8,h9];rfl
 | none =>
 cases h10:aQ S.pts.length (qJ S) with
 | some i =>
  left
  refine⟨10,Gla.ptPlace i,?_,rfl⟩;rw[bodyJ,h4,h5,h6,h7,h8,h9,h10];rfl
 | none =>
 rw[yK];cases h11:aQ S.marks.length (cW S) with
 | some i =>
  left
  refine⟨11,Gla.markPlace S i,?_,rfl⟩;rw[bodyJ,h4,h5,h6,h7,h8,h9,h10,h11];show some (11,abN S i)=_;unfold abN Gla.markPlace Gla.HEAD;simp
 | none =>
  right
  refine⟨?_,rfl,lo,fun w1 h1=>⟨w1,h1,r4,r5,h6',r7,by rw[e8,h8],by rw[e9,h9],by rw[e10,h10]⟩,fun k hk => ?_⟩
  ·rw[bodyJ,h4,h5,h6,h7,h8,h9,h10,h11];rfl
  ·have:=cC h11 k hk
   unfold cW at this;rw[AW,AW] at this;rw[uC,this.1.2];have t:=this.1.1;rw[CM] at t;rw[t];rfl
theorem pG{S:Plan}(R:Geo.Rules S){k:Nat}(hz:Gla.clear S (S.marks.getD k m0).at_=true) :
  ∃j l,nS S k=some j∧j<(bK S).length∧(bK S).getD j []=l∧S.among S.outlines (S.marks.getD k m0).at_=some l:=by
 obtain⟨l,hl,hin,uni,ham⟩:=R.aeA hz;obtain⟨i,hi,ei⟩:=List.mem_iff_getElem.mp hl;cases h:nS S k with
 | none =>
  unfold nS rm at h;have:=cC h i hi;rw[acx S,getD_at _ hi,ei,hin] at this;cases this
 | some j =>
  have h':=h;unfold nS rm at h';obtain⟨hj,hp,_⟩:=gm h';rw[acx S,getD_at _ hj] at hp;refine⟨j,l,rfl,hj,?_,ham⟩;rw[getD_at _ hj];exact uni _ (Bb hj) hp
theorem aaS{α:Type}{l:List α}(h:l.Nodup){i j:Nat}(hi:i<l.length)(hj:j<l.length)(e:l[i]=l[j]):i=j:=by
 rcases Bd i j with u|u|u
 ·exact absurd e (List.pairwise_iff_getElem.mp h i j hi hj u)
 ·exact u
 ·exact absurd e.symm (List.pairwise_iff_getElem.mp h j i hj hi u)
theorem agO{S:Plan}(R:Geo.Rules S)(hz:∀k,k<S.marks.length→Gla.clear S (S.marks.getD k m0).at_=true){k:Nat}(hk:k<S.marks.length) :
  acQ S k=(List.range k).any fun j=>decide (S.among S.outlines (S.marks.getD j m0).at_=S.among S.outlines (S.marks.getD k m0).at_):=by
 unfold acQ;rw[AM,AV,AV];have:∀j,j<k→(nS S j=nS S k↔S.among S.outlines (S.marks.getD j m0).at_=S.among S.outlines (S.marks.getD k m0).at_):=by
  intro j hj;obtain⟨a,l,e1,e2,e3,e4⟩:=pG R (hz j (by omega));obtain⟨b,m,f1,f2,f3,f4⟩:=pG R (hz k hk);rw[e1,f1,e4,f4]
  constructor
  ·intro h
   obtain rfl:=Ac h;rw[← e3,← f3]
  ·intro h
   obtain rfl:=Ac h;rw[getD_at _ e2] at e3;rw[getD_at _ f2] at f3;rw[aaS R.mr e2 f2 (e3.trans f3.symm)]
 constructor
 ·rintro⟨j,hj,h⟩
  exact⟨j,hj,Ak ((this j (List.mem_range.mp hj)).mp (Al h))⟩
 ·rintro⟨j,hj,h⟩
  exact⟨j,hj,Ak ((this j (List.mem_range.mp hj)).mpr (Al h))⟩
theorem uH(S:Plan)(all:List (List Nat)):∀(d i:Nat) (had:List (Option (List Nat))),i+d=S.marks.length→(∀x,x∈had↔∃j,j<i∧S.among all (S.marks.getD j m0).at_=x) →
  (∀j,j<i→((List.range j).any fun e=>decide (S.among all (S.marks.getD e m0).at_=S.among all (S.marks.getD j m0).at_))=false) →
  Gla.twice S all i had (S.marks.drop i)=aQ S.marks.length fun k=>(List.range k).any fun e=>decide (S.among all (S.marks.getD e m0).at_=S.among all (S.marks.getD k m0).at_)
 | 0,i,had,hi,hh,no=>by
  rw[List.drop_of_length_le (by omega)];unfold Gla.twice;rw[ba fun j hj=>no j (by omega)]
 | d+1,i,had,hi,hh,no=>by
  have hl:i<S.marks.length:=by omega
  rw[AI hl];unfold Gla.twice;have ei:S.marks.getD i m0=S.marks[i]:=getD_at _ hl;have hc:(had.contains (S.among all S.marks[i].at_)=true)↔((List.range i).any fun e=>decide (S.among all (S.marks.getD e m0).at_=S.among all (S.marks.getD i m0).at_))=true:=by
   rw[C2,hh,AV,ei]
   constructor
   ·rintro⟨j,hj,e⟩;exact⟨j,List.mem_range.mpr hj,Ak e⟩
   ·rintro⟨j,hj,e⟩;exact⟨j,List.mem_range.mp hj,Al e⟩
  by_cases h:had.contains (S.among all S.marks[i].at_)=true
  ·rw[Ag h,aY hl (hc.mp h) no]
  ·rw[Ad h]
   refine uH S all d (i+1) _ (by omega) (fun x => ?_) (b7 no (Bool.eq_false_iff.mpr fun z=>h (hc.mpr z)));rw[D8,hh]
   constructor
   ·rintro(rfl|⟨j,hj,e⟩)
    ·exact⟨i,by omega,by rw[ei]⟩
    ·exact⟨j,by omega,e⟩
   ·rintro⟨j,hj,e⟩
    by_cases ji:j=i
    ·left;subst ji;rw[← e,ei]
    ·right;exact⟨j,by omega,e⟩
theorem zp{S:Plan}(R:Geo.Rules S)(hz:∀k,k<S.marks.length→Gla.clear S (S.marks.getD k m0).at_=true) :
  (∃r p:Nat,mE S=some (r,(p:Int))∧uJ S=some ⟨r,p⟩)∨(mE S=none∧uJ S=none):=by
 have t:=uH S S.outlines S.marks.length 0 [] (by omega) (by intro x;simp) (fun j hj=>absurd hj (AE j));rw[BN] at t;have e:aQ S.marks.length (acQ S)=Gla.twice S S.outlines 0 [] S.marks:=by
  rw[t];exact cy fun k hk=>agO R hz hk
 have pl:(bK S).length=S.outlines.length:=R.kr.length_eq;unfold mE uJ;rw[e];cases h:Gla.twice S S.outlines 0 [] S.marks with
 | some i =>
  left
  refine⟨12,Gla.markPlace S i,?_,rfl⟩;show some (12,abN S i)=_;unfold abN Gla.markPlace Gla.HEAD;simp
 | none =>
  show(∃r p:Nat,(if S.marks.length<(bK S).length then _ else _)=some (r,(p:Int))∧(if S.marks.length<S.outlines.length then _ else _)=some (⟨r,p⟩:Gla.Fault))∨((if S.marks.length<(bK S).length then _ else _)=none∧(if S.marks.length<S.outlines.length then _ else _)=none);rw[pl]
  by_cases hl:S.marks.length<S.outlines.length
  ·left
   rw[Ag hl,Ag hl];refine⟨13,S.size,?_,rfl⟩;unfold Plan.size Gla.markPlace Gla.HEAD;simp
  ·right
   rw[Ad hl,Ad hl];exact⟨rfl,rfl⟩
theorem uT{S:Plan}(R:Geo.Rules S){k:Nat}(hk:k<S.marks.length)(hz:Gla.clear S (S.marks.getD k m0).at_=true):∃l,S.pane k=some l∧fZ S k=((S.marks.getD k m0).glass,l)∧l∈bK S:=by
 obtain⟨j,l,e1,e2,e3,e4⟩:=pG R hz;refine⟨l,?_,?_,?_⟩
 ·unfold Plan.pane Plan.around
  rw[Aa hk];rw[getD_at _ hk] at e4;exact e4
 ·unfold fZ
  rw[e1];exact congrArg (Prod.mk _) e3
 ·rw[← e3,getD_at _ e2];exact Bb e2
theorem uI(b:List UInt8):(bz b).take 4=[71,76,65,49]↔b.take 4=Gla.MAGIC:=by
 have e:(bz b).take 4=bz (b.take 4):=by unfold bz;rw[Ci]
 have m:bz Gla.MAGIC=[71,76,65,49]:=by decide
 rw[e,← m]
 constructor
 ·intro h
  have inj:∀(x y:List UInt8),bz x=bz y→x=y:=by
   intro x
   induction x with
   | nil=>intro y h;cases y with
    | nil=>rfl
    | cons c r=>exact absurd h (by unfold bz;simp)
   | cons a r ih=>intro y h;cases y with
    | nil=>exact absurd h (by unfold bz;simp)
    | cons c t =>
     unfold bz at h;rw[A3,A3] at h;injection h with h1 h2
     have:a=c:=UInt8.toNat.inj (by omega);rw[this,ih t h2]
  exact inj _ _ h
 ·intro h;rw[h]
structure u6(b:List UInt8):Prop where
 w:16≤Gla.num b 4 4
 h:16≤Gla.num b 8 4
 p:4≤Gla.num b 12 2
 len:b.length=20+8*Gla.num b 12 2+4*Gla.num b 14 2+12*Gla.num b 16 2
theorem oH(b:List UInt8):(∃r p:Nat,yA (bz b)=some ((r:Int),(p:Int))∧Gla.judgePlan b=.error ⟨r,p⟩) ∨
  (yA (bz b)=none∧u6 b∧Gla.judgePlan b=match (Gla.parts b).fault with
   | some e=>.error e
   | none=>.ok (Gla.parts b)):=by
 have hl:(bz b).length=b.length:=by unfold bz;rw[Ab]
 unfold yA Gla.judgePlan Gla.HEAD;rw[hl]
 by_cases h1:b.length<20
 ·left;rw[Ag h1,Ag h1];exact⟨1,b.length,rfl,rfl⟩
 rw[Ad h1,Ad h1]
 by_cases h2:b.take 4=Gla.MAGIC
 rotate_left
 ·left
  rw[Ag (fun z=>h2 ((uI b).mp z)),Ag h2];exact⟨1,0,rfl,rfl⟩
 have m1:¬((bz b).take 4≠[71,76,65,49]):=fun z=>z ((uI b).mpr h2);have m2:¬(b.take 4≠Gla.MAGIC):=fun z=>z h2;rw[Ad m1,Ad m2];have bad:∀(st len lo hi:Nat),sv (bz b) (st,len,(lo:Int),(hi:Int)) = !Gla.within lo hi (Gla.num b st len):=by
  intro st len lo hi;unfold sv Gla.within;show(decide (eV (bz b) st len<(lo:Int))||decide ((hi:Int)<eV (bz b) st len))=_;rw[iT,CJ,← BD,← BD]
  congr 1 <;> exact decide_eq_decide.mpr (by omega)
 have b1:sv (bz b) (4,4,16,1048575) = !Gla.within Gla.SMALLEST Gla.LARGEST (Gla.num b 4 4):=bad 4 4 16 1048575;have b2:sv (bz b) (8,4,16,1048575) = !Gla.within Gla.SMALLEST Gla.LARGEST (Gla.num b 8 4):=bad 8 4 16 1048575;have b3:sv (bz b) (12,2,4,4096) = !Gla.within 4 Gla.POINTS (Gla.num b 12 2):=bad 12 2 4 4096;have b4:sv (bz b) (14,2,4,8192) = !Gla.within 4 Gla.LINES (Gla.num b 14 2):=bad 14 2 4 8192;have b5:sv (bz b) (16,2,1,2048) = !Gla.within 1 Gla.MARKS (Gla.num b 16 2):=bad 16 2 1 2048;have b6:sv (bz b) (18,2,0,0) = !Gla.within 0 0 (Gla.num b 18 2):=bad 18 2 0 0;unfold HN;simp only[Bu,List.find?_nil];rw[b1,b2,b3,b4,b5,b6];cases g1:Gla.within Gla.SMALLEST Gla.LARGEST (Gla.num b 4 4) with
 | false=>left;exact⟨2,4,rfl,rfl⟩
 | true =>
 cases g2:Gla.within Gla.SMALLEST Gla.LARGEST (Gla.num b 8 4) with
 | false=>left;exact⟨2,8,rfl,rfl⟩
 | true =>
 cases g3:Gla.within 4 Gla.POINTS (Gla.num b 12 2) with
 | false=>left;exact⟨2,12,rfl,rfl⟩
 | true =>
 cases g4:Gla.within 4 Gla.LINES (Gla.num b 14 2) with
 | false=>left;exact⟨2,14,rfl,rfl⟩
 | true =>
 cases g5:Gla.within 1 Gla.MARKS (Gla.num b 16 2) with
 | false=>left;exact⟨2,16,rfl,rfl⟩
 | true =>
 cases g6:Gla.within 0 0 (Gla.num b 18 2) with
 | false =>
  left
  refine⟨2,18,rfl,?_⟩;simp only[Bool.true_eq_false,Cq];rw[Ag];intro z;rw[z] at g6;exact absurd g6 (by decide)
 | true =>
 have z6:Gla.num b 18 2=0:=by
  unfold Gla.within at g6;simp only[Ar,Ap] at g6;omega
 simp only[DB,Bool.true_eq_false,Cq];have m6:¬(Gla.num b 18 2≠0):=fun z=>z z6;rw[Ad m6,iT,iT,iT]
 by_cases h3:b.length=20+8*Gla.num b 12 2+4*Gla.num b 14 2+12*Gla.num b 16 2
 ·right
  have a1:¬((b.length:Int)≠20+8*(Gla.num b 12 2:Int)+4*(Gla.num b 14 2:Int)+12*(Gla.num b 16 2:Int)):=by omega
  have a2:¬(b.length≠20+8*Gla.num b 12 2+4*Gla.num b 14 2+12*Gla.num b 16 2):=by omega
  rw[Ad a1,Ad a2];unfold Gla.within Gla.SMALLEST at g1 g2;unfold Gla.within at g3;simp only[Ar,Ap] at g1 g2 g3;exact⟨rfl,⟨g1.1,g2.1,g3.1,h3⟩,rfl⟩
 ·left
  have a1:((b.length:Int)≠20+8*(Gla.num b 12 2:Int)+4*(Gla.num b 14 2:Int)+12*(Gla.num b 16 2:Int)):=by omega
  rw[Ag a1,Ag h3];exact⟨3,20,rfl,rfl⟩
theorem qF{b:List UInt8}(h:u6 b):Fit (Gla.parts b):=by
 have lp:(Gla.parts b).pts.length=Gla.num b 12 2:=by unfold Gla.parts;simp
 have ll:(Gla.parts b).lines.length=Gla.num b 14 2:=by unfold Gla.parts;simp
 refine⟨fun p hp => ?_,by rw[lp];have:=h.p;omega,by rw[lp];exact iJ _ _,by rw[ll];exact iJ _ _⟩;unfold Gla.parts at hp;obtain⟨i,_,rfl⟩:=List.mem_map.mp hp;exact⟨zj _ _,zj _ _⟩
theorem iZ(b:List UInt8):(Gla.parts b).marks.length<65536:=by
 have:(Gla.parts b).marks.length=Gla.num b 16 2:=by unfold Gla.parts;simp
 rw[this];exact iJ _ _
inductive Read(b:List UInt8):List Pt→Option (Nat×Int)→List (Nat×List Nat)→Prop where
 | bad (pts:List Pt) (r p:Nat) (h:Gla.judgePlan b=.error ⟨r,p⟩):Read b pts (some (r,(p:Int))) []
 | ok (S:Plan) (R:Geo.Rules S) (h:Gla.judgePlan b=.ok S) (he:S=Gla.parts b) (hz:∀k,k<S.marks.length→Gla.clear S (S.marks.getD k m0).at_=true):Read b S.pts none ((List.range S.marks.length).map (fZ S))
section
variable {P:Program}{w:World}{K:DG}{mg:DH}{base:Heap}{ad:Adr}
inductive yF(K:DG)(ad:Adr)(vs:List V)(H:Hp)(Q:VK)(E:XK):Prop
 | mk (a:Addr) (b:List UInt8) (c0:vs=[.ref a]) (c1:SqL K H a ((bz b).map V.int)) (c2:∀H' c pts bk xs,aL H H'→Read b pts bk xs→yo ad H' c pts bk xs→Q (.ref c) H'):yF K ad vs H Q E
abbrev acs:Stmt:=(top 50)
theorem yh{b:List UInt8}(h:u6 b):1≤(Gla.parts b).w:=by have:=h.w;show 1≤Gla.num b 4 4;omega
theorem aac{b:List UInt8}(h:u6 b):1≤(Gla.parts b).h:=by have:=h.h;show 1≤Gla.num b 8 4;omega
theorem acX(D:Def K mg "read_cartoon" acs ["data"])(gG:Fn P w K mg base 3 "judge_head" ["data"] (yB K))(eG:Fn P w K mg base 3 "read_drawing" ["data"] (zT K ad))
  (dS:Fn P w K mg base 9 "judge_drawing" ["drawing"] (adt ad)) (bI:Fn P w K mg base 6 "give_marks_their_panes" ["drawing"] (zb ad)) (cI:Kl P w K mg base 1 "Cartoon" ad.cartoon 2 gw) :
  Fn P w K mg base 10 "read_cartoon" ["data"] (yF K ad):=by
 refine D.fx ["data","broken","drawing"] ?_;rintro nd f cdv A outer s H vs Q E hr ⟨a,b,rfl,hS,q⟩;refine⟨_,(kxs 1 nd (kxF gG hr (ab (pv 0) ak)) (kxf (aS (pv 1) (fun _=>rfl)) (kxK cI hr (ab (pv 1) (ab (aG ak) ak))) (kxs 2 nd (kxF eG hr (ab (pv 0) ak)) (kxs 1 nd (kxF dS hr (ab (pv 2) ak)) (kxf (aS (pv 1) (fun _=>rfl)) (kxK cI hr (ab (pv 1) (ab (aG ak) ak))) (kxr (kxF bI hr (ab (pv 2) ak)))))))),?_⟩;refine⟨_,rfl,a,bz b,rfl,hS,l6 b,fun H1 p s1 _ hp => ?_⟩;rcases oH b with⟨r,pl,eh,ej⟩|⟨eh,ho,ej⟩
 ·rw[eh] at hp
  refine⟨_,rfl,_,.inl ⟨_,SqL.of hp,rfl⟩,f6 ⟨_,rfl,Av _,fun le hle=>ro rfl ?_⟩⟩;have se:=ah (o:=.lst []) hle;exact jz (b:=some (r,(pl:Int))) (xs := []) (pts := []) (se _ _ hp) (pO ag) fun H7 cc s7 ca=>q H7 cc _ _ _ (s1.trans (se.trans s7)) (.bad _ r pl ej) ca
 ·rw[eh] at hp
  refine⟨_,rfl,_,.inl ⟨_,SqL.of hp,rfl⟩,fS ?_⟩;refine⟨_,rfl,a,b,rfl,s1.seq hS,ho.len,fun H2 d dx lp ll lm s2 hd => ?_⟩;have s12:=s1.trans s2;refine⟨_,rfl,d,dx,lp,ll,lm,_,rfl,hd,qF ho,fun H3 l s3 _ hl => ?_⟩;have s13:=s12.trans s3;rcases mP (Gla.parts b) with⟨r,pl,e1,e2⟩|⟨e1,e2,lo,R,hz⟩
  ·rw[e1] at hl
   refine⟨_,rfl,_,.inl ⟨_,SqL.of hl,rfl⟩,f6 ⟨_,rfl,Av _,fun le hle=>ro rfl ?_⟩⟩;have se:=ah (o:=.lst []) hle;exact jz (b:=some (r,(pl:Int))) (xs := []) (pts := []) (se _ _ hl) (pO ag) fun H7 cc s7 ca=>q H7 cc _ _ _ (s13.trans (se.trans s7)) (.bad _ r pl (by rw[ej,e2])) ca
  ·rw[e1] at hl
   have R:=R (yh ho) (aac ho);refine⟨_,rfl,_,.inl ⟨_,SqL.of hl,rfl⟩,fS ⟨_,rfl,d,dx,lp,ll,lm,_,rfl,hd.same s3,qF ho,lo,R,iZ b,fun k hk => ?_,fun H4 c s4 ca => ?_⟩⟩
   ·obtain⟨j,_,ej,_⟩:=pG R (hz k hk)
    exact⟨j,ej⟩
   ·refine q H4 c _ _ _ (s13.trans s4) ?_ ca
    rcases zp R hz with⟨r,pl,g1,g2⟩|⟨g1,g2⟩
    ·have gP:mN (Gla.parts b)=[]:=by unfold mN;rw[g1];rfl
     rw[g1,gP];exact .bad _ r pl (by rw[ej,e2,g2])
    ·have gP:mN (Gla.parts b)=(List.range (Gla.parts b).marks.length).map (fZ (Gla.parts b)):=by unfold mN;rw[g1];rfl
     rw[g1,gP];exact .ok (Gla.parts b) R (by rw[ej,e2,g2]) rfl hz
end
theorem fold_max(l:List Nat):∀a,a≤l.foldl max a∧(∀x∈l,x≤l.foldl max a)∧(l.foldl max a=a∨l.foldl max a∈l):=by
 induction l with
 | nil=>intro a;simp
 | cons b r ih =>
  intro a;obtain⟨h1,h2,h3⟩:=ih (max a b);rw[Bk];refine⟨by omega,fun x hx => ?_,?_⟩
  ·rcases List.mem_cons.mp hx with rfl|hx
   ·omega
   ·exact h2 x hx
  ·rcases h3 with h3|h3
   ·rcases Nat.le_total a b with u|u
    ·right;rw[h3,Dk u];exact Ah
    ·left;rw[h3,Nat.max_eq_left u]
   ·right;exact Af _ h3
theorem fold_min(l:List Nat):∀a,l.foldl min a≤a∧(∀x∈l,l.foldl min a≤x)∧(l.foldl min a=a∨l.foldl min a∈l):=by
 induction l with
 | nil=>intro a;simp
 | cons b r ih =>
  intro a;obtain⟨h1,h2,h3⟩:=ih (min a b);rw[Bk];refine⟨by omega,fun x hx => ?_,?_⟩
  ·rcases List.mem_cons.mp hx with rfl|hx
   ·omega
   ·exact h2 x hx
  ·rcases h3 with h3|h3
   ·rcases Nat.le_total a b with u|u
    ·left;rw[h3,B2 u]
    ·right;rw[h3,BL u];exact Ah
   ·right;exact Af _ h3
theorem wY{l:List Nat}(hl:0<l.length){m n:Int}(h1:m∈l.map fun(k:Nat)=>(k:Int))(h2:∀y,y∈l.map (fun(k:Nat)=>(k:Int))→y≤m)(h3:n∈l.map fun(k:Nat)=>(k:Int))(h4:∀y,y∈l.map (fun(k:Nat)=>(k:Int))→n≤y):m-n=(Gla.span l:Int):=by
 obtain⟨m',hm,rfl⟩:=List.mem_map.mp h1;obtain⟨n',hn,rfl⟩:=List.mem_map.mp h3;obtain⟨a1,a2,a3⟩:=fold_max l 0;obtain⟨b1,b2,b3⟩:=fold_min l (l.headD 0);have c2:∀x∈l,x≤m':=fun x hx=>by have:=h2 (x:Int) (List.mem_map.mpr ⟨x,hx,rfl⟩);omega
 have c4:∀x∈l,n'≤x:=fun x hx=>by have:=h4 (x:Int) (List.mem_map.mpr ⟨x,hx,rfl⟩);omega
 have e1:l.foldl max 0=m':=by
  have:=a2 m' hm;rcases a3 with z|z
  ·omega
  ·have:=c2 _ z;omega
 have hd:l.headD 0∈l:=by
  cases l with
  | nil=>simp at hl
  | cons a r=>exact Ah
 have e2:l.foldl min (l.headD 0)=n':=by
  have:=b2 n' hn;rcases b3 with z|z
  ·have:=c4 _ hd;omega
  ·have:=c4 _ z;omega
 have le:=c2 n' hn;unfold Gla.span;rw[e1,e2];omega
def zv(pts:List Pt)(m:Nat)(x:Nat×List Nat):Gla.Item:=⟨x.1,Gla.span (x.2.map fun i=>(pts.getD i ⟨0,0⟩).x)+2*m,Gla.span (x.2.map fun i=>(pts.getD i ⟨0,0⟩).y)+2*m⟩
def fD(ad:Adr)(H:Hp)(p:Addr)(x:Gla.Item):Prop:=∃dx,H p=some (.ins ad.blank dx [("glass",.int (x.glass:Int)),("width",.int (x.w:Int)),("height",.int (x.h:Int))])
def vG(ad:Adr)(H:Hp)(p:Addr)(x:Gla.Sheet):Prop:=∃dx,H p=some (.ins ad.sheet dx [("glass",.int (x.glass:Int)),("width",.int (x.w:Int)),("height",.int (x.h:Int)),("turns",.int (x.turns:Int))])
theorem vG.same{ad:Adr}{H H':Hp}{p:Addr}{x:Gla.Sheet}(h:vG ad H p x)(s:aL H H'):vG ad H' p x:=let ⟨dx,e⟩:=h;⟨dx,s _ _ e⟩
section
variable {P:Program}{w:World}{K:DG}{mg:DH}{base:Heap}{ad:Adr}
theorem c2m(z:Int):wD 2 z:=.inl ⟨by decide,by decide⟩
inductive adk(ad:Adr)(vs:List V)(H:Hp)(Q:VK)(E:XK):Prop
 | mk (p:Addr) (m:Nat) (pts:List Pt) (x:Nat×List Nat) (c0:vs=[.ref p,.int (m:Int)]) (c1:og ad H p pts x) (c2:0<x.2.length) (c3:x.2.length<1000000) (c4:∀H' q,aL H H'→fD ad H' q (zv pts m x)→Q (.ref q) H'):adk ad vs H Q E
abbrev agm:Stmt:=(top 85)
theorem agu(D:Def K mg "blank_of" agm ["pane","margin"])(T:Txt K mg ad)(t9:Kl P w K mg base 1 "Blank" ad.blank 3 tJ):Fn P w K mg base 3 "blank_of" ["pane","margin"] (adk ad):=by
 refine D.fx ["pane","margin","corner","xs","ys"] ?_;rintro nd f cdv A outer s H vs Q E hr ⟨p,m,pts,x,rfl,hp,h0,hm,q⟩;obtain⟨dx,lc,cs,e1,e2,e3,e4⟩:=hp.ex;have at_:∀n,n<x.2.length→∃c k,cs[n]? = some c∧x.2[n]? = some k∧H c=some (ptO pts k):=fun n hn =>
  ⟨cs[n]'(by omega),x.2[n],Aa _,Aa _,e4 n _ _ (Aa (by omega)) (Aa hn)⟩
 refine⟨_,(aA (dD (i:=3) rfl nd rfl rfl rfl (bU (ay (pv 0) rfl)) (ff (own := [("corner",2)]) rfl) (fun _ _ _ _ _=>(kxo 2 nd)) (fun _ _ _ _ _=>dh) (fun _ _ _ _ _=>(sS (sj (K:=K) rfl) (pv 2) ao (fun _ _=>rfl)))) (aA (dD (i:=4) rfl nd rfl rfl rfl (bU (ay (pv 0) rfl)) (ff (own := [("corner",2)]) rfl) (fun _ _ _ _ _=>(kxo 2 nd)) (fun _ _ _ _ _=>dh) (fun _ _ _ _ _=>(sS (sj (K:=K) rfl) (pv 2) ao (fun _ _=>rfl)))) (kxr (kxK t9 hr (ab (ay (pv 0) rfl) (ab (aP aT (aP dX (cT (acw rfl) (by rfl) T.aak PyProof.Rows.boot_max (ab (pv 3) ak)) (cT (abR rfl) (by rfl) T.aaj PyProof.Rows.boot_min (ab (pv 3) ak))) (aP dr ao (pv 1))) (ab (aP aT (aP dX (cT (acw rfl) (by rfl) T.aak PyProof.Rows.boot_max (ab (pv 4) ak)) (cT (abR rfl) (by rfl) T.aaj PyProof.Rows.boot_min (ab (pv 4) ak))) (aP dr ao (pv 1))) ak))))))),?_⟩;refine⟨_,rfl,fl e1 T.pane rfl ⟨lc,rfl,⟨_,SqL.of e2⟩,fun c1 hc1=>kq (J:=Itl K lc) c1 x.2.length (fun n H'=>aL H H'∧H' c1=some (.lst ((x.2.take n).map fun k=>.int (((pts.getD k ⟨0,0⟩).x:Nat):Int)))) ⟨ah hc1,ag⟩ ?_ ?_ ?_⟩⟩
 ·rintro n H8 hn ⟨s8,_⟩
  obtain⟨c,k,a1,a2,a3⟩:=at_ n hn;exact⟨_,.ref c,SqL.of (s8 _ _ e2),by rw[Am,a1];rfl⟩
 ·rintro n v H8 H9 hn ⟨s8,hc8⟩ ⟨rfl,hx⟩
  obtain⟨c,k,a1,a2,a3⟩:=at_ n hn;have ex:=hx _ (SqL.of (s8 _ _ e2));rw[Am,a1] at ex;obtain rfl:V.ref c=v:=Ac ex;refine⟨rfl,lA (dG (j:=0) rfl (SqT.of (s8 _ _ a3)) rfl ⟨_,hc8,?_,aH s8 hc1,?_⟩)⟩
  ·rw[Ab,A2];exact ck (by omega)
  ·rw[ag,take_snoc a2,As,BS]
 rintro H1 ⟨s1,hx1⟩;rw[AK (Ae _)] at hx1;refine⟨⟨_,SqL.of (s1 _ _ e2),by rw[Ab,e3];exact Ae _⟩,?_⟩;refine⟨_,rfl,fl (s1 _ _ e1) T.pane rfl ⟨lc,rfl,⟨_,SqL.of (s1 _ _ e2)⟩,fun c2 hc2=>kq (J:=Itl K lc) c2 x.2.length (fun n H'=>aL H1 H'∧H' c2=some (.lst ((x.2.take n).map fun k=>.int (((pts.getD k ⟨0,0⟩).y:Nat):Int)))) ⟨ah hc2,ag⟩ ?_ ?_ ?_⟩⟩
 ·rintro n H8 hn ⟨s8,_⟩
  obtain⟨c,k,a1,a2,a3⟩:=at_ n hn;exact⟨_,.ref c,SqL.of (s8 _ _ (s1 _ _ e2)),by rw[Am,a1];rfl⟩
 ·rintro n v H8 H9 hn ⟨s8,hc8⟩ ⟨rfl,hx⟩
  obtain⟨c,k,a1,a2,a3⟩:=at_ n hn;have ex:=hx _ (SqL.of (s8 _ _ (s1 _ _ e2)));rw[Am,a1] at ex;obtain rfl:V.ref c=v:=Ac ex;refine⟨rfl,lA (dG (j:=1) rfl (SqT.of (s8 _ _ (s1 _ _ a3))) rfl ⟨_,hc8,?_,aH s8 hc2,?_⟩)⟩
  ·rw[Ab,A2];exact ck (by omega)
  ·rw[ag,take_snoc a2,As,BS]
 rintro H2 ⟨s2,hy2⟩;rw[AK (Ae _)] at hy2;refine⟨⟨_,SqL.of (s2 _ _ (s1 _ _ e2)),by rw[Ab,e3];exact Ae _⟩,?_⟩;have s12:=s1.trans s2;have hx2:=s2 _ _ hx1;have lx:SqL K H2 c1 (((x.2.map fun k=>(pts.getD k ⟨0,0⟩).x).map fun(k:Nat)=>(k:Int)).map V.int):=by rw[AX,AX];exact SqL.of hx2
 have ly:SqL K H2 c2 (((x.2.map fun k=>(pts.getD k ⟨0,0⟩).y).map fun(k:Nat)=>(k:Int)).map V.int):=by rw[AX,AX];exact SqL.of hy2
 have lx0:0<((x.2.map fun k=>(pts.getD k ⟨0,0⟩).x).map fun(k:Nat)=>(k:Int)).length:=by rw[Ab,Ab];exact h0
 have ly0:0<((x.2.map fun k=>(pts.getD k ⟨0,0⟩).y).map fun(k:Nat)=>(k:Int)).length:=by rw[Ab,Ab];exact h0
 refine⟨_,rfl,fl (s12 _ _ e1) T.pane rfl ?_⟩;refine⟨_,rfl,c1,_,rfl,lx,lx0,fun m1 i1 j1 => ?_⟩;refine⟨_,rfl,c1,_,rfl,lx,lx0,fun m2 i2 j2 => ?_⟩;refine⟨_,_,rfl,rfl,_,rfl,_,_,rfl,rfl,c2m _,_,_,rfl,rfl,?_⟩;refine⟨_,rfl,c2,_,rfl,ly,ly0,fun m3 i3 j3 => ?_⟩;refine⟨_,rfl,c2,_,rfl,ly,ly0,fun m4 i4 j4 => ?_⟩;refine⟨_,_,rfl,rfl,_,rfl,_,_,rfl,rfl,c2m _,_,_,rfl,rfl,?_⟩;have w1:=wY (by rw[Ab];exact h0) i1 j1 i2 j2;have w2:=wY (by rw[Ab];exact h0) i3 j3 i4 j4;refine tf ?_;intro px dxp n1 n2 ne;refine⟨px,dxp,[.int (x.1:Int),.int (m1-m2+2*(m:Int)),.int (m3-m4+2*(m:Int))],rfl,rfl,ag,rfl,?_⟩;rw[bQ];have s9:aL H2 (upd (upd H2 dxp (.own px)) px (.ins ad.blank dxp (tJ [.int (x.1:Int),.int (m1-m2+2*(m:Int)),.int (m3-m4+2*(m:Int))]))):=(ah n2).trans (ah (by rw[az (Ne.symm ne)];exact n1));refine q _ px (s12.trans s9) ⟨dxp,?_⟩;rw[ag,w1,w2];unfold zv;show some (HO.ins ad.blank dxp [("glass",.int (x.1:Int)),("width",.int ((Gla.span _:Int)+2*(m:Int))),("height",.int ((Gla.span _:Int)+2*(m:Int)))])=_;simp only[Int.natCast_add,Int.natCast_mul];rfl
end
end Gs
namespace Gs
open PySem PySem.Spec PyProof.Rows L2
structure LO{α:Type}(R:Hp→Addr→α→Prop)(H:Hp)(l:Addr)(xs:List α)(ps:List Addr):Prop where
 lst:H l=some (.lst (ps.map V.ref))
 len:ps.length=xs.length
 at_:∀(j:Nat) (p:Addr) (x:α),ps[j]? = some p→xs[j]? = some x→R H p x
theorem LO.get{α:Type}{R:Hp→Addr→α→Prop}{H:Hp}{l:Addr}{xs:List α}{ps:List Addr}(h:LO R H l xs ps){i:Nat}{x:α}(hi:xs[i]? = some x):∃p,(ps.map V.ref)[i]? = some (.ref p)∧R H p x:=by
 have hl:=(List.getElem?_eq_some_iff.mp hi).1;have hp:i<ps.length:=by rw[h.len];exact hl
 exact⟨ps[i],by rw[Am,Aa hp];rfl,h.at_ i _ _ (Aa hp) hi⟩
theorem LO.same{α:Type}{R:Hp→Addr→α→Prop}(hR:∀H H' p x,aL H H'→R H p x→R H' p x){H H':Hp}{l:Addr}{xs:List α}{ps:List Addr}(h:LO R H l xs ps)(s:aL H H'):LO R H' l xs ps :=
 ⟨s _ _ h.lst,h.len,fun j p x e1 e2=>hR _ _ _ _ s (h.at_ j p x e1 e2)⟩
theorem LO.nil{α:Type}{R:Hp→Addr→α→Prop}{H:Hp}{l:Addr}(h:H l=some (.lst [])):LO R H l [] []:=⟨h,rfl,fun j p x e=>by simp at e⟩
def ab3{α:Type}(R:Hp→Addr→α→Prop):Prop:=∀(H H':Hp) (p:Addr) (x:α),(∀C dx fs,H p=some (.ins C dx fs)→H' p=some (.ins C dx fs))→R H p x→R H' p x
theorem ab3.same{α:Type}{R:Hp→Addr→α→Prop}(h:ab3 R):∀H H' p x,aL H H'→R H p x→R H' p x:=fun H H' p x s r=>h H H' p x (fun C dx fs e=>s _ _ e) r
theorem dF(ad:Adr):ab3 (fD ad):=fun H H' p x k ⟨dx,e⟩=>⟨dx,k _ _ _ e⟩
theorem mD(ad:Adr):ab3 (vG ad):=fun H H' p x k ⟨dx,e⟩=>⟨dx,k _ _ _ e⟩
theorem LO.snoc{α:Type}{R:Hp→Addr→α→Prop}(hR:ab3 R){H:Hp}{l q:Addr}{xs:List α}{ps:List Addr}{x:α}(h:LO R H l xs ps)(hq:R H q x):LO R (upd H l (.lst (ps.map V.ref++[.ref q]))) l (xs++[x]) (ps++[q]):=by
 have kp:∀{p:Addr} {y:α},R H p y→R (upd H l (.lst (ps.map V.ref++[.ref q]))) p y:=fun r=>hR _ _ _ _ (fun C dx fs e=>by rw[az (bw e h.lst)];exact e) r;refine⟨by rw[ag,As];rfl,by rw[Ai,Ai,h.len];rfl,fun j p y e1 e2 => ?_⟩
 by_cases hj:j<ps.length
 ·rw[Aw hj] at e1
  rw[Aw (by rw[← h.len];exact hj)] at e2;exact kp (h.at_ j p y e1 e2)
 ·have hj':j=ps.length:=by
   have:=(List.getElem?_eq_some_iff.mp e1).1;rw[Ai] at this;simp at this;omega
  rw[hj',Ao (Ae _),AO] at e1;rw[hj',h.len,Ao (Ae _),AO] at e2;obtain rfl:q=p:=Ac e1;obtain rfl:x=y:=Ac e2;exact kp hq
theorem lH{z:Int}{n:Nat}(h:SheetNeutral.nat z=some n):z=(n:Int):=by
 unfold SheetNeutral.nat at h
 by_cases hz:z<0
 ·rw[Ag hz] at h;cases h
 ·rw[Ad hz] at h
  have:=Ac h;omega
theorem mi:∀(ns:List Int) (shs:List Gla.Sheet),SheetNeutral.sheets ns=some shs→ns.length=4*shs.length∧∀(i:Nat) (s:Gla.Sheet),shs[i]? = some s→ns[4*i]? = some (s.glass:Int)∧ns[4*i+1]? = some (s.w:Int)∧ns[4*i+2]? = some (s.h:Int)∧ns[4*i+3]? = some (s.turns:Int)
 | [],shs,h=>by
  obtain rfl:[]=shs:=Ac h;exact⟨rfl,fun i s e=>by simp at e⟩
 | [_],shs,h=>by unfold SheetNeutral.sheets at h;cases h
 | [_,_],shs,h=>by unfold SheetNeutral.sheets at h;cases h
 | [_,_,_],shs,h=>by unfold SheetNeutral.sheets at h;cases h
 | g::w::hh::t::r,shs,h=>by
  unfold SheetNeutral.sheets at h;simp only[bind,Option.bind_eq_some_iff] at h;obtain⟨l,hl,g',hg,w',hw,h',hh2,t',ht,e⟩:=h;obtain rfl:=Ac e;obtain⟨a,b⟩:=mi r l hl;refine⟨by simp[a];omega,fun i s e => ?_⟩;rw[lH hg,lH hw,lH hh2,lH ht];cases i with
  | zero =>
   obtain rfl:=Ac e;exact⟨rfl,rfl,rfl,rfl⟩
  | succ i =>
   have:=b i s e;have e4:4*(i+1)=4*i+4:=by omega
   rw[e4];exact this
section
variable {P:Program}{w:World}{K:DG}{mg:DH}{base:Heap}{ad:Adr}
inductive adg(vs:List V)(H:Hp)(Q:VK)(E:XK):Prop
 | mk (n:Nat) (c0:vs=[.int (n:Int)]) (c1:Q (.bl (Gla.within 1 Gla.SIDE n)) H):adg vs H Q E
abbrev afE:Stmt:=(top 89)
theorem af9(D:Def K mg "is_length" afE ["number"])(T:Txt K mg ad):Fn P w K mg base 1 "is_length" ["number"] adg:=by
 refine D.fx ["number"] ?_;rintro nd f cdv A outer s H vs Q E hr ⟨n,rfl,q⟩;refine⟨_,(kxr (eY (aX agb (pv 0) ao (a8 _)) (fU (aX pT (pv 0) (kxG T.cE) (a8 _))))),?_⟩;unfold Gla.within Gla.SIDE at q;have d1:decide ((1:Int)≤(n:Int))=decide (1≤n):=decide_eq_decide.mpr ⟨fun h=>by omega,fun h=>by omega⟩;have d2:decide ((n:Int)≤(16777215:Int))=decide (n≤16777215):=decide_eq_decide.mpr ⟨fun h=>by omega,fun h=>by omega⟩;refine⟨_,rfl,_,_,rfl,rfl,_,rfl,?_⟩;rw[d1];refine bJ (fun z => ?_) (fun z => ?_)
 ·rw[z,AU] at q
  refine⟨_,rfl,_,_,rfl,rfl,?_⟩;rw[← d2] at q;exact q
 ·rw[AB] at z
  rw[z,A5] at q;exact q
inductive aha(K:DG)(ad:Adr)(vs:List V)(H:Hp)(Q:VK)(E:XK):Prop
 | mk (a:Addr) (ns:List Int) (st:Nat) (x:Gla.Sheet) (c0:vs=[.ref a,.int (st:Int)]) (c1:SqL K H a (ns.map V.int)) (c2:ns[st]? = some (x.glass:Int)) (c3:ns[st+1]? = some (x.w:Int)) (c4:ns[st+2]? = some (x.h:Int)) (c5:ns[st+3]? = some (x.turns:Int)) (c6:∀H' q,aL H H'→vG ad H' q x→Q (.ref q) H'):aha K ad vs H Q E
abbrev aiD:Stmt:=(top 87)
theorem ag7(D:Def K mg "read_sheet" aiD ["numbers","start"])(ub:Kl P w K mg base 1 "Sheet" ad.sheet 4 wU):Fn P w K mg base 3 "read_sheet" ["numbers","start"] (aha K ad):=by
 refine D.fx ["numbers","start"] ?_;rintro nd f cdv A outer s H vs Q E hr ⟨a,ns,st,x,rfl,hS,g0,g1,g2,g3,q⟩;refine⟨_,(kxr (kxK ub hr (ab (kxI (pv 0) (pv 1)) (ab (kxI (pv 0) (aP aT (pv 1) ao)) (ab (kxI (pv 0) (aP aT (pv 1) ao)) (ab (kxI (pv 0) (aP aT (pv 1) ao)) ak)))))),?_⟩;have ai:∀(k:Nat) (z:Int),ns[k]? = some z→(ns.map V.int)[k]? = some (.int z):=fun k z e=>by rw[Am,e];rfl
 refine⟨_,rfl,_,rfl,a,_,_,_,rfl,rfl,hS,aM (ai _ _ g0),?_⟩;refine⟨_,rfl,_,rfl,_,_,rfl,rfl,a,_,_,_,rfl,rfl,hS,aM (ai _ _ g1),?_⟩;refine⟨_,rfl,_,rfl,_,_,rfl,rfl,a,_,_,_,rfl,rfl,hS,aM (ai _ _ g2),?_⟩;refine⟨_,rfl,_,rfl,_,_,rfl,rfl,a,_,_,_,rfl,rfl,hS,aM (ai _ _ g3),?_⟩;refine tf ?_;intro px dxp n1 n2 ne;refine⟨px,dxp,[.int (x.glass:Int),.int (x.w:Int),.int (x.h:Int),.int (x.turns:Int)],rfl,rfl,ag,rfl,?_⟩;rw[bQ];refine q _ px ((ah n2).trans (ah (by rw[az (Ne.symm ne)];exact n1))) ⟨dxp,?_⟩;rw[ag];rfl
inductive adw(K:DG)(ad:Adr)(vs:List V)(H:Hp)(Q:VK)(E:XK):Prop
 | mk (a:Addr) (ns:List Int) (shs:List Gla.Sheet) (c0:vs=[.ref a]) (c1:SqL K H a (ns.map V.int)) (c2:SheetNeutral.sheets ns=some shs) (c3:shs.length<65536) (c4:∀H' l ps,aL H H'→LO (vG ad) H' l shs ps→Q (.ref l) H'):adw K ad vs H Q E
abbrev afw:Stmt:=(top 86)
theorem aga(D:Def K mg "read_sheets" afw ["numbers"])(T:Txt K mg ad)(gH:Fn P w K mg base 3 "read_sheet" ["numbers","start"] (aha K ad)):Fn P w K mg base 4 "read_sheets" ["numbers"] (adw K ad):=by
 refine D.fx ["numbers","start"] ?_;rintro nd f cdv A outer s H vs Q E hr ⟨a,ns,shs,rfl,hS,hs,hm,q⟩;obtain⟨ln,at_⟩:=mi ns shs hs;refine⟨_,(kxr (aaG rfl nd (js (by rfl) T.fH (ab ao (ab (kxL T.bD (pv 0)) (ab (kxG T.bH) ak)))) (ff (own := [("start",1)]) rfl) (fun _ _ _ _ _=>(kxo 1 nd)) (fun _ _ _ _ _=>dh) (fun _ _ _ _ _=>(kxF gH hr (ab (pv 0) (ab (pv 1) ak)))))),?_⟩;refine⟨_,rfl,a,_,rfl,.inl hS,0,_,4,shs.length,rfl,?_,fun c hc=>kq (J:=Itc 0 4 shs.length) c shs.length (fun n H'=>aL H H'∧∃ps,LO (vG ad) H' c (shs.take n) ps) ⟨ah hc,[],.nil ag⟩ ?_ ?_ ?_⟩
 ·have:=rgc (i:=0) (n:=shs.length) (c:=4) (.inl rfl) (by omega) (by omega)
  rw[Ab,ln];have e:(0:Int)+4*(shs.length:Int)=((4*shs.length:Nat):Int):=by omega
  rw[e] at this;exact this
 ·rintro n H1 hn _
  exact hn
 ·rintro n v H1 H2 hn ⟨s1,ps,lo⟩ ⟨rfl,rfl⟩
  obtain⟨g0,g1,g2,g3⟩:=at_ n _ (Aa hn);refine⟨rfl,lA ⟨_,rfl,_,rfl,a,ns,4*n,shs[n],?_,s1.seq hS,g0,g1,g2,g3,fun H3 p s3 hp=>⟨_,s3 _ _ lo.lst,?_,?_,ps++[p],?_⟩⟩⟩
  ·have e:(0:Int)+((n:Nat):Int)*4=((4*n:Nat):Int):=by omega
   show[V.ref a,V.int ((0:Int)+((n:Nat):Int)*4)]=_;rw[e]
  ·rw[Ab,lo.len,A2];exact aZ (by omega)
  ·exact aH (s1.trans s3) hc
  ·rw[take_snoc (Aa hn)]
   exact(lo.same (mD ad).same s3).snoc (mD ad) hp
 ·rintro H1 ⟨s1,ps,lo⟩
  rw[AK (Ae _)] at lo;exact⟨Ae _,q H1 c ps s1 lo⟩
inductive ahB(ad:Adr)(vs:List V)(H:Hp)(Q:VK)(E:XK):Prop
 | mk (l:Addr) (shs:List Gla.Sheet) (ps:List Addr) (c0:vs=[.ref l]) (c1:LO (vG ad) H l shs ps) (c2:∀H',aL H H'→Q (aaD (Gla.firstAt (fun(_:Nat) (x:Gla.Sheet) => !x.ok) shs)) H'):ahB ad vs H Q E
abbrev aih:Stmt:=(top 88)
def zG(x:Gla.Sheet):List (Str×V) := [("glass",.int (x.glass:Int)),("width",.int (x.w:Int)),("height",.int (x.h:Int)),("turns",.int (x.turns:Int))]
theorem aik{x:Gla.Sheet}:(zG x).lookup ("glass" : Str)=some (.int (x.glass:Int)):=by unfold zG;rfl
theorem aiE{x:Gla.Sheet}:(zG x).lookup ("width" : Str)=some (.int (x.w:Int)):=by unfold zG;rfl
theorem aiC{x:Gla.Sheet}:(zG x).lookup ("height" : Str)=some (.int (x.h:Int)):=by unfold zG;rfl
theorem aip{x:Gla.Sheet}:(zG x).lookup ("turns" : Str)=some (.int (x.turns:Int)):=by unfold zG;rfl
def sh0:Gla.Sheet:=⟨0,0,0,0⟩
theorem ahh(D:Def K mg "first_wrong_sheet" aih ["sheets"])(T:Txt K mg ad)(fM:Fn P w K mg base 1 "is_length" ["number"] adg):Fn P w K mg base 2 "first_wrong_sheet" ["sheets"] (ahB ad):=by
 refine D.fx ["sheets","k","sheet"] ?_;rintro nd f cdv A outer s H vs Q E hr ⟨l,shs,ps,rfl,lo,q⟩;refine⟨_,(aA (bC PassesOwn.never rfl (dP (by rfl) T.aV (ab (pv 0) ak)) (dv rfl (aJ (kxo 1 nd) (aJ (kxo 2 nd) b8))) (kxf ((lC (kxg (ay (pv 2) rfl) (kxG T.cY)) (fW (kxg (ay (pv 2) rfl) ao)))).pt (pv 1) (aF (di ((lC (oi (aS (kxF fM hr (ab (ay (pv 2) rfl) ak)) (fun _=>rfl))) (fW (oi (aS (kxF fM hr (ab (ay (pv 2) rfl) ak)) (fun _=>rfl)))))).pt (kxr (pv 1)) bb)))) (kxr fT)),?_⟩;rw[kj sh0] at q;refine⟨_,rfl,l,_,rfl,SqL.of lo.lst,cS (K:=K) (a:=l) (xs:=ps.map V.ref) (fun i σ H'=>(∃u v,σ=[some (.ref l),u,v])∧aL H H'∧∀e,e<i→(!(shs.getD e sh0).ok)=false)
  ⟨⟨none,none,rfl⟩,aL.refl H,fun e he=>absurd he (AE e)⟩ (fun i σ H' _ ⟨_,e,_⟩=>SqL.of (e _ _ lo.lst)) ?_ ?_⟩
 ·rintro i v σ H' t hx ⟨⟨u,u2,rfl⟩,sH,no⟩ ht
  have hi:i<shs.length:=by
   have:=(List.getElem?_eq_some_iff.mp hx).1;rw[Ab,lo.len] at this;exact this
  obtain⟨p,ep,dx,hp⟩:=lo.get (Aa hi);rw[ep] at hx;obtain rfl:=Ac hx;refine⟨t,_,rfl,SqT.of ag,rfl,_,_,rfl,_,_,rfl,rfl,?_⟩;have s1:=sH.trans (ah (o:=.tup [.int (i:Nat),.ref p]) ht);generalize upd H' t (.tup [.int (i:Nat),.ref p])=H1 at *
  have hp1:H1 p=some (.ins ad.sheet dx (zG shs[i])):=s1 _ _ hp;have ex:shs.getD i sh0=shs[i]:=getD_at _ hi;have stop:(shs[i]).ok=false→Q (.int (i:Int)) H1:=fun z=>by
   have:aQ shs.length (fun i => !(shs.getD i sh0).ok)=some i:=aY hi (by rw[ex,z];rfl) no;rw[this] at q;exact q H1 s1
  have go:(shs[i]).ok=true→∀e,e<i+1→(!(shs.getD e sh0).ok)=false:=fun z=>b7 (p:=fun e => !(shs.getD e sh0).ok) no (by show(!(shs.getD i sh0).ok)=false;rw[ex,z];rfl);have bad:(decide ((shs[i]).glass≤65535)=false∨Gla.within 1 Gla.SIDE (shs[i]).w=false∨Gla.within 1 Gla.SIDE (shs[i]).h=false∨decide ((shs[i]).turns≤1)=false)→(shs[i]).ok=false:=fun z=>by
   unfold Gla.Sheet.ok;rcases z with z|z|z|z <;> rw[z] <;> simp
  have dg:decide ((65535:Int)<((shs[i]).glass:Int)) = !decide ((shs[i]).glass≤65535):=by rw[← BD];exact decide_eq_decide.mpr ⟨fun h=>by omega,fun h=>by omega⟩
  have dt:decide ((1:Int)<((shs[i]).turns:Int)) = !decide ((shs[i]).turns≤1):=by rw[← BD];exact decide_eq_decide.mpr ⟨fun h=>by omega,fun h=>by omega⟩
  refine⟨_,rfl,fl hp1 T.sheet aik ⟨_,_,rfl,rfl,_,rfl,?_⟩⟩;rw[dg];refine bJ (fun z=>f6 ⟨_,rfl,stop (bad (.inl (by simpa using z)))⟩) (fun z1 => ?_);refine⟨_,rfl,fl hp1 T.sheet aip ⟨_,_,rfl,rfl,_,rfl,?_⟩⟩;rw[dt];refine bJ (fun z=>⟨_,rfl,stop (bad (.inr (.inr (.inr (by simpa using z)))))⟩) (fun z2 => ?_);refine⟨_,rfl,fl hp1 T.sheet aiE ⟨(shs[i]).w,rfl,_,rfl,bJ (fun z=>f6 ⟨_,rfl,stop (bad (.inr (.inl (by simpa using z))))⟩) (fun z3 => ?_)⟩⟩;refine⟨_,rfl,fl hp1 T.sheet aiC ⟨(shs[i]).h,rfl,_,rfl,bJ (fun z=>⟨_,rfl,stop (bad (.inr (.inr (.inl (by simpa using z)))))⟩) (fun z4 => ?_)⟩⟩;refine⟨⟨_,_,rfl⟩,s1,go ?_⟩;unfold Gla.Sheet.ok;rw[AB,CM] at z1 z2 z3 z4;rw[z1,z2,z3,z4];rfl
 ·rintro σ H' ⟨⟨u,v,rfl⟩,sH,no⟩
  rw[Ab,lo.len] at no;rw[ba no] at q;exact q H' sH
end
open Gla (Plan Pt Mark)
structure abF(ad:Adr)(H:Hp)(o:Addr)(x:List Int×List Gla.Item×List Gla.Sheet)(lr lb ls:Addr):Prop where
 ob:∃dx,H o=some (.ins ad.order dx [("refusal",.ref lr),("blanks",.ref lb),("sheets",.ref ls)])
 rf:H lr=some (.lst (x.1.map V.int))
 bl:∃pb,LO (fD ad) H lb x.2.1 pb
 sh:∃ps,LO (vG ad) H ls x.2.2 ps
def d7(m:Nat)(b:List UInt8)(shs:List Gla.Sheet):List Int×List Gla.Item×List Gla.Sheet :=
 if 65535<m then ([-1],[],[]) else if 131072<b.length∨1024<shs.length then ([-6],[],[]) else match Gla.judgePlan b with
  | .error e=>([-5,(e.rule:Int),(e.place:Int)],[],[])
  | .ok S=>match Gla.firstAt (fun(_:Nat) (x:Gla.Sheet) => !x.ok) shs with
   | some k=>([-7,(k:Int)],[],[])
   | none=>([],Gla.itemsOf S m,shs)
theorem abl{S:Plan}(R:Geo.Rules S)(hz:∀k,k<S.marks.length→Gla.clear S (S.marks.getD k m0).at_=true)(m:Nat):Gla.itemsOf S m=(List.range S.marks.length).map fun k=>zv S.pts m (fZ S k):=by
 unfold Gla.itemsOf;have lp:S.panes.length=S.marks.length:=by unfold Plan.panes;rw[Ab]
 refine List.ext_getElem (by rw[Ab,CD,lp,Ab,Au,DF]) fun k h1 h2 => ?_;rw[Ab,Au] at h2;obtain⟨l,e1,e2,_⟩:=uT R h2 (hz k h2);rw[C4,C4,Cp,e2,List.getElem_zip];have e3:S.panes[k]'(by rw[lp];exact h2)=some l:=by
  unfold Plan.panes;rw[C4];unfold Plan.pane at e1;rw[Aa h2] at e1;exact e1
 rw[e3];have e4:(S.marks.getD k m0).glass=(S.marks[k]).glass:=by rw[getD_at _ h2]
 rw[e4];rfl
section
variable {P:Program}{w:World}{K:DG}{mg:DH}{base:Heap}{ad:Adr}
theorem yM{H:Hp}{Q:VK}{lr lb ls:Addr}{pb ps:List Addr}{x:List Int×List Gla.Item×List Gla.Sheet}(hr:H lr=some (.lst (x.1.map V.int)))(hb:LO (fD ad) H lb x.2.1 pb)(hs:LO (vG ad) H ls x.2.2 ps)
  (q:∀H' o lr lb ls,aL H H'→abF ad H' o x lr lb ls→Q (.ref o) H') :
  ∀px dx,H px=Option.none→H dx=Option.none→dx≠px→Q (.ref px) (upd (upd H dx (.own px)) px (.ins ad.order dx (kD [.ref lr,.ref lb,.ref ls]))):=by
 intro px dx nx ndx ne;have s1:aL H (upd (upd H dx (.own px)) px (.ins ad.order dx (kD [.ref lr,.ref lb,.ref ls]))):=(ah ndx).trans (ah (by rw[az (Ne.symm ne)];exact nx));exact q _ px lr lb ls s1 ⟨⟨dx,ag⟩,s1 _ _ hr,⟨pb,hb.same (dF ad).same s1⟩,⟨ps,hs.same (mD ad).same s1⟩⟩
theorem oQ{H:Hp}{Q:VK}{l:List Int}{lr lb ls:Addr}(q:∀H' o lr lb ls,aL H H'→abF ad H' o (l,[],[]) lr lb ls→Q (.ref o) H')(h1:H lr=Option.none)(h2:(upd H lr (.lst (l.map V.int))) lb=Option.none)(h3:(upd (upd H lr (.lst (l.map V.int))) lb (.lst [])) ls=Option.none) :
  ∀px dx,(upd (upd (upd H lr (.lst (l.map V.int))) lb (.lst [])) ls (.lst [])) px=Option.none→(upd (upd (upd H lr (.lst (l.map V.int))) lb (.lst [])) ls (.lst [])) dx=Option.none→dx≠px →
   Q (.ref px) (upd (upd (upd (upd (upd H lr (.lst (l.map V.int))) lb (.lst [])) ls (.lst [])) dx (.own px)) px (.ins ad.order dx (kD [.ref lr,.ref lb,.ref ls]))):=by
 have s1:=ah (o:=.lst (l.map V.int)) h1;have s2:=ah (o:=.lst []) h2;have s3:=ah (o:=.lst []) h3;exact yM (x:=(l,[],[])) (pb := []) (ps := []) (s3 _ _ (s2 _ _ ag)) (.nil (s3 _ _ ag)) (.nil ag) fun H' o lr lb ls s4 oa=>q H' o lr lb ls (s1.trans (s2.trans (s3.trans s4))) oa
inductive wN(K:DG)(ad:Adr)(vs:List V)(H:Hp)(Q:VK)(E:XK):Prop
 | mk (m:Nat) (a sa:Addr) (b:List UInt8) (ns:List Int) (shs:List Gla.Sheet) (c0:vs=[.int (m:Int),.ref a,.ref sa]) (c1:SqL K H a ((bz b).map V.int)) (c2:SqL K H sa (ns.map V.int)) (c3:SheetNeutral.sheets ns=some shs) (c4:∀H' o lr lb ls,aL H H'→abF ad H' o (d7 m b shs) lr lb ls→Q (.ref o) H'):wN K ad vs H Q E
abbrev acP:Stmt:=(top 96)
theorem ad6(D:Def K mg "look" acP ["margin","cartoon","sheet_numbers"])(T:Txt K mg ad)(eI:Fn P w K mg base 10 "read_cartoon" ["data"] (yF K ad))(fN:Fn P w K mg base 4 "read_sheets" ["numbers"] (adw K ad))
  (cv:Fn P w K mg base 2 "first_wrong_sheet" ["sheets"] (ahB ad)) (kJ:Fn P w K mg base 3 "blank_of" ["pane","margin"] (adk ad)) (jc:Kl P w K mg base 1 "Order" ad.order 3 kD):Fn P w K mg base 11 "look" ["margin","cartoon","sheet_numbers"] (wN K ad):=by
 refine D.fx ["margin","cartoon","sheet_numbers","judged","stock","wrong","pane"] ?_;rintro nd f cdv A outer s H vs Q E hr ⟨m,a,sa,b,ns,shs,rfl,hA,hN,hs,q⟩;obtain⟨ln,_⟩:=mi ns shs hs;refine⟨_,(kxf (kxg (pv 0) (kxG T.cF)) (kxK jc hr (ab (aG (ab (wO rH ao) ak)) (ab (aG ak) (ab (aG ak) ak)))) (kxf ((lC (kxg (kxL T.bD (pv 1)) (kxG T.cZ)) (fW (kxg (kxL T.bD (pv 2)) (aP dr (kxG T.bH) (kxG T.cG)))))).pt (kxK jc hr (ab (aG (ab (wO rH ao) ak)) (ab (aG ak) (ab (aG ak) ak)))) (kxs 3 nd (kxF eI hr (ab (pv 1) ak)) (kxf (aS (ay (pv 3) rfl) (fun _=>rfl)) (kxK jc hr (ab (aP qN (aG (ab (wO rH ao) ak)) (ay (pv 3) rfl)) (ab (aG ak) (ab (aG ak) ak)))) (kxs 4 nd (kxF fN hr (ab (pv 2) ak)) (kxs 5 nd (kxF cv hr (ab (pv 4) ak)) (kxf (ig (zf (pv 5))) (kxK jc hr (ab (aG (ab (wO rH ao) (ab (pv 5) ak))) (ab (aG ak) (ab (aG ak) ak)))) (kxr (kxK jc hr (ab (aG ak) (ab (aaG rfl nd (bU (ay (pv 3) rfl)) (ff (own := [("pane",6)]) rfl) (fun _ _ _ _ _=>(kxo 6 nd)) (fun _ _ _ _ _=>dh) (fun _ _ _ _ _=>(kxF kJ hr (ab (pv 6) (ab (pv 0) ak))))) (ab (pv 4) ak)))))))))))),?_⟩;have dm:decide ((65535:Int)<(m:Int))=decide (65535<m):=decide_eq_decide.mpr ⟨fun h=>by omega,fun h=>by omega⟩;refine⟨_,rfl,_,_,rfl,rfl,_,rfl,?_⟩;rw[dm];refine bJ (fun z => ?_) (fun z1 => ?_)
 ·have z':65535<m:=Al z
  have e:d7 m b shs=([-1],[],[]):=by unfold d7;rw[Ag z']
  rw[e] at q;refine⟨_,rfl,by show 1≤sizeLine;decide,fun lr hlr=>⟨Av _,fun lb hlb=>⟨Av _,fun ls hls=>ro rfl ?_⟩⟩⟩;exact oQ (l := [-1]) q hlr hlb hls
 have z1':¬65535<m:=fun y=>z1 (Ak y);have six:(131072<b.length∨1024<shs.length)→∀lr lb ls,H lr=Option.none→(upd H lr (.lst [.int (-6)])) lb=Option.none→(upd (upd H lr (.lst [.int (-6)])) lb (.lst [])) ls=Option.none →
   ∀px dx,(upd (upd (upd H lr (.lst [.int (-6)])) lb (.lst [])) ls (.lst [])) px=Option.none→(upd (upd (upd H lr (.lst [.int (-6)])) lb (.lst [])) ls (.lst [])) dx=Option.none→dx≠px →
    Q (.ref px) (upd (upd (upd (upd (upd H lr (.lst [.int (-6)])) lb (.lst [])) ls (.lst [])) dx (.own px)) px (.ins ad.order dx (kD [.ref lr,.ref lb,.ref ls]))):=by
  intro z lr lb ls hlr hlb hls;have e:d7 m b shs=([-6],[],[]):=by unfold d7;rw[Ad z1',Ag z]
  rw[e] at q;exact oQ (l := [-6]) q hlr hlb hls
 have lb_:((bz b).map V.int).length=b.length:=by unfold bz;rw[Ab,Ab]
 have ln_:(ns.map V.int).length=4*shs.length:=by rw[Ab,ln]
 refine⟨_,rfl,a,_,rfl,.inl hA,_,_,rfl,rfl,_,rfl,?_⟩;rw[lb_];refine bJ (fun z=>f6 ⟨_,rfl,by show 1≤sizeLine;decide,fun lr hlr=>⟨Av _,fun lb hlb=>⟨Av _,fun ls hls=>ro rfl ?_⟩⟩⟩) (fun z2 => ?_)
 ·exact six (.inl (by have:=Al z;omega)) lr lb ls hlr hlb hls
 refine⟨_,rfl,sa,_,rfl,.inl hN,_,_,rfl,rfl,c4 _,_,_,rfl,rfl,_,rfl,?_⟩;rw[ln_];refine bJ (fun z=>⟨_,rfl,by show 1≤sizeLine;decide,fun lr hlr=>⟨Av _,fun lb hlb=>⟨Av _,fun ls hls=>ro rfl ?_⟩⟩⟩) (fun z3 => ?_)
 ·exact six (.inr (by have:=Al z;omega)) lr lb ls hlr hlb hls
 have z23:¬(131072<b.length∨1024<shs.length):=by
  have y2:¬((131072:Int)<(b.length:Int)):=fun y=>z2 (Ak y);have y3:¬((4*1024:Int)<((4*shs.length:Nat):Int)):=fun y=>z3 (Ak y);omega
 refine⟨_,rfl,a,b,rfl,hA,fun H1 c pts bk xs s1 rd ca => ?_⟩;obtain⟨dx,lbr,lp,ps,c1,c2,c3⟩:=ca.ex;cases rd with
 | bad pts r pl ej =>
  have e:d7 m b shs=([-5,(r:Int),(pl:Int)],[],[]):=by unfold d7;rw[Ad z1',Ad z23,ej]
  rw[e] at q;refine⟨_,rfl,fl c1 T.cartoon rfl ⟨_,.inl ⟨_,SqL.of c2,rfl⟩,f6 ?_⟩⟩;refine⟨_,rfl,by show 1≤sizeLine;decide,fun l5 hl5 => ?_⟩;have s5:=ah (o:=.lst [.int (-5)]) hl5;refine⟨_,rfl,fl (s5 _ _ c1) T.cartoon rfl ⟨l5,lbr,_,_,rfl,rfl,ag,s5 _ _ c2,by show 3≤sizeLine;decide,fun lr hlr=>⟨Av _,fun lb hlb=>⟨Av _,fun ls hls=>ro rfl ?_⟩⟩⟩⟩;exact oQ (l := [-5,(r:Int),(pl:Int)]) (fun H' o lr lb ls s9 oa=>q H' o lr lb ls (s1.trans (s5.trans s9)) oa) hlr hlb hls
 | ok S R ej he hz =>
  refine⟨_,rfl,fl c1 T.cartoon rfl ⟨_,.inl ⟨_,SqL.of c2,rfl⟩,fS ?_⟩⟩;refine⟨_,rfl,sa,ns,shs,rfl,s1.seq hN,hs,by omega,fun H2 l ps2 s2 lo => ?_⟩;refine⟨_,rfl,l,shs,ps2,rfl,lo,fun H3 s3 => ?_⟩;have s13:=s1.trans (s2.trans s3);cases hw:Gla.firstAt (fun(_:Nat) (x:Gla.Sheet) => !x.ok) shs with
  | some k =>
   have e:d7 m b shs=([-7,(k:Int)],[],[]):=by unfold d7;rw[Ad z1',Ad z23,ej];show(match Gla.firstAt (fun(_:Nat) (x:Gla.Sheet) => !x.ok) shs with|some k=>_|none=>_)=_;rw[hw]
   rw[e] at q;refine⟨_,rfl,_,rfl,f6 ⟨_,rfl,_,rfl,by show 2≤sizeLine;decide,fun lr hlr=>⟨Av _,fun lb hlb=>⟨Av _,fun ls hls=>ro rfl ?_⟩⟩⟩⟩;exact oQ (l := [-7,(k:Int)]) (fun H' o lr lb ls s9 oa=>q H' o lr lb ls (s13.trans s9) oa) hlr hlb hls
  | none =>
   have e:d7 m b shs=([],Gla.itemsOf S m,shs):=by unfold d7;rw[Ad z1',Ad z23,ej];show(match Gla.firstAt (fun(_:Nat) (x:Gla.Sheet) => !x.ok) shs with|some k=>_|none=>_)=_;rw[hw]
   rw[e,abl R hz] at q;have pl13:=c3.same (s2.trans s3);have c13:=(s2.trans s3) _ _ c1;have lo3:=lo.same (mD ad).same s3;refine⟨_,rfl,_,rfl,fS ⟨Av _,fun lr hlr => ?_⟩⟩;have s4:=ah (o:=.lst []) hlr;have hr4:(upd H3 lr (.lst [])) lr=some (.lst (([]:List Int).map V.int)):=ag;generalize upd H3 lr (.lst [])=H4 at *
   have pl4:=pl13.same s4;have nl:∀i,i<S.marks.length→((List.range S.marks.length).map (fZ S))[i]? = some (fZ S i):=fun i hi=>by rw[Am,AN hi];rfl
   have nm:S.marks.length<65536:=by rw[he];exact iZ b
   have np:ps.length=S.marks.length:=by rw[c3.len,Ab,Au]
   refine⟨_,rfl,fl (s4 _ _ c13) T.cartoon rfl ⟨lp,rfl,⟨_,SqL.of pl4.lst⟩,fun cb hcb=>kq (J:=Itl K lp) cb S.marks.length (fun n H'=>aL H4 H'∧∃pb,LO (fD ad) H' cb ((List.range n).map fun k=>zv S.pts m (fZ S k)) pb) ⟨ah hcb,[],.nil ag⟩ ?_ ?_ ?_⟩⟩
   ·rintro i H5 hi ⟨s5,_⟩
    exact⟨_,.ref (ps[i]'(by omega)),SqL.of (s5 _ _ pl4.lst),by rw[Am,Aa (by omega)];rfl⟩
   ·rintro i v H5 H6 hi ⟨s5,pb,lo5⟩ ⟨rfl,hx⟩
    have ex:=hx _ (SqL.of (s5 _ _ pl4.lst));have hip:i<ps.length:=by omega
    rw[Am,Aa hip] at ex;obtain rfl:V.ref ps[i]=v:=Ac ex;have pa:=(pl4.at_ i _ _ (Aa hip) (nl i hi)).same s5;obtain⟨l0,_,ex2,hl0⟩:=uT R hi (hz i hi);have okp:=tR R (by rw[he];unfold Gla.parts;simp;exact iJ _ _) hl0;have l0p:0<l0.length:=by
     obtain⟨r,_,er,ar⟩:=R.gz.mp hl0;cases l0 with
     | nil=>exact absurd ar (by show ¬((0:Int)<0);decide)
     | cons a t=>exact B9 _
    have e2l:(fZ S i).2=l0:=by rw[ex2]
    refine⟨rfl,lA ⟨_,rfl,_,rfl,ps[i],m,S.pts,fZ S i,rfl,pa,by rw[e2l];exact l0p,by rw[e2l];exact okp.2,fun H7 pq s7 hb=>⟨_,s7 _ _ lo5.lst,?_,aH (s5.trans s7) hcb,pb++[pq],?_⟩⟩⟩
    ·rw[Ab,lo5.len,Ab,Au];exact aZ (by omega)
    ·rw[Bj,As]
     exact(lo5.same (dF ad).same s7).snoc (dF ad) hb
   ·rintro H5 ⟨s5,pb,lo5⟩
    refine⟨⟨_,SqL.of (s5 _ _ pl4.lst),by rw[Ab,np];exact Ae _⟩,?_⟩;refine⟨_,rfl,?_⟩;refine tf ?_;refine ro (us := [.ref lr,.ref cb,.ref l]) rfl ?_;have s45:=s4.trans s5;exact yM (x:=([],(List.range S.marks.length).map fun k=>zv S.pts m (fZ S k),shs)) (s5 _ _ hr4) lo5 (lo3.same (mD ad).same s45) fun H' o lr lb ls s9 oa=>q H' o lr lb ls (s13.trans (s45.trans s9)) oa
end
theorem judge_ok{b:List UInt8}{S:Plan}(h:Gla.judgePlan b=.ok S):Geo.Rules S∧S=Gla.parts b∧∀k,k<S.marks.length→Gla.clear S (S.marks.getD k m0).at_=true:=by
 rcases oH b with⟨r,p,_,e⟩|⟨_,ho,e⟩
 ·rw[e] at h;cases h
 ·rw[e] at h
  rcases mP (Gla.parts b) with⟨r,pl,_,e2⟩|⟨_,e2,lo,R,hz⟩
  ·rw[e2] at h;cases h
  ·rw[e2] at h
   have R:=R (yh ho) (aac ho);rcases zp R hz with⟨r,pl,_,g2⟩|⟨_,g2⟩
   ·rw[g2] at h;cases h
   ·rw[g2] at h
    have e3:Gla.parts b=S:=by injection h
    subst e3;exact⟨R,rfl,hz⟩
theorem abC(b:List UInt8):SheetNeutral.bytes (bz b)=some b:=by
 unfold SheetNeutral.bytes;have h1:NeutralIO.bytes (bz b)=true:=by
  unfold NeutralIO.bytes;rw[BM];intro z hz;have:=l6 b z hz;rw[Ar];exact⟨Ak this.1,Ak (by omega)⟩
 rw[Ag h1]
 congr 1
 unfold bz;rw[AX];have:((fun(z:Int)=>UInt8.ofNat z.toNat) ∘ fun(c:UInt8)=>(c.toNat:Int))=id:=by
  funext c
  show UInt8.ofNat ((c.toNat:Int)).toNat=c;rw[BW,UInt8.ofNat_toNat]
 rw[this,List.map_id]
theorem acA(n:Nat):SheetNeutral.nat (n:Int)=some n:=by
 unfold SheetNeutral.nat;rw[Ad (by omega),BW]
theorem ahw{p:List Int}(h:p.all (fun(z:Int)=>SheetNeutral.natural z 8)=true):∃b,p=bz b:=by
 refine⟨p.map fun z=>UInt8.ofNat z.toNat,?_⟩;unfold bz;rw[AX];rw[BM] at h;have:∀l:List Int,(∀z∈l,0≤z∧z<256)→l=l.map ((fun(c:UInt8)=>(c.toNat:Int)) ∘ fun(z:Int)=>UInt8.ofNat z.toNat):=by
  intro l
  induction l with
  | nil=>intro _;rfl
  | cons a r ih =>
   intro hl;rw[A3,← ih fun z hz=>hl z (Af _ hz)];have:=hl a Ah;have e:((UInt8.ofNat a.toNat).toNat:Int)=a:=by
    rw[UInt8.toNat_ofNat'];have:a.toNat<256:=by omega
    rw[Nat.mod_eq_of_lt (by simpa using this)];omega
   congr 1
   exact e.symm
 refine this p fun z hz => ?_;have:=h z hz;unfold SheetNeutral.natural at this;rw[Ar] at this;exact⟨Al this.1,by have:=Al this.2;omega⟩
theorem xW(S:Plan)(m:Nat):(Gla.itemsOf S m).length=S.marks.length:=by
 unfold Gla.itemsOf Plan.panes;rw[Ab,CD,Ab,DF]
end Gs
namespace Gs
open Gla (Node Fault Item Sheet)
structure Rc where
 x:Nat
 y:Nat
 w:Nat
 h:Nat
structure FNd where
 sh:Nat
 rc:Rc
 ns:List Nat
def flat(k:Nat):Node→Rc→List FNd
 | .left,r=>[⟨k,r,[0]⟩]
 | .pane i t,r=>[⟨k,r,[1,i,if t=true then 1 else 0]⟩]
 | .upright c a b,r=>⟨k,r,[2,c]⟩::(flat k a ⟨r.x,r.y,c,r.h⟩++flat k b ⟨r.x+c,r.y,r.w-c,r.h⟩)
 | .level c a b,r=>⟨k,r,[3,c]⟩::(flat k a ⟨r.x,r.y,r.w,c⟩++flat k b ⟨r.x,r.y+c,r.w,r.h-c⟩)
section
variable (items:List Item)(s:Sheet)(row:List Nat)
theorem xY:∀(n m:Nat) (p:Nat×Nat) (q:Nat) (u:List Nat),row.length+1≤q+n→row.length+1≤q+m→Gla.readNode items s row n p q u=Gla.readNode items s row m p q u
 | 0,0,p,q,u,h1,h2=>rfl
 | 0,m+1,p,q,u,h1,h2=>by
  unfold Gla.readNode;rw[AA (by omega),BL (by omega)]
 | n+1,0,p,q,u,h1,h2=>by
  unfold Gla.readNode;rw[AA (by omega),BL (by omega)]
 | n+1,m+1,p,q,u,h1,h2=>by
  unfold Gla.readNode;have ih:∀p' q' u',q+2≤q'→Gla.readNode items s row n p' q' u'=Gla.readNode items s row m p' q' u':=fun p' q' u' h=>xY n m p' q' u' (by omega) (by omega);have e1:∀x,Gla.readNode items s row n (x,p.2) (q+2) u=Gla.readNode items s row m (x,p.2) (q+2) u:=fun x=>ih _ _ _ (Ae _);have e2:∀y,Gla.readNode items s row n (p.1,y) (q+2) u=Gla.readNode items s row m (p.1,y) (q+2) u:=fun x=>ih _ _ _ (Ae _);have e3:∀x (a:Node×Nat),Gla.readNode items s row n (p.1-x,p.2) (q+2+a.2) (u++a.1.panes)=Gla.readNode items s row m (p.1-x,p.2) (q+2+a.2) (u++a.1.panes):=fun x a=>ih _ _ _ (by omega);have e4:∀y (a:Node×Nat),Gla.readNode items s row n (p.1,p.2-y) (q+2+a.2) (u++a.1.panes)=Gla.readNode items s row m (p.1,p.2-y) (q+2+a.2) (u++a.1.panes):=fun x a=>ih _ _ _ (by omega);simp only[e1,e2,e3,e4]
def rdN(p:Nat×Nat)(q:Nat)(u:List Nat):Except Fault (Node×Nat):=Gla.readNode items s row (row.length+1) p q u
def stk(k:Nat):List Rc→Nat→List Nat→Except Fault (List FNd×Nat×List Nat)
 | [],q,u=>.ok ([],q,u)
 | r::st,q,u=>match rdN items s row (r.w,r.h) q u with
  | .error e=>.error e
  | .ok a=>match stk k st (q+a.2) (u++a.1.panes) with
   | .error e=>.error e
   | .ok z=>.ok (flat k a.1 r++z.1,z.2)
theorem hX(k:Nat)(r:Rc)(st:List Rc)(q:Nat)(u:List Nat):stk items s row k (r::st) q u=match rdN items s row (r.w,r.h) q u with
  | .error e=>.error e
  | .ok a=>match stk items s row k st (q+a.2) (u++a.1.panes) with
   | .error e=>.error e
   | .ok z=>.ok (flat k a.1 r++z.1,z.2):=rfl
def hd(r:Rc)(q:Nat)(u:List Nat):Except Fault (List Nat):=match row[q]? with
 | none=>.error ⟨1,row.length⟩
 | some 0=>.ok [0]
 | some 1=>match row[q+1]?,row[q+2]? with
  | some i,some t =>
   if 1<t then .error ⟨1,q+2⟩
   else match items[i]? with
    | none=>.error ⟨3,q+1⟩
    | some x =>
     if u.contains i=true then .error ⟨3,q+1⟩
     else if x.glass≠s.glass then .error ⟨4,q+1⟩
     else if t=1∧s.turns=0 then .error ⟨5,q+2⟩
     else if r.w<(x.lies (t==1)).1∨r.h<(x.lies (t==1)).2 then .error ⟨6,q+1⟩
     else .ok [1,i,t]
  | _,_=>.error ⟨1,row.length⟩
 | some 2=>match row[q+1]? with
  | none=>.error ⟨1,row.length⟩
  | some x=>if x=0∨r.w≤x then .error ⟨2,q+1⟩ else .ok [2,x]
 | some 3=>match row[q+1]? with
  | none=>.error ⟨1,row.length⟩
  | some y=>if y=0∨r.h≤y then .error ⟨2,q+1⟩ else .ok [3,y]
 | some _=>.error ⟨1,q⟩
def kids(r:Rc):List Nat→List Rc
 | [2,x]=>[⟨r.x,r.y,x,r.h⟩,⟨r.x+x,r.y,r.w-x,r.h⟩]
 | [3,y]=>[⟨r.x,r.y,r.w,y⟩,⟨r.x,r.y+y,r.w,r.h-y⟩]
 | _=>[]
def pn:List Nat→List Nat
 | [1,i,_]=>[i]
 | _=>[]
def pX(f:FNd):Except Fault (List FNd×Nat×List Nat)→Except Fault (List FNd×Nat×List Nat)
 | .error e=>.error e
 | .ok z=>.ok (f::z.1,z.2)
theorem abP(k:Nat)(r:Rc)(st:List Rc)(q:Nat)(u:List Nat):stk items s row k (r::st) q u=match hd items s row r q u with
  | .error e=>.error e
  | .ok ns=>pX ⟨k,r,ns⟩ (stk items s row k (kids r ns++st) (q+ns.length) (u++pn ns)):=by
 have fu:∀p q' u',q+2≤q'→Gla.readNode items s row row.length p q' u'=rdN items s row p q' u':=fun p q' u' h=>xY items s row _ _ p q' u' (by omega) (by omega);rw[hX items s row k r]
 conv=>lhs;unfold rdN Gla.readNode
 unfold hd;cases h0:row[q]? with
 | none=>rfl
 | some v =>
  match v with
  | 0 =>
   show(match stk items s row k st (q+1) (u++[]) with|.error e=>_|.ok z=>_)=pX _ (stk items s row k ([]++st) (q+1) (u++[]));rw[AR,List.nil_append];cases stk items s row k st (q+1) u <;> rfl
  | 1 =>
   cases h1:row[q+1]? with
   | none=>rfl
   | some i =>
    cases h2:row[q+2]? with
    | none=>rfl
    | some t =>
     simp only[]
     by_cases c1:1<t
     ·rw[Ag c1,Ag c1]
     ·rw[Ad c1,Ad c1]
      cases hx:items[i]? with
      | none=>rfl
      | some x =>
       simp only[]
       by_cases c2:u.contains i=true
       ·rw[Ag c2,Ag c2]
       ·rw[Ad c2,Ad c2]
        by_cases c3:x.glass≠s.glass
        ·rw[Ag c3,Ag c3]
        ·rw[Ad c3,Ad c3]
         by_cases c4:t=1∧s.turns=0
         ·rw[Ag c4,Ag c4]
         ·rw[Ad c4,Ad c4]
          by_cases c5:r.w<(x.lies (t==1)).1∨r.h<(x.lies (t==1)).2
          ·rw[Ag c5,Ag c5]
          ·rw[Ad c5,Ad c5]
           show(match stk items s row k st (q+3) (u++[i]) with|.error e=>_|.ok z=>_)=pX _ (stk items s row k ([]++st) (q+3) (u++[i]));rw[List.nil_append];have et:(if (t==1)=true then 1 else 0)=t:=by
            by_cases e:t=1
            ·rw[e];rfl
            ·have:t=0:=by omega
             rw[this];rfl
           cases stk items s row k st (q+3) (u++[i]) with
           | error e=>rfl
           | ok z =>
            show Except.ok ([⟨k,r,[1,i,if (t==1)=true then 1 else 0]⟩]++z.1,z.2)=_;rw[et];rfl
  | 2 =>
   cases h1:row[q+1]? with
   | none=>rfl
   | some x =>
    simp only[]
    by_cases c1:x=0∨r.w≤x
    ·rw[Ag c1,Ag c1]
    ·rw[Ad c1,Ad c1,fu _ _ _ (Ae _)]
     show _=pX _ (stk items s row k (⟨r.x,r.y,x,r.h⟩::⟨r.x+x,r.y,r.w-x,r.h⟩::st) (q+2) (u++[]));rw[AR];rw[hX items s row k ⟨r.x,r.y,x,r.h⟩];show _=pX _ (match rdN items s row (x,r.h) (q+2) u with|.error e=>_|.ok a=>_);cases ha:rdN items s row (x,r.h) (q+2) u with
     | error e=>rfl
     | ok a =>
      simp only[];rw[fu _ _ _ (by omega)];rw[hX items s row k ⟨r.x+x,r.y,r.w-x,r.h⟩];cases hb:rdN items s row (r.w-x,r.h) (q+2+a.2) (u++a.1.panes) with
      | error e=>rfl
      | ok b =>
       simp only[];have e1:q+(2+a.2+b.2)=q+2+a.2+b.2:=by omega
       have e2:u++(Node.upright x a.1 b.1).panes=u++a.1.panes++b.1.panes:=by show u++(a.1.panes++b.1.panes)=_;rw[Bt]
       rw[e1,e2];cases stk items s row k st (q+2+a.2+b.2) (u++a.1.panes++b.1.panes) with
       | error e=>rfl
       | ok z =>
        show Except.ok ((⟨k,r,[2,x]⟩::(flat k a.1 _++flat k b.1 _))++z.1,z.2)=Except.ok (⟨k,r,[2,x]⟩::(flat k a.1 _++(flat k b.1 _++z.1)),z.2);rw[C3,Bt]
  | 3 =>
   cases h1:row[q+1]? with
   | none=>rfl
   | some x =>
    simp only[]
    by_cases c1:x=0∨r.h≤x
    ·rw[Ag c1,Ag c1]
    ·rw[Ad c1,Ad c1,fu _ _ _ (Ae _)]
     show _=pX _ (stk items s row k (⟨r.x,r.y,r.w,x⟩::⟨r.x,r.y+x,r.w,r.h-x⟩::st) (q+2) (u++[]));rw[AR];rw[hX items s row k ⟨r.x,r.y,r.w,x⟩];show _=pX _ (match rdN items s row (r.w,x) (q+2) u with|.error e=>_|.ok a=>_);cases ha:rdN items s row (r.w,x) (q+2) u with
     | error e=>rfl
     | ok a =>
      simp only[];rw[fu _ _ _ (by omega)];rw[hX items s row k ⟨r.x,r.y+x,r.w,r.h-x⟩];cases hb:rdN items s row (r.w,r.h-x) (q+2+a.2) (u++a.1.panes) with
      | error e=>rfl
      | ok b =>
       simp only[];have e1:q+(2+a.2+b.2)=q+2+a.2+b.2:=by omega
       have e2:u++(Node.level x a.1 b.1).panes=u++a.1.panes++b.1.panes:=by show u++(a.1.panes++b.1.panes)=_;rw[Bt]
       rw[e1,e2];cases stk items s row k st (q+2+a.2+b.2) (u++a.1.panes++b.1.panes) with
       | error e=>rfl
       | ok z =>
        show Except.ok ((⟨k,r,[3,x]⟩::(flat k a.1 _++flat k b.1 _))++z.1,z.2)=Except.ok (⟨k,r,[3,x]⟩::(flat k a.1 _++(flat k b.1 _++z.1)),z.2);rw[C3,Bt]
  | n+4=>rfl
end
section
variable (items:List Item)(row:List Nat)
def q5:Nat→List Sheet→Nat→List Nat→Except Fault (List FNd×Nat×List Nat)
 | _,[],q,u=>.ok ([],q,u)
 | k,s::r,q,u=>match stk items s row k [⟨0,0,s.w,s.h⟩] q u with
  | .error e=>.error e
  | .ok z=>match q5 (k+1) r z.2.1 z.2.2 with
   | .error e=>.error e
   | .ok y=>.ok (z.1++y.1,y.2)
def fC:Nat→List Sheet→List Node→List FNd
 | k,s::r,n::l=>flat k n ⟨0,0,s.w,s.h⟩++fC (k+1) r l
 | _,_,_=>[]
def aeL(q:Nat)(u:List Nat):Option Fault :=
 if q<row.length then some ⟨1,q⟩ else if ((List.range items.length).any fun(i:Nat) => !u.contains i)=true then some ⟨7,row.length⟩ else none
theorem zV:∀(shs:List Sheet) (k q:Nat) (u:List Nat),(∃e,q5 items row k shs q u=.error e∧Gla.readSheets items row shs q u=.error e) ∨
  (∃l q' u',q5 items row k shs q u=.ok (fC k shs l,q',u')∧l.length=shs.length∧Gla.readSheets items row shs q u=match aeL items row q' u' with
   | some e=>.error e
   | none=>.ok l)
 | [],k,q,u=>by
  right
  refine⟨[],q,u,rfl,rfl,?_⟩;unfold Gla.readSheets aeL
  by_cases h1:q<row.length
  ·rw[Ag h1,Ag h1]
  ·rw[Ad h1,Ad h1]
   by_cases h2:((List.range items.length).any fun(i:Nat) => !u.contains i)=true
   ·rw[Ag h2,Ag h2]
   ·rw[Ad h2,Ad h2]
 | s::r,k,q,u=>by
  unfold q5 Gla.readSheets;rw[hX];dsimp only;cases ha:rdN items s row (s.w,s.h) q u with
  | error e =>
   have ha':Gla.readNode items s row (row.length+1) (s.w,s.h) q u=.error e:=ha;rw[ha'];exact .inl ⟨e,rfl,rfl⟩
  | ok a =>
   have ha':Gla.readNode items s row (row.length+1) (s.w,s.h) q u=.ok a:=ha;rw[ha'];show(∃e,(match q5 items row (k+1) r (q+a.2) (u++a.1.panes) with|.error e=>Except.error e|.ok y=>Except.ok ((flat k a.1 ⟨0,0,s.w,s.h⟩++[])++y.1,y.2))=Except.error e∧(match Gla.readSheets items row r (q+a.2) (u++a.1.panes) with|.error e=>Except.error e|.ok l=>Except.ok (a.1::l))=Except.error e) ∨
    (∃l q' u',(match q5 items row (k+1) r (q+a.2) (u++a.1.panes) with|.error e=>Except.error e|.ok y=>Except.ok ((flat k a.1 ⟨0,0,s.w,s.h⟩++[])++y.1,y.2))=Except.ok (fC k (s::r) l,q',u')∧l.length=(s::r).length∧(match Gla.readSheets items row r (q+a.2) (u++a.1.panes) with|.error e=>Except.error e|.ok l=>Except.ok (a.1::l))=match aeL items row q' u' with|some e=>Except.error e|none=>Except.ok l)
   rcases zV r (k+1) (q+a.2) (u++a.1.panes) with⟨e,h1,h2⟩|⟨l,q',u',h1,h2,h3⟩
   ·left;rw[h1,h2];exact⟨e,rfl,rfl⟩
   ·right
    refine⟨a.1::l,q',u',?_,by rw[Aq,Aq,h2],?_⟩
    ·rw[h1,AR];rfl
    ·rw[h3]
     cases aeL items row q' u' <;> rfl
structure aaC(u:List Nat):Prop where
 nd:u.Nodup
 lt:∀i∈u,i<items.length
theorem agT{q:Nat}{u:List Nat}(h:aaC items u):aeL items row q u=if q<row.length then some ⟨1,q⟩ else if u.length<items.length then some ⟨7,row.length⟩ else none:=by
 unfold aeL
 by_cases h1:q<row.length
 ·rw[Ag h1,Ag h1]
 ·rw[Ad h1,Ad h1]
  have:(((List.range items.length).any fun(i:Nat) => !u.contains i)=true)↔u.length<items.length:=by
   rw[AV]
   constructor
   ·rintro⟨i,hi,hn⟩
    rw[AZ] at hi;have ni:i ∉ u:=by
     intro z;rw[List.contains_iff_mem.mpr z] at hn;cases hn
    have:=AJ (l₁:=i::u) (l₂:=List.range items.length) (List.nodup_cons.mpr ⟨ni,h.nd⟩) (fun j hj=>by
     rcases List.mem_cons.mp hj with rfl|hj
     ·exact List.mem_range.mpr hi
     ·exact List.mem_range.mpr (h.lt j hj))
    rw[Au,Aq] at this;omega
   ·intro hl
    apply Classical.byContradiction
    intro z;have sub:∀i∈List.range items.length,i∈u:=by
     intro i hi
     apply Classical.byContradiction
     intro y;refine z ⟨i,hi,?_⟩;rw[Bool.not_eq_true',BZ];intro t;exact y (List.contains_iff_mem.mp t)
    have:=AJ (l₁:=List.range items.length) (l₂:=u) Cc sub;rw[Au] at this;omega
  by_cases h2:u.length<items.length
  ·rw[Ag (this.mpr h2),Ag h2]
  ·rw[Ad (fun z=>h2 (this.mp z)),Ad h2]
end
def nn(v:Nat):Nat := [1,3,2,2].getD v 0
def jo(row:List Nat)(q:Nat):Option (Nat×Int) :=
 if row.length≤q∨3<row.getD q 0 then some (1,(q:Int)) else if row.length<q+nn (row.getD q 0) then some (1,(row.length:Int)) else if row.getD q 0=1∧1<row.getD (q+2) 0 then some (1,((q+2:Nat):Int)) else none
def yP(row:List Nat)(q:Nat)(r:Rc):Option (Nat×Int) :=
 if row.getD (q+1) 0=0∨(if row.getD q 0=2 then r.w else r.h)≤row.getD (q+1) 0 then some (2,((q+1:Nat):Int)) else none
def it0:Item:=⟨0,0,0⟩
def rK(x:Item)(t:Nat)(r:Rc):Bool:=if t=1 then decide (x.h≤r.w)&&decide (x.w≤r.h) else decide (x.w≤r.w)&&decide (x.h≤r.h)
def wJ(items:List Item)(s:Sheet)(row:List Nat)(q:Nat)(r:Rc)(u:List Nat):Option (Nat×Int) :=
 if items.length≤row.getD (q+1) 0∨row.getD (q+1) 0∈u then some (3,((q+1:Nat):Int)) else if (items.getD (row.getD (q+1) 0) it0).glass≠s.glass then some (4,((q+1:Nat):Int))
 else if row.getD (q+2) 0=1∧s.turns=0 then some (5,((q+2:Nat):Int)) else if rK (items.getD (row.getD (q+1) 0) it0) (row.getD (q+2) 0) r=false then some (6,((q+1:Nat):Int)) else none
def vR(items:List Item)(s:Sheet)(row:List Nat)(q:Nat)(r:Rc)(u:List Nat):Option (Nat×Int):=match jo row q with
 | some e=>some e
 | none=>if row.getD q 0=1 then wJ items s row q r u else if row.getD q 0≠0 then yP row q r else none
def nums(row:List Nat)(q:Nat):List Nat:=(row.drop q).take (nn (row.getD q 0))
theorem ahx{row:List Nat}{q a:Nat}(h0:row[q]? = some a)(h:nn a=1):nums row q=[a]:=by
 have hl:=(List.getElem?_eq_some_iff.mp h0);unfold nums;have e:row.getD q 0=a:=by rw[Aj,h0];rfl
 rw[e,h,AI hl.1,hl.2];rfl
theorem agp{row:List Nat}{q a b:Nat}(h0:row[q]? = some a)(h1:row[q+1]? = some b)(h:nn a=2):nums row q=[a,b]:=by
 have hl:=(List.getElem?_eq_some_iff.mp h0);have hl1:=(List.getElem?_eq_some_iff.mp h1);unfold nums;have e:row.getD q 0=a:=by rw[Aj,h0];rfl
 rw[e,h,AI hl.1,hl.2,AI hl1.1,hl1.2];rfl
theorem ahZ{row:List Nat}{q a b c:Nat}(h0:row[q]? = some a)(h1:row[q+1]? = some b)(h2:row[q+2]? = some c)(h:nn a=3):nums row q=[a,b,c]:=by
 have hl:=(List.getElem?_eq_some_iff.mp h0);have hl1:=(List.getElem?_eq_some_iff.mp h1);have hl2:=(List.getElem?_eq_some_iff.mp h2);unfold nums;have e:row.getD q 0=a:=by rw[Aj,h0];rfl
 rw[e,h,AI hl.1,hl.2,AI hl1.1,hl1.2,AI hl2.1,hl2.2];rfl
theorem gu{row:List Nat}{q a:Nat}(h:row[q]? = some a):row.getD q 0=a:=by rw[Aj,h];rfl
theorem qW(x:Item)(t:Nat)(r:Rc):rK x t r=false↔(r.w<(x.lies (t==1)).1∨r.h<(x.lies (t==1)).2):=by
 unfold rK Gla.Item.lies
 by_cases h:t=1
 ·rw[Ag h,Ag (beq_iff_eq.mpr h)]
  simp only[C1,Bz];omega
 ·rw[Ad h,Ad (fun z=>h (beq_iff_eq.mp z))]
  simp only[C1,Bz];omega
theorem adJ(items:List Item)(s:Sheet)(row:List Nat)(q:Nat)(r:Rc)(u:List Nat)(hq:q≤row.length) :
  (∃(a p:Nat),vR items s row q r u=some (a,(p:Int))∧hd items s row r q u=.error ⟨a,p⟩) ∨
  (vR items s row q r u=none∧hd items s row r q u=.ok (nums row q)∧q+(nums row q).length≤row.length∧0<(nums row q).length ∧
   ((nums row q=[0])∨(∃i t,nums row q=[1,i,t]∧i<items.length∧i ∉ u)∨(∃x,nums row q=[2,x]∧0<x∧x<r.w)∨(∃x,nums row q=[3,x]∧0<x∧x<r.h))):=by
 unfold vR jo hd
 by_cases h0:q<row.length
 rotate_left
 ·left
  rw[AA (by omega),Ag (.inl (by omega))];exact⟨1,q,rfl,by rw[show q=row.length by omega]⟩
 obtain⟨v,ev⟩:∃v,row[q]? = some v:=⟨_,Aa h0⟩;rw[gu ev,ev]
 match v,ev with
 | 0,ev =>
  right
  have c1:¬(row.length≤q∨3<0):=by omega
  have c2:¬(row.length<q+nn 0):=by show ¬(row.length<q+1);omega
  rw[Ad c1,Ad c2,Ad (by omega),ahx ev rfl];exact⟨rfl,rfl,by show q+1≤_;omega,B9 _,.inl rfl⟩
 | 1,ev =>
  have c1:¬(row.length≤q∨3<1):=by omega
  rw[Ad c1]
  by_cases h2:q+2<row.length
  rotate_left
  ·left
   have c2:row.length<q+nn 1:=by show row.length<q+3;omega
   rw[Ag c2];refine⟨1,row.length,rfl,?_⟩;rw[AA (i:=q+2) (by omega)];cases row[q+1]? <;> rfl
  have c2:¬(row.length<q+nn 1):=by show ¬(row.length<q+3);omega
  rw[Ad c2];obtain⟨i,ei⟩:∃i,row[q+1]? = some i:=⟨_,Aa (by omega)⟩;obtain⟨t,et⟩:∃t,row[q+2]? = some t:=⟨_,Aa h2⟩;rw[gu et,ei,et];dsimp only
  by_cases c3:1<t
  ·left
   rw[Ag ⟨rfl,c3⟩,Ag c3];exact⟨1,q+2,rfl,rfl⟩
  rw[Ad (fun z=>c3 z.2),Ad c3];dsimp only;rw[Ag rfl];unfold wJ;rw[gu ei,gu et]
  by_cases h3:i<items.length
  rotate_left
  ·left
   rw[Ag (.inl (by omega)),AA (by omega)];exact⟨3,q+1,rfl,rfl⟩
  have ex:items[i]? = some (items.getD i it0):=by rw[getD_at _ h3,Aa h3]
  rw[ex];dsimp only;generalize items.getD i it0=x
  by_cases c4:i∈u
  ·left
   rw[Ag (.inr c4),Ag (List.contains_iff_mem.mpr c4)];exact⟨3,q+1,rfl,rfl⟩
  rw[Ad (fun z=>z.elim (fun y=>absurd y (by omega)) c4),Ad (fun z=>c4 (List.contains_iff_mem.mp z))]
  by_cases c5:x.glass≠s.glass
  ·left
   rw[Ag c5,Ag c5];exact⟨4,q+1,rfl,rfl⟩
  rw[Ad c5,Ad c5]
  by_cases c6:t=1∧s.turns=0
  ·left
   rw[Ag c6,Ag c6];exact⟨5,q+2,rfl,rfl⟩
  rw[Ad c6,Ad c6]
  by_cases c7:rK x t r=false
  ·left
   rw[Ag c7,Ag ((qW x t r).mp c7)];exact⟨6,q+1,rfl,rfl⟩
  ·right
   rw[Ad c7,Ad (fun z=>c7 ((qW x t r).mpr z)),ahZ ev ei et rfl];exact⟨rfl,rfl,by show q+3≤_;omega,B9 _,.inr (.inl ⟨i,t,rfl,h3,c4⟩)⟩
 | 2,ev =>
  have c1:¬(row.length≤q∨3<2):=by omega
  rw[Ad c1]
  by_cases h2:q+1<row.length
  rotate_left
  ·left
   have c2:row.length<q+nn 2:=by show row.length<q+2;omega
   rw[Ag c2,AA (i:=q+1) (by omega)];exact⟨1,row.length,rfl,rfl⟩
  have c2:¬(row.length<q+nn 2):=by show ¬(row.length<q+2);omega
  obtain⟨x,ex⟩:∃x,row[q+1]? = some x:=⟨_,Aa h2⟩;rw[Ad c2,Ad (by omega),ex];dsimp only;unfold yP;rw[gu ex,gu ev,Ad (by omega),Ag (by omega),Ag rfl]
  by_cases c3:x=0∨r.w≤x
  ·left
   rw[Ag c3,Ag c3];exact⟨2,q+1,rfl,rfl⟩
  ·right
   rw[Ad c3,Ad c3,agp ev ex rfl];exact⟨rfl,rfl,by show q+2≤_;omega,B9 _,.inr (.inr (.inl ⟨x,rfl,by omega,by omega⟩))⟩
 | 3,ev =>
  have c1:¬(row.length≤q∨3<3):=by omega
  rw[Ad c1]
  by_cases h2:q+1<row.length
  rotate_left
  ·left
   have c2:row.length<q+nn 3:=by show row.length<q+2;omega
   rw[Ag c2,AA (i:=q+1) (by omega)];exact⟨1,row.length,rfl,rfl⟩
  have c2:¬(row.length<q+nn 3):=by show ¬(row.length<q+2);omega
  obtain⟨x,ex⟩:∃x,row[q+1]? = some x:=⟨_,Aa h2⟩;rw[Ad c2,Ad (by omega),ex];dsimp only;unfold yP;rw[gu ex,gu ev];rw[Ad (by omega),Ag (by omega)];have e3:(if 3=2 then r.w else r.h)=r.h:=rfl;rw[e3]
  by_cases c3:x=0∨r.h≤x
  ·left
   rw[Ag c3,Ag c3];exact⟨2,q+1,rfl,rfl⟩
  ·right
   rw[Ad c3,Ad c3,agp ev ex rfl];exact⟨rfl,rfl,by show q+2≤_;omega,B9 _,.inr (.inr (.inr ⟨x,rfl,by omega,by omega⟩))⟩
 | n+4,ev =>
  left
  rw[Ag (.inr (by omega))];exact⟨1,q,rfl,rfl⟩
end Gs
namespace Gs
open PySem PySem.Spec PyProof.Rows L2
open Gla (Item Sheet)
structure kx where
 piece:Addr
 node:Addr
 reading:Addr
 nn:Addr
structure rS(K:DG)(mg:DH)(a2:kx):Prop where
 dU:iN mg "LEFT_OVER" 0
 fO:iN mg "PLACED" 1
 bO:iN mg "UPRIGHT_CUT" 2
 cw:iN mg "LEVEL_CUT" 3
 iB:mg "NODE_NUMBERS" = some (.ref a2.nn)
 nn_is:nA K a2.nn [.int 1,.int 3,.int 2,.int 2]
 piece:Fl K a2.piece ["x","y","width","height"]
 node:Fl K a2.node ["sheet_number","piece","numbers"]
 reading:Fl K a2.reading ["broken","nodes"]
section
variable {P:Program}{w:World}{K:DG}{mg:DH}{base:Heap}{a2:kx}
def eg:List V→List (Str×V)
 | [v1,v2,v3,v4]=>[("x",v1),("y",v2),("width",v3),("height",v4)]
 | _=>[]
abbrev oR:Stmt:=(inClass (top 54) 0)
theorem uE:bG ["self","x","y","width","height"] ["self","x","y","width","height"] (aE oR):=fsc
theorem aa7(D:mf K mg "Piece" "Piece.__init__" a2.piece oR ["self","x","y","width","height"] ["x","y","width","height"]):Kl P w K mg base 1 "Piece" a2.piece 4 eg:=by
 have nd:=uE.nd;refine D.kl (n:=4) uE rfl (fun f cdv A outer s H p dx us Q E hr hl hp k => ?_);obtain⟨v1,v2,v3,v4,rfl⟩:=us4 hl;refine⟨_,(aA (bq (pv 0) (pv 1) rfl) (aA (bq (pv 0) (pv 2) rfl) (aA (bq (pv 0) (pv 3) rfl) (aF (bq (pv 0) (pv 4) rfl))))),?_⟩;refine⟨_,rfl,_,rfl,p,_,dx,_,rfl,hp,D.cl,D.no _ (by decide +kernel),A1 rfl,?_⟩
 iterate 3 (refine⟨_,rfl,_,rfl,p,_,dx,_,rfl,ag,D.cl,D.no _ (by decide +kernel),A1 rfl,?_⟩;rw[bQ])
 exact k
def rC:List V→List (Str×V)
 | [v1,v2,v3]=>[("sheet_number",v1),("piece",v2),("numbers",v3)]
 | _=>[]
abbrev rW:Stmt:=(inClass (top 67) 0)
theorem yR:bG ["self","sheet_number","piece","numbers"] ["self","sheet_number","piece","numbers"] (aE rW):=fsc
theorem adn(D:mf K mg "Node" "Node.__init__" a2.node rW ["self","sheet_number","piece","numbers"] ["sheet_number","piece","numbers"]):Kl P w K mg base 1 "Node" a2.node 3 rC:=by
 have nd:=yR.nd;refine D.kl (n:=3) yR rfl (fun f cdv A outer s H p dx us Q E hr hl hp k => ?_);obtain⟨v1,v2,v3,rfl⟩:=us3 hl;refine⟨_,(aA (bq (pv 0) (pv 1) rfl) (aA (bq (pv 0) (pv 2) rfl) (aF (bq (pv 0) (pv 3) rfl)))),?_⟩;refine⟨_,rfl,_,rfl,p,_,dx,_,rfl,hp,D.cl,D.no _ (by decide +kernel),A1 rfl,?_⟩
 iterate 2 (refine⟨_,rfl,_,rfl,p,_,dx,_,rfl,ag,D.cl,D.no _ (by decide +kernel),A1 rfl,?_⟩;rw[bQ])
 exact k
def jt:List V→List (Str×V)
 | [v1,v2]=>[("broken",v1),("nodes",v2)]
 | _=>[]
abbrev ky:Stmt:=(inClass (top 68) 0)
theorem n8:bG ["self","broken","nodes"] ["self","broken","nodes"] (aE ky):=fsc
theorem vA(D:mf K mg "Reading" "Reading.__init__" a2.reading ky ["self","broken","nodes"] ["broken","nodes"]):Kl P w K mg base 1 "Reading" a2.reading 2 jt:=by
 have nd:=n8.nd;refine D.kl (n:=2) n8 rfl (fun f cdv A outer s H p dx us Q E hr hl hp k => ?_);obtain⟨v1,v2,rfl⟩:=us2 hl;refine⟨_,(aA (bq (pv 0) (pv 1) rfl) (aF (bq (pv 0) (pv 2) rfl))),?_⟩;refine⟨_,rfl,_,rfl,p,_,dx,_,rfl,hp,D.cl,D.no _ (by decide +kernel),A1 rfl,?_⟩
 iterate 1 (refine⟨_,rfl,_,rfl,p,_,dx,_,rfl,ag,D.cl,D.no _ (by decide +kernel),A1 rfl,?_⟩;rw[bQ])
 exact k
def abr(r:Rc):List (Str×V) := [("x",.int (r.x:Int)),("y",.int (r.y:Int)),("width",.int (r.w:Int)),("height",.int (r.h:Int))]
def bM(a2:kx)(H:Hp)(p:Addr)(r:Rc):Prop:=∃dx,H p=some (.ins a2.piece dx (abr r))
theorem aR(a2:kx):ab3 (bM a2):=fun H H' p x k ⟨dx,e⟩=>⟨dx,k _ _ _ e⟩
theorem abX{r:Rc}:(abr r).lookup ("x" : Str)=some (.int (r.x:Int)):=by unfold abr;rfl
theorem aca{r:Rc}:(abr r).lookup ("y" : Str)=some (.int (r.y:Int)):=by unfold abr;rfl
theorem aen{r:Rc}:(abr r).lookup ("width" : Str)=some (.int (r.w:Int)):=by unfold abr;rfl
theorem adu{r:Rc}:(abr r).lookup ("height" : Str)=some (.int (r.h:Int)):=by unfold abr;rfl
theorem jD{H:Hp}{Q:VK}{r:Rc}{x y w h:Int}(ex:x=(r.x:Int))(ey:y=(r.y:Int))(ew:w=(r.w:Int))(eh:h=(r.h:Int))(q:∀H' p,aL H H'→bM a2 H' p r→Q (.ref p) H') :
  ∀px dx,H px=Option.none→H dx=Option.none→dx≠px→spI a2.piece 4 eg (.ref px::([.int x,.int y,.int w,.int h]++[])) (upd (upd H dx (.own px)) px (.ins a2.piece dx [])) (fun v H2=>v=.non∧Q (.ref px) H2) E0:=by
 subst ex ey ew eh;intro px dx n1 n2 ne;refine⟨px,dx,[.int (r.x:Int),.int (r.y:Int),.int (r.w:Int),.int (r.h:Int)],rfl,rfl,ag,rfl,?_⟩;rw[bQ];exact q _ px ((ah n2).trans (ah (by rw[az (Ne.symm ne)];exact n1))) ⟨dx,by rw[ag];rfl⟩
inductive aaJ(a2:kx)(ok:Rc→Nat→Prop)(g:Rc→Nat→Rc)(vs:List V)(H:Hp)(Q:VK)(E:XK):Prop
 | mk (p:Addr) (r:Rc) (c:Nat) (c0:vs=[.ref p,.int (c:Int)]) (c1:bM a2 H p r) (c2:ok r c) (c3:∀H' q,aL H H'→bM a2 H' q (g r c)→Q (.ref q) H'):aaJ a2 ok g vs H Q E
abbrev adG(r:Rc)(c:Nat):Rc:=⟨r.x,r.y,c,r.h⟩
abbrev xS(r:Rc)(c:Nat):Rc:=⟨r.x+c,r.y,r.w-c,r.h⟩
abbrev ag9(r:Rc)(c:Nat):Rc:=⟨r.x,r.y,r.w,c⟩
abbrev gUp(r:Rc)(c:Nat):Rc:=⟨r.x,r.y+c,r.w,r.h-c⟩
abbrev aeV:Stmt:=(top 55)
theorem abi(D:Def K mg "left_part" aeV ["piece","cut"])(T3:rS K mg a2)(cx:Kl P w K mg base 1 "Piece" a2.piece 4 eg):Fn P w K mg base 3 "left_part" ["piece","cut"] (aaJ a2 (fun r c=>c≤r.w) adG):=by
 refine D.fx ["piece","cut"] ?_;rintro nd f cdv A outer s H vs Q E hr ⟨p,r,c,rfl,⟨dx,hp⟩,ok,q⟩;refine⟨_,(kxr (kxK cx hr (ab (ay (pv 0) rfl) (ab (ay (pv 0) rfl) (ab (pv 1) (ab (ay (pv 0) rfl) ak)))))),?_⟩;exact⟨_,rfl,fl hp T3.piece abX ⟨_,rfl,fl hp T3.piece aca ⟨_,rfl,_,rfl,fl hp T3.piece adu (jD (r:=adG r c) rfl rfl rfl rfl q)⟩⟩⟩
abbrev afQ:Stmt:=(top 56)
theorem xG(D:Def K mg "right_part" afQ ["piece","cut"])(T3:rS K mg a2)(cx:Kl P w K mg base 1 "Piece" a2.piece 4 eg):Fn P w K mg base 3 "right_part" ["piece","cut"] (aaJ a2 (fun r c=>c≤r.w) xS):=by
 refine D.fx ["piece","cut"] ?_;rintro nd f cdv A outer s H vs Q E hr ⟨p,r,c,rfl,⟨dx,hp⟩,ok,q⟩;refine⟨_,(kxr (kxK cx hr (ab (aP aT (ay (pv 0) rfl) (pv 1)) (ab (ay (pv 0) rfl) (ab (aP dX (ay (pv 0) rfl) (pv 1)) (ab (ay (pv 0) rfl) ak)))))),?_⟩;exact⟨_,rfl,fl hp T3.piece abX ⟨_,rfl,_,_,rfl,rfl,_,rfl,fl hp T3.piece aca ⟨_,rfl,fl hp T3.piece aen ⟨_,rfl,_,_,rfl,rfl,_,rfl,fl hp T3.piece adu (jD (r:=xS r c) (by show _=((r.x+c:Nat):Int);omega) rfl (by show _=((r.w-c:Nat):Int);omega) rfl q)⟩⟩⟩⟩
abbrev afR:Stmt:=(top 57)
theorem adh(D:Def K mg "lower_part" afR ["piece","cut"])(T3:rS K mg a2)(cx:Kl P w K mg base 1 "Piece" a2.piece 4 eg):Fn P w K mg base 3 "lower_part" ["piece","cut"] (aaJ a2 (fun r c=>c≤r.h) ag9):=by
 refine D.fx ["piece","cut"] ?_;rintro nd f cdv A outer s H vs Q E hr ⟨p,r,c,rfl,⟨dx,hp⟩,ok,q⟩;refine⟨_,(kxr (kxK cx hr (ab (ay (pv 0) rfl) (ab (ay (pv 0) rfl) (ab (ay (pv 0) rfl) (ab (pv 1) ak)))))),?_⟩;exact⟨_,rfl,fl hp T3.piece abX ⟨_,rfl,fl hp T3.piece aca ⟨_,rfl,fl hp T3.piece aen ⟨_,rfl,jD (r:=ag9 r c) rfl rfl rfl rfl q⟩⟩⟩⟩
abbrev ae8:Stmt:=(top 58)
theorem afJ(D:Def K mg "upper_part" ae8 ["piece","cut"])(T3:rS K mg a2)(cx:Kl P w K mg base 1 "Piece" a2.piece 4 eg):Fn P w K mg base 3 "upper_part" ["piece","cut"] (aaJ a2 (fun r c=>c≤r.h) gUp):=by
 refine D.fx ["piece","cut"] ?_;rintro nd f cdv A outer s H vs Q E hr ⟨p,r,c,rfl,⟨dx,hp⟩,ok,q⟩;refine⟨_,(kxr (kxK cx hr (ab (ay (pv 0) rfl) (ab (aP aT (ay (pv 0) rfl) (pv 1)) (ab (ay (pv 0) rfl) (ab (aP dX (ay (pv 0) rfl) (pv 1)) ak)))))),?_⟩;exact⟨_,rfl,fl hp T3.piece abX ⟨_,rfl,fl hp T3.piece aca ⟨_,rfl,_,_,rfl,rfl,_,rfl,fl hp T3.piece aen ⟨_,rfl,fl hp T3.piece adu ⟨_,rfl,_,_,rfl,rfl,jD (r:=gUp r c) rfl (by show _=((r.y+c:Nat):Int);omega) rfl (by show _=((r.h-c:Nat):Int);omega) q⟩⟩⟩⟩⟩
def iv(l:List Nat):List V:=l.map fun(n:Nat)=>V.int (n:Int)
structure jE(a2:kx)(H:Hp)(n:Addr)(f:FNd)(p l:Addr):Prop where
 ob:∃dx,H n=some (.ins a2.node dx [("sheet_number",.int (f.sh:Int)),("piece",.ref p),("numbers",.ref l)])
 pc:bM a2 H p f.rc
 ns:H l=some (.lst (iv f.ns))
def aiN(r:Rc)(ns:List Nat):Prop:=ns=[0]∨(∃i t,ns=[1,i,t])∨(∃x,ns=[2,x]∧x≤r.w)∨(∃x,ns=[3,x]∧x≤r.h)
inductive ahl(a2:kx)(vs:List V)(H:Hp)(Q:VK)(E:XK):Prop
 | mk (n p l:Addr) (f:FNd) (c0:vs=[.ref n]) (c1:jE a2 H n f p l) (c2:aiN f.rc f.ns) (c3:∀H' l ps,aL H H'→LO (bM a2) H' l (kids f.rc f.ns).reverse ps→Q (.ref l) H'):ahl a2 vs H Q E
abbrev aiG:Stmt:=(top 76)
theorem lo2{H:Hp}{l p q:Addr}{r s:Rc}(h:H l=some (.lst [.ref p,.ref q]))(h1:bM a2 H p r)(h2:bM a2 H q s):LO (bM a2) H l [r,s] [p,q]:=by
 refine⟨h,rfl,fun j u x e1 e2 => ?_⟩
 match j,e1,e2 with
 | 0,e1,e2 =>
  obtain rfl:p=u:=Ac e1;obtain rfl:r=x:=Ac e2;exact h1
 | 1,e1,e2 =>
  obtain rfl:q=u:=Ac e1;obtain rfl:s=x:=Ac e2;exact h2
 | j+2,e1,e2=>simp at e1
theorem oS(x y:Nat):decide (V.int (x:Int)=V.int (y:Int))=decide (x=y):=by
 rw[ahR];exact decide_eq_decide.mpr ⟨fun h=>by omega,fun h=>by omega⟩
theorem ahK(D:Def K mg "parts_of" aiG ["node"])(T3:rS K mg a2)(je:Fn P w K mg base 3 "left_part" ["piece","cut"] (aaJ a2 (fun r c=>c≤r.w) adG))(gI:Fn P w K mg base 3 "right_part" ["piece","cut"] (aaJ a2 (fun r c=>c≤r.w) xS))
  (gJ:Fn P w K mg base 3 "lower_part" ["piece","cut"] (aaJ a2 (fun r c=>c≤r.h) ag9)) (gK:Fn P w K mg base 3 "upper_part" ["piece","cut"] (aaJ a2 (fun r c=>c≤r.h) gUp)):Fn P w K mg base 4 "parts_of" ["node"] (ahl a2):=by
 refine D.fx ["node"] ?_;rintro nd f cdv A outer s H vs Q E hr ⟨n,p,l,f,rfl,na,ok,q⟩;obtain⟨dx,ob⟩:=na.ob;refine⟨_,(kxf (kxq (kxI (ay (pv 0) rfl) ao) (kxG T3.bO)) (aG (ab (kxF gI hr (ab (ay (pv 0) rfl) (ab (kxI (ay (pv 0) rfl) ao) ak))) (ab (kxF je hr (ab (ay (pv 0) rfl) (ab (kxI (ay (pv 0) rfl) ao) ak))) ak))) (kxf (kxq (kxI (ay (pv 0) rfl) ao) (kxG T3.cw)) (aG (ab (kxF gK hr (ab (ay (pv 0) rfl) (ab (kxI (ay (pv 0) rfl) ao) ak))) (ab (kxF gJ hr (ab (ay (pv 0) rfl) (ab (kxI (ay (pv 0) rfl) ao) ak))) ak))) (kxr (aG ak)))),?_⟩;have none:kids f.rc f.ns=[]→([]:List V).length≤sizeLine∧∀u,H u=Option.none→Q (.ref u) (upd H u (.lst [])):=fun e=>⟨Av _,fun u hu=>q _ u [] (ah hu) (by rw[e];exact .nil ag)⟩;have d:∀(m n:Nat) (c:Int),c=(n:Int)→decide (V.int (m:Int)=V.int c)=decide (m=n):=fun m n c e=>by rw[e,oS]
 rcases ok with e|⟨i,t,e⟩|⟨x,e,hx⟩|⟨x,e,hx⟩
 ·have hl:=na.ns
  rw[e] at hl;refine⟨_,rfl,fl ob T3.node rfl ⟨l,_,_,_,rfl,rfl,SqL.of hl,at_of (j:=0) rfl rfl,rfl,_,rfl,?_⟩⟩;rw[d 0 2 2 rfl];refine fS ⟨_,rfl,fl ob T3.node rfl ⟨l,_,_,_,rfl,rfl,SqL.of hl,at_of (j:=0) rfl rfl,rfl,_,rfl,?_⟩⟩;rw[d 0 3 3 rfl];exact fS (none (by rw[e];rfl))
 ·have hl:=na.ns
  rw[e] at hl;refine⟨_,rfl,fl ob T3.node rfl ⟨l,_,_,_,rfl,rfl,SqL.of hl,at_of (j:=0) rfl rfl,rfl,_,rfl,?_⟩⟩;rw[d 1 2 2 rfl];refine fS ⟨_,rfl,fl ob T3.node rfl ⟨l,_,_,_,rfl,rfl,SqL.of hl,at_of (j:=0) rfl rfl,rfl,_,rfl,?_⟩⟩;rw[d 1 3 3 rfl];exact fS (none (by rw[e];rfl))
 ·have hl:=na.ns
  rw[e] at hl;refine⟨_,rfl,fl ob T3.node rfl ⟨l,_,_,_,rfl,rfl,SqL.of hl,at_of (j:=0) rfl rfl,rfl,_,rfl,?_⟩⟩;rw[d 2 2 2 rfl];refine f6 ⟨_,rfl,fl ob T3.node rfl ⟨_,rfl,fl ob T3.node rfl ⟨l,_,_,_,rfl,rfl,SqL.of hl,at_of (j:=1) rfl rfl,p,f.rc,x,rfl,na.pc,hx,fun H1 p1 s1 h1 => ?_⟩⟩⟩;refine⟨_,rfl,fl (s1 _ _ ob) T3.node rfl ⟨_,rfl,fl (s1 _ _ ob) T3.node rfl ⟨l,_,_,_,rfl,rfl,SqL.of (s1 _ _ hl),at_of (j:=1) rfl rfl,p,f.rc,x,rfl,(aR a2).same _ _ _ _ s1 na.pc,hx,fun H2 p2 s2 h2 => ?_⟩⟩⟩;refine⟨by show 2≤sizeLine;decide,fun u hu=>q _ u [p1,p2] (s1.trans (s2.trans (ah hu))) ?_⟩;rw[e];exact lo2 ag ((aR a2).same _ _ _ _ (s2.trans (ah hu)) h1) ((aR a2).same _ _ _ _ (ah hu) h2)
 ·have hl:=na.ns
  rw[e] at hl;refine⟨_,rfl,fl ob T3.node rfl ⟨l,_,_,_,rfl,rfl,SqL.of hl,at_of (j:=0) rfl rfl,rfl,_,rfl,?_⟩⟩;rw[d 3 2 2 rfl];refine fS ⟨_,rfl,fl ob T3.node rfl ⟨l,_,_,_,rfl,rfl,SqL.of hl,at_of (j:=0) rfl rfl,rfl,_,rfl,?_⟩⟩;rw[d 3 3 3 rfl];refine f6 ⟨_,rfl,fl ob T3.node rfl ⟨_,rfl,fl ob T3.node rfl ⟨l,_,_,_,rfl,rfl,SqL.of hl,at_of (j:=1) rfl rfl,p,f.rc,x,rfl,na.pc,hx,fun H1 p1 s1 h1 => ?_⟩⟩⟩;refine⟨_,rfl,fl (s1 _ _ ob) T3.node rfl ⟨_,rfl,fl (s1 _ _ ob) T3.node rfl ⟨l,_,_,_,rfl,rfl,SqL.of (s1 _ _ hl),at_of (j:=1) rfl rfl,p,f.rc,x,rfl,(aR a2).same _ _ _ _ s1 na.pc,hx,fun H2 p2 s2 h2 => ?_⟩⟩⟩;refine⟨by show 2≤sizeLine;decide,fun u hu=>q _ u [p1,p2] (s1.trans (s2.trans (ah hu))) ?_⟩;rw[e];exact lo2 ag ((aR a2).same _ _ _ _ (s2.trans (ah hu)) h1) ((aR a2).same _ _ _ _ (ah hu) h2)
end
section
variable {P:Program}{w:World}{K:DG}{mg:DH}{base:Heap}{ad:Adr}{a2:kx}
abbrev ab2(K:DG)(H:Hp)(a:Addr)(row:List Nat):Prop:=SqL K H a (iv row)
theorem ik(row:List Nat):(iv row).length=row.length:=by unfold iv;rw[Ab]
theorem iP{row:List Nat}{i:Nat}(h:i<row.length):(iv row)[i]? = some (.int ((row.getD i 0:Nat):Int)):=by
 unfold iv;rw[Am,Aa h,getD_at _ h];rfl
theorem dj{H:Hp}{Q:VK}{f:Option (Nat×Int)}{r:Nat}{p:Int}(e:f=some (r,p))(q:∀H' l,aL H H'→H' l=some (.lst (jdV f))→Q (.ref l) H'):[V.int (r:Int),V.int p].length≤sizeLine∧∀l,H l=Option.none→Q (.ref l) (upd H l (.lst [.int (r:Int),.int p])):=by
 subst e;exact⟨by show 2≤sizeLine;decide,fun l hl=>q _ l (ah hl) ag⟩
theorem nil_of{H:Hp}{Q:VK}{f:Option (Nat×Int)}(e:f=none)(q:∀H' l,aL H H'→H' l=some (.lst (jdV f))→Q (.ref l) H'):([]:List V).length≤sizeLine∧∀l,H l=Option.none→Q (.ref l) (upd H l (.lst [])):=by
 subst e;exact⟨Av _,fun l hl=>q _ l (ah hl) ag⟩
theorem aeX{v:Nat}(h:v≤3):([.int 1,.int 3,.int 2,.int 2]:List V)[v]? = some (.int ((nn v:Nat):Int)):=by
 match v,h with
 | 0,_=>rfl
 | 1,_=>rfl
 | 2,_=>rfl
 | 3,_=>rfl
theorem dn(m n:Nat)(c:Int)(e:c=(n:Int)):decide (V.int (m:Int)=V.int c)=decide (m=n):=by rw[e,oS]
inductive zD(K:DG)(vs:List V)(H:Hp)(Q:VK)(E:XK):Prop
 | mk (a:Addr) (row:List Nat) (q:Nat) (c0:vs=[.ref a,.int (q:Int)]) (c1:ab2 K H a row) (c2:q≤row.length) (c3:∀H' l,aL H H'→H' l=some (.lst (jdV (jo row q)))→Q (.ref l) H'):zD K vs H Q E
abbrev acJ:Stmt:=(top 71)
theorem acW(D:Def K mg "judge_form" acJ ["row","start"])(T:Txt K mg ad)(T3:rS K mg a2):Fn P w K mg base 1 "judge_form" ["row","start"] (zD K):=by
 refine D.fx ["row","start"] ?_;rintro nd f cdv A outer s H vs Q E hr ⟨a,row,q,rfl,hR,hq,k⟩;refine⟨_,(kxf ((lC (kxq (pv 1) (kxL T.bD (pv 0))) (fW (kxg (kxI (pv 0) (pv 1)) (kxG T3.cw))))).pt (aG (ab ao (ab (pv 1) ak))) (kxf (kxg (aP aT (pv 1) (kxT (kxR T3.iB) (kxI (pv 0) (pv 1)))) (kxL T.bD (pv 0))) (aG (ab ao (ab (kxL T.bD (pv 0)) ak))) (kxf ((jH (kxq (kxI (pv 0) (pv 1)) (kxG T3.fO)) (fA (kxg (kxI (pv 0) (aP aT (pv 1) ao)) ao)))).pt (aG (ab ao (ab (aP aT (pv 1) ao) ak))) (kxr (aG ak))))),?_⟩;refine⟨_,rfl,_,rfl,a,_,rfl,.inl hR,rfl,_,rfl,?_⟩;rw[ik,oS];refine bJ (fun z => ?_) (fun z => ?_)
 ·have z':=Al z
  exact f6 ⟨_,rfl,dj (r:=1) (by unfold jo;rw[Ag (.inl (by omega))]) k⟩
 have z':q<row.length:=by
  have:¬q=row.length:=fun y=>z (Ak y);omega
 have d3:decide ((3:Int)<((row.getD q 0:Nat):Int))=decide (3<row.getD q 0):=decide_eq_decide.mpr ⟨fun h=>by omega,fun h=>by omega⟩;refine⟨_,rfl,_,rfl,a,_,_,_,rfl,rfl,hR,aM (iP z'),_,_,rfl,rfl,_,rfl,?_⟩;rw[d3];refine bJ (fun y => ?_) (fun y => ?_)
 ·exact⟨_,rfl,dj (r:=1) (by unfold jo;rw[Ag (.inr (Al y))]) k⟩
 have y':¬3<row.getD q 0:=fun x=>y (Ak x);have c1:¬(row.length≤q∨3<row.getD q 0):=by omega
 have dl:decide ((row.length:Int)<(q:Int)+((nn (row.getD q 0):Nat):Int))=decide (row.length<q+nn (row.getD q 0)):=decide_eq_decide.mpr ⟨fun h=>by omega,fun h=>by omega⟩;refine⟨_,rfl,_,rfl,_,rfl,a,_,_,_,rfl,rfl,hR,aM (iP z'),_,_,_,_,rfl,rfl,T3.nn_is H,aM (aeX (by omega)),_,_,rfl,rfl,_,rfl,a,_,rfl,.inl hR,_,_,rfl,rfl,_,rfl,?_⟩;rw[ik,dl];refine bJ (fun x => ?_) (fun x => ?_)
 ·refine⟨_,rfl,a,_,rfl,.inl hR,?_⟩
  rw[ik];exact dj (r:=1) (by unfold jo;rw[Ad c1,Ag (Al x)]) k
 have c2:¬(row.length<q+nn (row.getD q 0)):=fun u=>x (Ak u);refine⟨_,rfl,_,rfl,a,_,_,_,rfl,rfl,hR,aM (iP z'),rfl,_,rfl,?_⟩;rw[dn (row.getD q 0) 1 1 rfl];refine bJ (fun u => ?_) (fun u => ?_)
 ·have u':row.getD q 0=1:=Al u
  have l2:q+2<row.length:=by rw[u'] at c2;have:nn 1=3:=rfl;omega
  have d1:decide ((1:Int)<((row.getD (q+2) 0:Nat):Int))=decide (1<row.getD (q+2) 0):=decide_eq_decide.mpr ⟨fun h=>by omega,fun h=>by omega⟩;refine⟨_,rfl,_,rfl,_,_,rfl,rfl,a,_,_,_,rfl,rfl,hR,at_of (j:=q+2) (by omega) (iP l2),_,_,rfl,rfl,_,rfl,?_⟩;rw[d1];refine bJ (fun t => ?_) (fun t => ?_)
  ·refine⟨_,rfl,_,_,rfl,rfl,?_⟩
   exact dj (r:=1) (p:=(q:Int)+2) (by unfold jo;rw[Ad c1,Ad c2,Ag ⟨u',Al t⟩];congr 2) k
  ·exact nil_of (by unfold jo;rw[Ad c1,Ad c2,Ad (fun v=>t (Ak v.2))]) k
 ·exact fS (nil_of (by unfold jo;rw[Ad c1,Ad c2,Ad (fun v=>u (Ak v.1))]) k)
inductive adj(K:DG)(a2:kx)(vs:List V)(H:Hp)(Q:VK)(E:XK):Prop
 | mk (a p:Addr) (row:List Nat) (q:Nat) (r:Rc) (c0:vs=[.ref a,.int (q:Int),.ref p]) (c1:ab2 K H a row) (c2:bM a2 H p r) (c3:q+1<row.length) (c4:∀H' l,aL H H'→H' l=some (.lst (jdV (yP row q r)))→Q (.ref l) H'):adj K a2 vs H Q E
abbrev agn:Stmt:=(top 72)
theorem af7(D:Def K mg "judge_cut" agn ["row","start","piece"])(T3:rS K mg a2):Fn P w K mg base 1 "judge_cut" ["row","start","piece"] (adj K a2):=by
 refine D.fx ["row","start","piece","length"] ?_;rintro nd f cdv A outer s H vs Q E hr ⟨a,p,row,q,r,rfl,hR,⟨dx,hp⟩,hq,k⟩;refine⟨_,(kxs 3 nd (uU (kxq (kxI (pv 0) (pv 1)) (kxG T3.bO)) (ay (pv 2) rfl) (ay (pv 2) rfl)) (kxf ((lC (kxq (kxI (pv 0) (aP aT (pv 1) ao)) ao) (fW (ag3 (kxI (pv 0) (aP aT (pv 1) ao)) (pv 3))))).pt (aG (ab ao (ab (aP aT (pv 1) ao) ak))) (kxr (aG ak)))),?_⟩;refine⟨_,rfl,_,rfl,a,_,_,_,rfl,rfl,hR,aM (iP (by omega)),rfl,_,rfl,?_⟩;rw[dn (row.getD q 0) 2 2 rfl];refine bJ (fun u => ?_) (fun u => ?_)
 ·have u':row.getD q 0=2:=Al u
  refine⟨_,rfl,fl hp T3.piece aen ?_⟩;have e:(if row.getD q 0=2 then r.w else r.h)=r.w:=Ag u';refine⟨_,rfl,_,rfl,_,_,rfl,rfl,a,_,_,_,rfl,rfl,hR,at_of (j:=q+1) (by omega) (iP hq),rfl,_,rfl,?_⟩;rw[dn (row.getD (q+1) 0) 0 0 rfl];refine bJ (fun z => ?_) (fun z => ?_)
  ·refine f6 ⟨_,rfl,_,_,rfl,rfl,?_⟩
   exact dj (r:=2) (p:=(q:Int)+1) (by unfold yP;rw[Ag (.inl (Al z))];congr 2) k
  refine⟨_,rfl,_,rfl,_,_,rfl,rfl,a,_,_,_,rfl,rfl,hR,at_of (j:=q+1) (by omega) (iP hq),_,rfl,_,_,rfl,rfl,_,rfl,?_⟩;have dl:decide ((r.w:Int)≤((row.getD (q+1) 0:Nat):Int))=decide (r.w≤row.getD (q+1) 0):=decide_eq_decide.mpr ⟨fun h=>by omega,fun h=>by omega⟩;rw[dl];refine bJ (fun y => ?_) (fun y => ?_)
  ·refine⟨_,rfl,_,_,rfl,rfl,?_⟩
   exact dj (r:=2) (p:=(q:Int)+1) (by unfold yP;rw[e,Ag (.inr (Al y))];congr 2) k
  ·exact nil_of (by unfold yP;rw[e,Ad (fun x=>x.elim (fun t=>z (Ak t)) fun t=>y (Ak t))]) k
 ·have u':¬row.getD q 0=2:=fun x=>u (Ak x)
  refine⟨_,rfl,fl hp T3.piece adu ?_⟩;have e:(if row.getD q 0=2 then r.w else r.h)=r.h:=Ad u';refine⟨_,rfl,_,rfl,_,_,rfl,rfl,a,_,_,_,rfl,rfl,hR,at_of (j:=q+1) (by omega) (iP hq),rfl,_,rfl,?_⟩;rw[dn (row.getD (q+1) 0) 0 0 rfl];refine bJ (fun z => ?_) (fun z => ?_)
  ·refine f6 ⟨_,rfl,_,_,rfl,rfl,?_⟩
   exact dj (r:=2) (p:=(q:Int)+1) (by unfold yP;rw[Ag (.inl (Al z))];congr 2) k
  refine⟨_,rfl,_,rfl,_,_,rfl,rfl,a,_,_,_,rfl,rfl,hR,at_of (j:=q+1) (by omega) (iP hq),_,rfl,_,_,rfl,rfl,_,rfl,?_⟩;have dl:decide ((r.h:Int)≤((row.getD (q+1) 0:Nat):Int))=decide (r.h≤row.getD (q+1) 0):=decide_eq_decide.mpr ⟨fun h=>by omega,fun h=>by omega⟩;rw[dl];refine bJ (fun y => ?_) (fun y => ?_)
  ·refine⟨_,rfl,_,_,rfl,rfl,?_⟩
   exact dj (r:=2) (p:=(q:Int)+1) (by unfold yP;rw[e,Ag (.inr (Al y))];congr 2) k
  ·exact nil_of (by unfold yP;rw[e,Ad (fun x=>x.elim (fun t=>z (Ak t)) fun t=>y (Ak t))]) k
def acR(x:Item):List (Str×V) := [("glass",.int (x.glass:Int)),("width",.int (x.w:Int)),("height",.int (x.h:Int))]
theorem ai9{x:Item}:(acR x).lookup ("glass" : Str)=some (.int (x.glass:Int)):=by unfold acR;rfl
theorem aie{x:Item}:(acR x).lookup ("width" : Str)=some (.int (x.w:Int)):=by unfold acR;rfl
theorem aiH{x:Item}:(acR x).lookup ("height" : Str)=some (.int (x.h:Int)):=by unfold acR;rfl
inductive adi(ad:Adr)(a2:kx)(vs:List V)(H:Hp)(Q:VK)(E:XK):Prop
 | mk (b p:Addr) (x:Item) (t:Nat) (r:Rc) (c0:vs=[.ref b,.int (t:Int),.ref p]) (c1:fD ad H b x) (c2:bM a2 H p r) (c3:Q (.bl (rK x t r)) H):adi ad a2 vs H Q E
abbrev afN:Stmt:=(top 74)
theorem afa(D:Def K mg "fits" afN ["blank","turned","piece"])(T:Txt K mg ad)(T3:rS K mg a2):Fn P w K mg base 1 "fits" ["blank","turned","piece"] (adi ad a2):=by
 refine D.fx ["blank","turned","piece"] ?_;rintro nd f cdv A outer s H vs Q E hr ⟨b,p,x,t,r,rfl,⟨dxb,hb⟩,⟨dx,hp⟩,k⟩;have hb:H b=some (.ins ad.blank dxb (acR x)):=hb;refine⟨_,(kxf (kxq (pv 1) ao) (eY (aX pT (ay (pv 0) rfl) (ay (pv 2) rfl) (a8 _)) (fU (aX pT (ay (pv 0) rfl) (ay (pv 2) rfl) (a8 _)))) (kxr (eY (aX pT (ay (pv 0) rfl) (ay (pv 2) rfl) (a8 _)) (fU (aX pT (ay (pv 0) rfl) (ay (pv 2) rfl) (a8 _)))))),?_⟩;refine⟨_,rfl,rfl,_,rfl,?_⟩;rw[dn t 1 1 rfl];unfold rK at k;refine bJ (fun u => ?_) (fun u => ?_)
 ·rw[Ag (Al u)] at k
  refine⟨_,rfl,fl hb T.blank aiH ⟨_,rfl,fl hp T3.piece aen ⟨_,_,rfl,rfl,_,rfl,?_⟩⟩⟩;rw[decLe];refine bJ (fun z => ?_) (fun z => ?_)
  ·rw[z,AU,← decLe] at k
   exact⟨_,rfl,fl hb T.blank aie ⟨_,rfl,fl hp T3.piece adu ⟨_,_,rfl,rfl,k⟩⟩⟩
  ·rw[AB] at z
   rw[z,A5] at k;exact k
 ·rw[Ad (fun y=>u (Ak y))] at k
  refine⟨_,rfl,fl hb T.blank aie ⟨_,rfl,fl hp T3.piece aen ⟨_,_,rfl,rfl,_,rfl,?_⟩⟩⟩;rw[decLe];refine bJ (fun z => ?_) (fun z => ?_)
  ·rw[z,AU,← decLe] at k
   exact⟨_,rfl,fl hb T.blank aiH ⟨_,rfl,fl hp T3.piece adu ⟨_,_,rfl,rfl,k⟩⟩⟩
  ·rw[AB] at z
   rw[z,A5] at k;exact k
structure qQ(K:DG)(ad:Adr)(a2:kx)(H:Hp)(items:List Item)(s:Sheet)(row:List Nat)(r:Rc)(u:List Nat)(a sh p lb d:Addr):Prop where
 row:ab2 K H a row
 sh:vG ad H sh s
 pc:bM a2 H p r
 bl:∃pb,LO (fD ad) H lb items pb
 pl:H d=some (.dK (dkV u))
theorem qQ.same{H H':Hp}{items:List Item}{s:Sheet}{row:List Nat}{r:Rc}{u:List Nat}{a sh p lb d:Addr}(h:qQ K ad a2 H items s row r u a sh p lb d)(e:aL H H'):qQ K ad a2 H' items s row r u a sh p lb d :=
 ⟨e.seq h.row,h.sh.same e,(aR a2).same _ _ _ _ e h.pc,let ⟨pb,l⟩:=h.bl;⟨pb,l.same (dF ad).same e⟩,e _ _ h.pl⟩
inductive adM(K:DG)(ad:Adr)(a2:kx)(vs:List V)(H:Hp)(Q:VK)(E:XK):Prop
 | mk (items:List Item) (s:Sheet) (row:List Nat) (q:Nat) (r:Rc) (u:List Nat) (a sh p lb d:Addr) (c0:vs=[.ref a,.int (q:Int),.ref sh,.ref p,.ref lb,.ref d]) (c1:qQ K ad a2 H items s row r u a sh p lb d) (c2:q+2<row.length) (c3:∀H' l,aL H H'→H' l=some (.lst (jdV (wJ items s row q r u)))→Q (.ref l) H'):adM K ad a2 vs H Q E
abbrev agr:Stmt:=(top 73)
theorem afI(D:Def K mg "judge_placed" agr ["row","start","sheet","piece","blanks","placed"])(T:Txt K mg ad)(aan:Fn P w K mg base 1 "fits" ["blank","turned","piece"] (adi ad a2)):Fn P w K mg base 2 "judge_placed" ["row","start","sheet","piece","blanks","placed"] (adM K ad a2):=by
 refine D.fx ["row","start","sheet","piece","blanks","placed","pane","turned"] ?_;rintro nd f cdv A outer st H vs Q E hr ⟨items,s,row,q,r,u,a,sh,p,lb,d,rfl,ni,hq,k⟩;obtain⟨pb,bl⟩:=ni.bl;obtain⟨dxs,hs⟩:=ni.sh;have hs:H sh=some (.ins ad.sheet dxs (zG s)):=hs;have hu:=nI hr;refine⟨_,(kxs 6 nd (kxI (pv 0) (aP aT (pv 1) ao)) (kxs 7 nd (kxI (pv 0) (aP aT (pv 1) ao)) (kxf ((lC (ag3 (pv 6) (kxL T.bD (pv 4))) (fW (ig (ab7 hu (pv 6) (pv 5)))))).pt (aG (ab ao (ab (aP aT (pv 1) ao) ak))) (kxf (kxn (ay (kxI (pv 4) (pv 6)) rfl) (ay (pv 2) rfl)) (aG (ab ao (ab (aP aT (pv 1) ao) ak))) (kxf ((jH (kxq (pv 7) ao) (fA (kxq (ay (pv 2) rfl) ao)))).pt (aG (ab ao (ab (aP aT (pv 1) ao) ak))) (kxf (oi (aS (kxF aan hr (ab (kxI (pv 4) (pv 6)) (ab (pv 7) (ab (pv 3) ak)))) (fun _=>rfl))) (aG (ab ao (ab (aP aT (pv 1) ao) ak))) (kxr (aG ak)))))))),?_⟩;have g1:=at_of (z:=(q:Int)+1) (j:=q+1) (by omega) (iP (row:=row) (i:=q+1) (by omega));have g2:=at_of (z:=(q:Int)+2) (j:=q+2) (by omega) (iP hq);refine⟨_,rfl,_,rfl,_,_,rfl,rfl,a,_,_,_,rfl,rfl,ni.row,g1,?_⟩;refine⟨_,rfl,_,rfl,_,_,rfl,rfl,a,_,_,_,rfl,rfl,ni.row,g2,?_⟩;unfold wJ at k;generalize row.getD (q+1) 0=i at *
 generalize row.getD (q+2) 0=t at *
 have lnb:(pb.map V.ref).length=items.length:=by rw[Ab,bl.len]
 refine⟨_,rfl,_,rfl,lb,_,rfl,.inl (SqL.of bl.lst),_,_,rfl,rfl,_,rfl,?_⟩;rw[lnb,decLe];refine bJ (fun z => ?_) (fun z => ?_)
 ·refine f6 ⟨_,rfl,_,_,rfl,rfl,dj (r:=3) (p:=(q:Int)+1) (by rw[Ag (.inl (Al z))];congr 2) k⟩
 have hi:i<items.length:=by
  have:¬items.length≤i:=fun y=>z (Ak y);omega
 refine⟨_,rfl,_,rfl,d,_,rfl,sO.k (k:=Sum.inl (i:Int)) ni.pl,_,rfl,?_⟩;rw[qK]
 by_cases mem:i∈u
 ·rw[Ag mem]
  refine f6 ⟨_,rfl,_,_,rfl,rfl,dj (r:=3) (p:=(q:Int)+1) (by rw[Ag (.inr mem)];congr 2) k⟩
 rw[Ad mem];rw[Ad (fun y=>y.elim (fun e=>z (Ak e)) mem)] at k;obtain⟨b,gb,dxb,hb⟩:=bl.get (Aa hi);rw[getD_at _ hi] at k;generalize items[i]=x at *
 have hb:H b=some (.ins ad.blank dxb (acR x)):=hb;refine fS ⟨_,rfl,_,rfl,lb,_,_,_,rfl,rfl,SqL.of bl.lst,aM gb,fl hb T.blank ai9 ⟨_,rfl,fl hs T.sheet aik ⟨rfl,_,rfl,?_⟩⟩⟩;rw[oS,← BD];refine bJ (fun c => ?_) (fun c => ?_)
 ·exact⟨_,rfl,_,_,rfl,rfl,dj (r:=4) (p:=(q:Int)+1) (by rw[Ag (Al c)];congr 2) k⟩
 rw[Ad (fun y=>c (Ak y))] at k;refine⟨_,rfl,rfl,_,rfl,?_⟩;rw[dn t 1 1 rfl];refine bJ (fun c1 => ?_) (fun c1 => ?_)
 ·refine⟨_,rfl,fl hs T.sheet aip ⟨rfl,_,rfl,?_⟩⟩
  rw[dn s.turns 0 0 rfl];refine bJ (fun c2 => ?_) (fun c2 => ?_)
  ·exact⟨_,rfl,_,_,rfl,rfl,dj (r:=5) (p:=(q:Int)+2) (by rw[Ag ⟨Al c1,Al c2⟩];congr 2) k⟩
  rw[Ad (fun y=>c2 (Ak y.2))] at k;refine⟨_,rfl,_,rfl,lb,_,_,_,rfl,rfl,SqL.of bl.lst,aM gb,_,rfl,_,rfl,b,p,x,t,r,rfl,⟨dxb,hb⟩,ni.pc,_,rfl,?_⟩;generalize rK x t r=ft at *
  cases ft with
  | false=>exact⟨_,rfl,_,_,rfl,rfl,dj (r:=6) (p:=(q:Int)+1) (by rw[Ag rfl];congr 2) k⟩
  | true=>exact nil_of (by rw[Ad Bool.noConfusion]) k
 ·rw[Ad (fun y=>c1 (Ak y.1))] at k
  refine fS ?_;refine⟨_,rfl,_,rfl,lb,_,_,_,rfl,rfl,SqL.of bl.lst,aM gb,_,rfl,_,rfl,b,p,x,t,r,rfl,⟨dxb,hb⟩,ni.pc,_,rfl,?_⟩;generalize rK x t r=ft at *
  cases ft with
  | false=>exact⟨_,rfl,_,_,rfl,rfl,dj (r:=6) (p:=(q:Int)+1) (by rw[Ag rfl];congr 2) k⟩
  | true=>exact nil_of (by rw[Ad Bool.noConfusion]) k
def afe(n:Nat)(row:List Nat)(q m:Nat):Option (Nat×Int):=if q<row.length then some (1,(q:Int)) else if m<n then some (7,(row.length:Int)) else none
inductive adT(K:DG)(ad:Adr)(vs:List V)(H:Hp)(Q:VK)(E:XK):Prop
 | mk (items:List Item) (row:List Nat) (q:Nat) (u:List Nat) (a lb d:Addr) (c0:vs=[.ref a,.int (q:Int),.ref lb,.ref d]) (c1:ab2 K H a row) (c2:(∃pb,LO (fD ad) H lb items pb)) (c3:H d=some (.dK (dkV u))) (c4:∀H' l,aL H H'→H' l=some (.lst (jdV (afe items.length row q u.length)))→Q (.ref l) H'):adT K ad vs H Q E
abbrev ae5:Stmt:=(top 75)
theorem ae3(D:Def K mg "judge_end" ae5 ["row","end","blanks","placed"])(T:Txt K mg ad):Fn P w K mg base 1 "judge_end" ["row","end","blanks","placed"] (adT K ad):=by
 refine D.fx ["row","end","blanks","placed"] ?_;rintro nd f cdv A outer st H vs Q E hr ⟨items,row,q,u,a,lb,d,rfl,hR,⟨pb,bl⟩,hd,k⟩;refine⟨_,(kxf (kxl (pv 1) (kxL T.bD (pv 0))) (aG (ab ao (ab (pv 1) ak))) (kxf (kxl (cT mL (by rfl) T.bD PySem.boot_len (ab (pv 3) ak)) (kxL T.bD (pv 2))) (aG (ab ao (ab (kxL T.bD (pv 0)) ak))) (kxr (aG ak)))),?_⟩;unfold afe at k;have lnb:(pb.map V.ref).length=items.length:=by rw[Ab,bl.len]
 have lnd:(dkV u).length=u.length:=by unfold dkV;rw[Ab]
 refine⟨_,rfl,_,rfl,a,_,rfl,.inl hR,_,_,rfl,rfl,_,rfl,?_⟩;rw[ik,aad];refine bJ (fun z => ?_) (fun z => ?_)
 ·exact⟨_,rfl,dj (r:=1) (by rw[Ag (Al z)]) k⟩
 rw[Ad (fun y=>z (Ak y))] at k;refine⟨_,rfl,d,_,rfl,hd,_,rfl,lb,_,rfl,.inl (SqL.of bl.lst),_,_,rfl,rfl,_,rfl,?_⟩;rw[lnb,lnd,aad];refine bJ (fun y => ?_) (fun y => ?_)
 ·refine⟨_,rfl,a,_,rfl,.inl hR,?_⟩
  rw[ik];exact dj (r:=7) (by rw[Ag (Al y)]) k
 ·exact nil_of (by rw[Ad (fun x=>y (Ak x))]) k
inductive aeb(K:DG)(ad:Adr)(a2:kx)(vs:List V)(H:Hp)(Q:VK)(E:XK):Prop
 | mk (items:List Item) (s:Sheet) (row:List Nat) (q:Nat) (r:Rc) (u:List Nat) (a sh p lb d:Addr) (c0:vs=[.ref a,.int (q:Int),.ref sh,.ref p,.ref lb,.ref d]) (c1:qQ K ad a2 H items s row r u a sh p lb d) (c2:q≤row.length) (c3:∀H' l,aL H H'→H' l=some (.lst (jdV (vR items s row q r u)))→Q (.ref l) H'):aeb K ad a2 vs H Q E
abbrev afO:Stmt:=(top 70)
theorem rg{row:List Nat}{q:Nat}(h:jo row q=none):q<row.length∧row.getD q 0≤3∧q+nn (row.getD q 0)≤row.length:=by
 unfold jo at h
 by_cases c1:row.length≤q∨3<row.getD q 0
 ·rw[Ag c1] at h;cases h
 ·rw[Ad c1] at h
  by_cases c2:row.length<q+nn (row.getD q 0)
  ·rw[Ag c2] at h;cases h
  ·omega
theorem afF(D:Def K mg "judge_node" afO ["row","start","sheet","piece","blanks","placed"])(T3:rS K mg a2)(gL:Fn P w K mg base 1 "judge_form" ["row","start"] (zD K))(eJ:Fn P w K mg base 2 "judge_placed" ["row","start","sheet","piece","blanks","placed"] (adM K ad a2))(jf:Fn P w K mg base 1 "judge_cut" ["row","start","piece"] (adj K a2)) :
  Fn P w K mg base 3 "judge_node" ["row","start","sheet","piece","blanks","placed"] (aeb K ad a2):=by
 refine D.fx ["row","start","sheet","piece","blanks","placed","broken"] ?_;rintro nd f cdv A outer st H vs Q E hr ⟨items,s,row,q,r,u,a,sh,p,lb,d,rfl,ni,hq,k⟩;refine⟨_,(kxs 6 nd (kxF gL hr (ab (pv 0) (ab (pv 1) ak))) (kxf (aS (pv 6) (fun _=>rfl)) (pv 6) (kxf (kxq (kxI (pv 0) (pv 1)) (kxG T3.fO)) (kxF eJ hr (ab (pv 0) (ab (pv 1) (ab (pv 2) (ab (pv 3) (ab (pv 4) (ab (pv 5) ak))))))) (kxf (kxn (kxI (pv 0) (pv 1)) (kxG T3.dU)) (kxF jf hr (ab (pv 0) (ab (pv 1) (ab (pv 3) ak)))) (kxr (aG ak)))))),?_⟩;refine⟨_,rfl,_,rfl,a,row,q,rfl,ni.row,hq,fun H1 l s1 hl => ?_⟩;unfold vR at k;cases hf:jo row q with
 | some e =>
  rw[hf] at k hl;refine⟨_,rfl,_,.inl ⟨_,SqL.of hl,rfl⟩,f6 ⟨_,rfl,k H1 l s1 hl⟩⟩
 | none =>
  rw[hf] at k hl;obtain⟨f1,f2,f3⟩:=rg hf;have k:∀H' l,aL H H'→H' l=some (.lst (jdV (if row.getD q 0=1 then wJ items s row q r u else if row.getD q 0≠0 then yP row q r else none)))→Q (.ref l) H':=k;refine⟨_,rfl,_,.inl ⟨_,SqL.of hl,rfl⟩,fS ?_⟩;refine⟨_,rfl,_,rfl,a,_,_,_,rfl,rfl,s1.seq ni.row,aM (iP f1),rfl,_,rfl,?_⟩;rw[dn (row.getD q 0) 1 1 rfl];have nn1:nn 1=3:=rfl;have nn2:nn 2=2:=rfl;have nn3:nn 3=2:=rfl;refine bJ (fun c => ?_) (fun c => ?_)
  ·have c':row.getD q 0=1:=Al c
   rw[Ag c'] at k;refine⟨_,rfl,_,rfl,_,rfl,_,rfl,_,rfl,_,rfl,items,s,row,q,r,u,a,sh,p,lb,d,rfl,ni.same s1,by rw[c',nn1] at f3;omega,fun H2 l2 s2 h2=>k H2 l2 (s1.trans s2) h2⟩
  ·have c':¬row.getD q 0=1:=fun y=>c (Ak y)
   rw[Ad c'] at k;refine⟨_,rfl,_,rfl,a,_,_,_,rfl,rfl,s1.seq ni.row,aM (iP f1),rfl,_,rfl,?_⟩;rw[dn (row.getD q 0) 0 0 rfl,← BD];refine bJ (fun e => ?_) (fun e => ?_)
   ·have e':row.getD q 0≠0:=Al e
    rw[Ag e'] at k;have l1:q+1<row.length:=by
     have:row.getD q 0=2∨row.getD q 0=3:=by omega
     rcases this with y|y
     ·rw[y,nn2] at f3;omega
     ·rw[y,nn3] at f3;omega
    refine⟨_,rfl,_,rfl,_,rfl,a,p,row,q,r,rfl,s1.seq ni.row,(aR a2).same _ _ _ _ s1 ni.pc,l1,fun H2 l2 s2 h2=>k H2 l2 (s1.trans s2) h2⟩
   ·rw[Ad (fun y=>e (Ak y))] at k
    exact nil_of (H:=H1) (f:=none) rfl fun H2 l2 s2 h2=>k H2 l2 (s1.trans s2) h2
end
end Gs
namespace Gs
open PySem PySem.Spec PyProof.Rows L2
open Gla (Item Sheet Fault)
abbrev Res:=Except Fault (List FNd×Nat×List Nat)
def tN(fs:List FNd):Res→Res
 | .error e=>.error e
 | .ok z=>.ok (fs++z.1,z.2)
def xU(items:List Item)(row:List Nat)(k:Nat)(rest:List Sheet):Res→Res
 | .error e=>.error e
 | .ok z=>tN z.1 (q5 items row (k+1) rest z.2.1 z.2.2)
theorem yi(fs gs:List FNd)(r:Res):tN fs (tN gs r)=tN (fs++gs) r:=by
 cases r with
 | error e=>rfl
 | ok z =>
  show Except.ok (fs++(gs++z.1),z.2)=Except.ok ((fs++gs)++z.1,z.2);rw[Bt]
theorem xX(r:Res):tN [] r=r:=by cases r <;> rfl
theorem xC(items:List Item)(row:List Nat)(k:Nat)(s:Sheet)(r:List Sheet)(q:Nat)(u:List Nat):q5 items row k (s::r) q u=xU items row k r (stk items s row k [⟨0,0,s.w,s.h⟩] q u):=by
 conv=>lhs;unfold q5
 cases stk items s row k [⟨0,0,s.w,s.h⟩] q u with
 | error e=>rfl
 | ok z =>
  show(match q5 items row (k+1) r z.2.1 z.2.2 with|.error e=>Except.error e|.ok y=>Except.ok (z.1++y.1,y.2))=tN z.1 (q5 items row (k+1) r z.2.1 z.2.2);cases q5 items row (k+1) r z.2.1 z.2.2 <;> rfl
theorem xA(items:List Item)(row:List Nat)(k:Nat)(rest:List Sheet)(f:FNd)(r:Res):xU items row k rest (pX f r)=tN [f] (xU items row k rest r):=by
 cases r with
 | error e=>rfl
 | ok z =>
  show tN (f::z.1) _=tN [f] (tN z.1 _);rw[yi];rfl
def adz(items:List Item)(shs:List Sheet)(row:List Nat):Option (Nat×Int):=match q5 items row 0 shs 0 [] with
 | .error e=>some (e.rule,(e.place:Int))
 | .ok z=>afe items.length row z.2.1 z.2.2.length
def rowN(items:List Item)(shs:List Sheet)(row:List Nat):List FNd:=match q5 items row 0 shs 0 [] with
 | .error _=>[]
 | .ok z=>z.1
theorem LO.mono{α:Type}{R R':Hp→Addr→α→Prop}{H H':Hp}{l:Addr}{xs:List α}{ps:List Addr}(h:LO R H l xs ps)(hl:H' l=H l)(k:∀p x,R H p x→R' H' p x):LO R' H' l xs ps :=
 ⟨by rw[hl];exact h.lst,h.len,fun j p x e1 e2=>k p x (h.at_ j p x e1 e2)⟩
theorem LO.add{α:Type}{R:Hp→Addr→α→Prop}{H:Hp}{l q:Addr}{xs:List α}{ps:List Addr}{x:α}(h:LO R H l xs ps)(kp:∀p y,R H p y→R (upd H l (.lst (ps.map V.ref++[.ref q]))) p y)(hq:R H q x):LO R (upd H l (.lst (ps.map V.ref++[.ref q]))) l (xs++[x]) (ps++[q]):=by
 refine⟨by rw[ag,As];rfl,by rw[Ai,Ai,h.len];rfl,fun j p y e1 e2 => ?_⟩
 by_cases hj:j<ps.length
 ·rw[Aw hj] at e1
  rw[Aw (by rw[← h.len];exact hj)] at e2;exact kp _ _ (h.at_ j p y e1 e2)
 ·have hj':j=ps.length:=by
   have:=(List.getElem?_eq_some_iff.mp e1).1;rw[Ai] at this;simp at this;omega
  rw[hj',Ao (Ae _),AO] at e1;rw[hj',h.len,Ao (Ae _),AO] at e2;obtain rfl:q=p:=Ac e1;obtain rfl:x=y:=Ac e2;exact kp _ _ hq
theorem LO.cat{α:Type}{R:Hp→Addr→α→Prop}(hR:ab3 R){H:Hp}{l m:Addr}{xs ys:List α}{ps qs:List Addr}(h:LO R H l xs ps)(g:LO R H m ys qs):LO R (upd H l (.lst (ps.map V.ref++qs.map V.ref))) l (xs++ys) (ps++qs):=by
 have kp:∀{p:Addr} {y:α},R H p y→R (upd H l (.lst (ps.map V.ref++qs.map V.ref))) p y:=fun r=>hR _ _ _ _ (fun C dx fs e=>by rw[az (bw e h.lst)];exact e) r;refine⟨by rw[ag,As],by rw[Ai,Ai,h.len,g.len],fun j p y e1 e2 => ?_⟩
 by_cases hj:j<ps.length
 ·rw[Aw hj] at e1
  rw[Aw (by rw[← h.len];exact hj)] at e2;exact kp (h.at_ j p y e1 e2)
 ·rw[Ao (by omega)] at e1
  rw[Ao (by rw[← h.len];omega),← h.len] at e2;exact kp (g.at_ _ p y e1 e2)
theorem LO.last{α:Type}{R:Hp→Addr→α→Prop}(hR:ab3 R){H:Hp}{l:Addr}{xs:List α}{x:α}{ps:List Addr}(h:LO R H l (xs++[x]) ps) :
  ∃qs p,ps=qs++[p]∧R H p x∧LO R (upd H l (.lst (qs.map V.ref))) l xs qs:=by
 have hl:ps.length=xs.length+1:=by rw[h.len,Ai];rfl
 have e:ps=ps.take xs.length++[ps[xs.length]'(by omega)]:=by
  rw[← take_snoc (Aa (by omega)),AK (by omega)]
 refine⟨ps.take xs.length,ps[xs.length]'(by omega),e,h.at_ xs.length _ _ (Aa (by omega)) (by rw[Ao (Ae _),AO];rfl),ag,by rw[A2];omega,fun j p y e1 e2 => ?_⟩;have hj:=(List.getElem?_eq_some_iff.mp e2).1;rw[AF hj] at e1;refine hR _ _ _ _ (fun C dx fs e=>by rw[az (bw e h.lst)];exact e) (h.at_ j p y e1 (by rw[Aw hj];exact e2))
section
variable {P:Program}{w:World}{K:DG}{mg:DH}{base:Heap}{ad:Adr}{a2:kx}
def qE(a2:kx)(H:Hp)(n:Addr)(f:FNd):Prop:=∃p l,jE a2 H n f p l
def NdV(a2:kx)(av:List Addr)(H:Hp)(n:Addr)(f:FNd):Prop:=∃p l,jE a2 H n f p l∧l ∉ av
theorem jE.same{H H':Hp}{n p l:Addr}{f:FNd}(h:jE a2 H n f p l)(s:aL H H'):jE a2 H' n f p l:=⟨let ⟨dx,e⟩:=h.ob;⟨dx,s _ _ e⟩,(aR a2).same _ _ _ _ s h.pc,s _ _ h.ns⟩
theorem NdV.keep{av:List Addr}{H H':Hp}(k1:∀b C dx fs,H b=some (.ins C dx fs)→H' b=some (.ins C dx fs))(k2:∀b xs,b ∉ av→H b=some (.lst xs)→H' b=some (.lst xs)){n:Addr}{f:FNd}(h:NdV a2 av H n f):NdV a2 av H' n f:=by
 obtain⟨p,l,na,hl⟩:=h;obtain⟨dx,ob⟩:=na.ob;obtain⟨dy,pc⟩:=na.pc;exact⟨p,l,⟨⟨dx,k1 _ _ _ _ ob⟩,⟨dy,k1 _ _ _ _ pc⟩,k2 _ _ hl na.ns⟩,hl⟩
theorem NdV.same{av:List Addr}{H H':Hp}(s:aL H H'){n:Addr}{f:FNd}(h:NdV a2 av H n f):NdV a2 av H' n f:=h.keep (fun _ _ _ _ e=>s _ _ e) (fun _ _ _ e=>s _ _ e)
theorem NdV.lst{av:List Addr}{H:Hp}{l:Addr}{xs ys:List V}(hl:H l=some (.lst xs))(hm:l∈av){n:Addr}{f:FNd}(h:NdV a2 av H n f):NdV a2 av (upd H l (.lst ys)) n f :=
 h.keep (fun b C dx fs e=>by rw[az (bw e hl)];exact e) (fun b zs hb e=>by rw[az (fun(z:b=l)=>hb (by rw[z];exact hm))];exact e)
theorem NdV.dk{av:List Addr}{H:Hp}{d:Addr}{k0 k1:List (Key×V)}(hd:H d=some (.dK k0)){n:Addr}{f:FNd}(h:NdV a2 av H n f):NdV a2 av (upd H d (.dK k1)) n f :=
 h.keep (fun b C dx fs e=>by rw[az (bw e hd)];exact e) (fun b zs _ e=>by rw[az (bw e hd)];exact e)
structure abY(a2:kx)(H:Hp)(q:Addr)(b:Option (Nat×Int))(ns:List FNd)(lb ln:Addr):Prop where
 ob:∃dx,H q=some (.ins a2.reading dx [("broken",.ref lb),("nodes",.ref ln)])
 br:H lb=some (.lst (jdV b))
 nd:∃pn,LO (qE a2) H ln ns pn
theorem vc{H:Hp}{Q:VK}{lb ln:Addr}{b:Option (Nat×Int)}{ns:List FNd}{pn:List Addr}(hb:H lb=some (.lst (jdV b)))(hn:LO (qE a2) H ln ns pn)(q:∀H' c lb ln,aL H H'→abY a2 H' c b ns lb ln→Q (.ref c) H') :
  ∀x dx,H x=Option.none→H dx=Option.none→dx≠x→Q (.ref x) (upd (upd H dx (.own x)) x (.ins a2.reading dx (jt [.ref lb,.ref ln]))):=by
 intro x dx nx ndx ne;have s1:aL H (upd (upd H dx (.own x)) x (.ins a2.reading dx (jt [.ref lb,.ref ln]))):=(ah ndx).trans (ah (by rw[az (Ne.symm ne)];exact nx));exact q _ x lb ln s1 ⟨⟨dx,ag⟩,s1 _ _ hb,pn,hn.same (fun H H' p x s r=>let ⟨p',l',na⟩:=r;⟨p',l',na.same s⟩) s1⟩
theorem join{b:Bool}{Dn:L2.St→Hp→Prop}{A:Prop}{σ:L2.St}{H:Hp}(Fa:Hp→Prop)(key:∀H',Fa H'→Dn σ H')(ha:b=true→(∀H',Fa H'→Dn σ H')→A)(hb:b=false→Fa H):if b=true then A else Dn σ H:=by
 cases b with
 | true=>rw[Ag rfl];exact ha rfl key
 | false=>rw[Ad Bool.noConfusion];exact key H (hb rfl)
structure RI(a2:kx)(items:List Item)(row:List Nat)(H0 H':Hp)(dd nl:Addr)(av:List Addr)(fs:List FNd)(q:Nat)(u:List Nat):Prop where
 sm:aL H0 H'
 pl:H' dd=some (.dK (dkV u))
 nd:∃pn,LO (NdV a2 av) H' nl fs pn
 us:aaC items u
 qr:q≤row.length
 fl:fs.length≤q
theorem afg{items:List Item}{u:List Nat}(h:aaC items u):u.length≤items.length:=by
 have:=AJ (l₁:=u) (l₂:=List.range items.length) h.nd fun i hi=>List.mem_range.mpr (h.lt i hi);rw[Au] at this;exact this
theorem agq{items:List Item}{u ns:List Nat}{r:Rc}(h:aaC items u)(e:(ns=[0])∨(∃i t,ns=[1,i,t]∧i<items.length∧i ∉ u)∨(∃x,ns=[2,x]∧0<x∧x<r.w)∨(∃x,ns=[3,x]∧0<x∧x<r.h)):aaC items (u++Gs.pn ns):=by
 rcases e with rfl|⟨i,t,rfl,hi,hu⟩|⟨x,rfl,_⟩|⟨x,rfl,_⟩
 ·show aaC items (u++[]);rw[AR];exact h
 ·refine⟨?_,fun j hj => ?_⟩
  ·show(u++[i]).Nodup
   rw[List.nodup_append];exact⟨h.nd,by simp,fun a ha b hb=>by rw[List.mem_singleton.mp hb];intro z;exact hu (z▸ha)⟩
  ·rcases List.mem_append.mp hj with z|z
   ·exact h.lt j z
   ·rw[List.mem_singleton.mp (show j∈[i] from z)];exact hi
 ·show aaC items (u++[]);rw[AR];exact h
 ·show aaC items (u++[]);rw[AR];exact h
def UsR(items:List Item)(shs:List Sheet)(row:List Nat):Prop:=∀z,q5 items row 0 shs 0 []=.ok z→aaC items z.2.2
inductive adP(K:DG)(ad:Adr)(a2:kx)(vs:List V)(H:Hp)(Q:VK)(E:XK):Prop
 | mk (items:List Item) (shs:List Sheet) (row:List Nat) (lb ls a:Addr) (c0:vs=[.ref lb,.ref ls,.ref a]) (c1:(∃pb,LO (fD ad) H lb items pb)) (c2:(∃ps,LO (vG ad) H ls shs ps)) (c3:ab2 K H a row) (c4:row.length<60000) (c5:items.length<65536) (c6:∀H' c lb ln,aL H H'→UsR items shs row→abY a2 H' c (adz items shs row) (rowN items shs row) lb ln→Q (.ref c) H'):adP K ad a2 vs H Q E
abbrev agK:Stmt:=(top 69)
theorem afb(D:Def K mg "read_row" agK ["blanks","sheets","row"])(T:Txt K mg ad)(T3:rS K mg a2)(gM:Fn P w K mg base 3 "judge_node" ["row","start","sheet","piece","blanks","placed"] (aeb K ad a2))(jg:Fn P w K mg base 1 "judge_end" ["row","end","blanks","placed"] (adT K ad))(kK:Fn P w K mg base 4 "parts_of" ["node"] (ahl a2))
  (cx:Kl P w K mg base 1 "Piece" a2.piece 4 eg) (aao:Kl P w K mg base 1 "Node" a2.node 3 rC) (jI:Kl P w K mg base 1 "Reading" a2.reading 2 jt):Fn P w K mg base 5 "read_row" ["blanks","sheets","row"] (adP K ad a2):=by
 refine D.fx ["blanks","sheets","row","placed","nodes","start","k","sheet","pieces","piece","broken","node"] ?_;rintro nd f cdv A outer s0 H vs Q E hr ⟨items,shs,row,lb,ls,a,rfl,⟨pb,bl⟩,⟨ps,sl⟩,hR,hrow,hit,k⟩;have hu:=nI hr;refine⟨_,(kxs 3 nd u0 (kxs 4 nd (aG ak) (kxs 5 nd ao (aA (bC PassesOwn.never rfl (dP (by rfl) T.aV (ab (pv 1) ak)) (dv rfl (aJ (kxo 6 nd) (aJ (kxo 7 nd) b8))) (kxs 8 nd (aG (ab (kxK cx hr (ab ao (ab ao (ab (ay (pv 7) rfl) (ab (ay (pv 7) rfl) ak))))) ak)) (aF (oN PassesOwn.never (aS (pv 8) (fun _=>rfl)) (kxs 9 nd (acO PySem.F.plainAttrs_list PySem.F.slot_list_pop PySem.F.type_list_pop acF (pv 8)) (kxs 10 nd (kxF gM hr (ab (pv 2) (ab (pv 5) (ab (pv 7) (ab (pv 9) (ab (pv 0) (ab (pv 3) ak))))))) (kxf (aS (pv 10) (fun _=>rfl)) (kxK jI hr (ab (pv 10) (ab (aG ak) ak))) (kxs 11 nd (kxK aao hr (ab (pv 6) (ab (pv 9) (ab (fE iV (pv 2) (d9 (pv 5)) (d9 (aP aT (pv 5) (kxT (kxR T3.iB) (kxI (pv 2) (pv 5)))))) ak)))) (kxe (kxA (pv 4) (pv 11)) (aA (di (kxq (kxI (ay (pv 11) rfl) ao) (kxG T3.fO)) (aF (pJ hu (pv 3) (kxI (ay (pv 11) rfl) ao) kn rfl)) bb) (kxe (kxX (pv 8) (kxF kK hr (ab (pv 11) ak))) (aF (lV (i:=5) nd rfl (Or.inl rfl) (aP aT (pv 5) (kxL T.bD (ay (pv 11) rfl)))))))))))))))) (kxr (kxK jI hr (ab (kxF jg hr (ab (pv 2) (ab (pv 5) (ab (pv 0) (ab (pv 3) ak))))) (ab (pv 4) ak)))))))),?_⟩;intro dd hdd;refine⟨Av _,fun nl hnl => ?_⟩;have sd:=ah (o:=.dK []) hdd;have sn:=ah (o:=.lst []) hnl;have hnl0:H nl=Option.none:=sd.free hnl;have ri0:RI a2 items row H (upd (upd H dd (.dK [])) nl (.lst [])) dd nl [nl] [] 0 []:=⟨sd.trans sn,sn _ _ ag,⟨[],.nil ag⟩,⟨by simp,fun i hi=>by simp at hi⟩,Av _,Ae _⟩;generalize (upd (upd H dd (.dK [])) nl (.lst []))=H0 at *
 generalize eT:q5 items row 0 shs 0 []=TT;refine⟨_,rfl,ls,_,rfl,SqL.of (ri0.sm _ _ sl.lst),cS (K:=K) (a:=ls) (xs:=ps.map V.ref)
  (fun i σ H'=>∃(fs:List FNd) (q:Nat) (u:List Nat) (v6 v7 v8 v9 v10 v11:Option V),σ=[some (.ref lb),some (.ref ls),some (.ref a),some (.ref dd),some (.ref nl),some (.int (q:Int)),v6,v7,v8,v9,v10,v11]∧RI a2 items row H H' dd nl [nl] fs q u∧TT=tN fs (q5 items row i (shs.drop i) q u))
  ⟨[],0,[],none,none,none,none,none,none,rfl,ri0,by rw[BN,xX,eT]⟩ (fun i σ H' _ ⟨_,_,_,_,_,_,_,_,_,_,ri,_⟩=>SqL.of (ri.sm _ _ sl.lst)) ?_ ?_⟩
 ·rintro i x σ H' t hx ⟨fs,q,u,v6,v7,v8,v9,v10,v11,rfl,ri,eq⟩ ht
  have hi:i<shs.length:=by
   have:=(List.getElem?_eq_some_iff.mp hx).1;rw[Ab,sl.len] at this;exact this
  obtain⟨sh,es,hsh⟩:=sl.get (Aa hi);rw[es] at hx;obtain rfl:=Ac hx;refine⟨t,_,rfl,SqT.of ag,rfl,_,_,rfl,_,_,rfl,rfl,?_⟩;have st:=ah (o:=.tup [.int (i:Nat),.ref sh]) ht;have hsh1:=hsh.same (ri.sm.trans st);rw[AI hi,xC] at eq;generalize shs[i]=s at *
  obtain⟨dxs,hs1⟩:=hsh1;have hs1:(upd H' t (.tup [.int (i:Nat),.ref sh])) sh=some (.ins ad.sheet dxs (zG s)):=hs1;refine⟨_,rfl,fl hs1 T.sheet aiE ⟨_,rfl,fl hs1 T.sheet aiC ?_⟩⟩;refine tf ?_;intro p0 dxp n1 n2 ne;refine⟨p0,dxp,[.int 0,.int 0,.int (s.w:Int),.int (s.h:Int)],rfl,rfl,ag,rfl,?_⟩;rw[bQ];have s2:aL (upd H' t (.tup [.int (i:Nat),.ref sh])) (upd (upd (upd H' t (.tup [.int (i:Nat),.ref sh])) dxp (.own p0)) p0 (.ins a2.piece dxp (eg [.int 0,.int 0,.int (s.w:Int),.int (s.h:Int)]))):=(ah n2).trans (ah (by rw[az (Ne.symm ne)];exact n1));have hp0:bM a2 (upd (upd (upd H' t (.tup [.int (i:Nat),.ref sh])) dxp (.own p0)) p0 (.ins a2.piece dxp (eg [.int 0,.int 0,.int (s.w:Int),.int (s.h:Int)]))) p0 ⟨0,0,s.w,s.h⟩:=⟨dxp,ag⟩;generalize (upd (upd (upd H' t (.tup [.int (i:Nat),.ref sh])) dxp (.own p0)) p0 (.ins a2.piece dxp (eg [.int 0,.int 0,.int (s.w:Int),.int (s.h:Int)])))=H2 at *
  refine⟨by show 1≤sizeLine;decide,fun lp hlp => ?_⟩;have s3:=ah (o:=.lst [.ref p0]) hlp;have sHp:=(st.trans s2).trans s3;have lpn:lp≠nl:=fun z=>by
   obtain⟨pn,lo⟩:=ri.nd;rw[z,(st.trans s2) _ _ lo.lst] at hlp;cases hlp
  have hlp0:H lp=Option.none:=(ri.sm.trans (st.trans s2)).free hlp;have ri1:RI a2 items row H (upd H2 lp (.lst [.ref p0])) dd nl [nl,lp] fs q u:=by
   obtain⟨pn,lo⟩:=ri.nd;refine⟨ri.sm.trans sHp,sHp _ _ ri.pl,⟨pn,⟨sHp _ _ lo.lst,lo.len,fun j p x e1 e2 => ?_⟩⟩,ri.us,ri.qr,ri.fl⟩;obtain⟨p',l',na,hl'⟩:=lo.at_ j p x e1 e2;refine⟨p',l',na.same sHp,fun z => ?_⟩;rcases List.mem_cons.mp z with z|z
   ·exact hl' (z▸Ah)
   ·rw[BQ] at z
    rw[← z,(st.trans s2) _ _ na.ns] at hlp;cases hlp
  have lp1:LO (bM a2) (upd H2 lp (.lst [.ref p0])) lp ([⟨0,0,s.w,s.h⟩]:List Rc).reverse [p0]:=⟨ag,rfl,fun j p x e1 e2=>by
   match j,e1,e2 with
   | 0,e1,e2 =>
    obtain rfl:p0=p:=Ac e1;obtain rfl:(⟨0,0,s.w,s.h⟩:Rc)=x:=Ac e2;exact(aR a2).same _ _ _ _ s3 hp0
   | j+1,e1,e2=>simp at e1⟩
  generalize upd H2 lp (.lst [.ref p0])=H3 at *
  have hsI:vG ad H sh s:=hsh;dsimp only[o8,adW];refine pC (fun σ H'=>∃(fs:List FNd) (q:Nat) (u:List Nat) (st:List Rc) (pc:List Addr) (v9 v10 v11:Option V),σ=[some (.ref lb),some (.ref ls),some (.ref a),some (.ref dd),some (.ref nl),some (.int (q:Int)),some (.int (i:Int)),some (.ref sh),some (.ref lp),v9,v10,v11] ∧
    RI a2 items row H H' dd nl [nl,lp] fs q u∧LO (bM a2) H' lp st.reverse pc∧st.length≤q+1∧TT=tN fs (xU items row i (shs.drop (i+1)) (stk items s row i st q u)))
   (fun σ H'=>match σ with|[_,_,_,_,_,some (.int z),_,_,_,_,_,_]=>row.length-z.toNat|_=>0) ?_ ?_ ?_
  ·exact⟨fs,q,u,[⟨0,0,s.w,s.h⟩],[p0],_,_,_,rfl,ri1,lp1,by simp,eq⟩
  ·clear ri1 lp1 eq ri
   rintro σ H4 ⟨fs,q,u,stl,pc,w9,w10,w11,rfl,ri,lo,sq,eq⟩;refine⟨_,rfl,!(pc.map V.ref).isEmpty,.inl ⟨_,SqL.of lo.lst,rfl⟩,?_⟩;cases stl with
   | nil =>
    have e0:pc=[]:=List.length_eq_zero_iff.mp lo.len;subst e0;obtain⟨pn,ln⟩:=ri.nd;refine fS ⟨fs,q,u,_,_,_,_,_,_,rfl,⟨ri.sm,ri.pl,⟨pn,ln.mono rfl fun p x ⟨p',l',na,hl'⟩=>⟨p',l',na,fun z=>hl' (by rw[List.mem_singleton.mp z];exact Ah)⟩⟩,ri.us,ri.qr,ri.fl⟩,?_⟩;rw[eq];show tN fs (tN [] _)=_;rw[xX]
   | cons r rest =>
    rw[CZ] at lo;have hlp4:=lo.lst;obtain⟨qs,p,rfl,hp,lo1⟩:=lo.last (aR a2);have eL:(qs++[p]).map V.ref=qs.map V.ref++[.ref p]:=by rw[As];rfl
    rw[eL] at hlp4 ⊢;have hne:(!(qs.map V.ref++[V.ref p]).isEmpty)=true:=by simp
    rw[hne];refine f6 ?_;refine⟨_,rfl,.inl ⟨rfl,_,SqL.of hlp4⟩,lp,_,.ref p,rfl,rfl,hlp4,?_,?_⟩
    ·rw[Ai,Aq,B1,Nat.add_sub_cancel,Ao (Ae _),AO];rfl
    rw[D4];have ri5:RI a2 items row H (upd H4 lp (.lst (qs.map V.ref))) dd nl [nl,lp] fs q u:=by
     obtain⟨pn,ln⟩:=ri.nd;exact⟨aH ri.sm hlp0,by rw[az (bw ri.pl hlp4)];exact ri.pl,⟨pn,ln.mono (az (Ne.symm lpn)) fun p x h=>h.lst hlp4 (by simp)⟩,ri.us,ri.qr,ri.fl⟩
    have hp5:bM a2 (upd H4 lp (.lst (qs.map V.ref))) p r:=aR a2 _ _ _ _ (fun C dx fs e=>by rw[az (bw e hlp4)];exact e) hp;generalize upd H4 lp (.lst (qs.map V.ref))=H5 at *
    refine⟨_,rfl,_,rfl,_,rfl,_,rfl,_,rfl,_,rfl,items,s,row,q,r,u,a,sh,p,lb,dd,rfl,⟨ri5.sm.seq hR,hsI.same ri5.sm,hp5,⟨pb,bl.same (dF ad).same ri5.sm⟩,ri5.pl⟩,ri5.qr,fun H6 l s6 hl => ?_⟩;rw[abP] at eq;rcases adJ items s row q r u ri5.qr with⟨ar,pr,e1,e2⟩|⟨e1,e2,e3,e4,e5⟩
    ·rw[e1] at hl
     rw[e2] at eq;refine⟨_,rfl,_,.inl ⟨_,SqL.of hl,rfl⟩,f6 ⟨_,rfl,Av _,fun le hle=>ro rfl ?_⟩⟩;have se:=ah (o:=.lst []) hle;have eq:TT=.error ⟨ar,pr⟩:=eq;have eB:adz items shs row=some (ar,(pr:Int)):=by unfold adz;rw[eT,eq]
     have eN:rowN items shs row=[]:=by unfold rowN;rw[eT,eq]
     exact vc (b:=some (ar,(pr:Int))) (ns := []) (se _ _ hl) (.nil ag) fun H7 c lb ln s7 ra=>k H7 c lb ln (ri5.sm.trans (s6.trans (se.trans s7))) (fun z ez=>by rw[eT,eq] at ez;cases ez) (by rw[eB,eN];exact ra)
    ·rw[e1] at hl
     rw[e2] at eq;have hf:jo row q=none:=by
      unfold vR at e1;cases h:jo row q with
      | none=>rfl
      | some e=>rw[h] at e1;cases e1
     obtain⟨f1,f2,f3⟩:=rg hf;refine⟨_,rfl,_,.inl ⟨_,SqL.of hl,rfl⟩,fS ?_⟩;have s56:=ri5.sm.trans s6;refine⟨_,rfl,_,rfl,_,rfl,_,rfl,_,rfl,_,rfl,_,rfl,_,rfl,a,_,_,_,rfl,rfl,s56.seq hR,aM (iP f1),_,_,_,_,rfl,rfl,T3.nn_is H6,aM (aeX f2),_,_,rfl,rfl,_,rfl,a,_,rfl,s56.seq hR,fun ln hln => ?_⟩;have ec:kS (iv row) (some (q:Int)) (some ((q:Int)+((nn (row.getD q 0):Nat):Int)))=iv (nums row q):=by
      rw[show(q:Int)+((nn (row.getD q 0):Nat):Int)=((q+nn (row.getD q 0):Nat):Int) by omega,oP];unfold iv nums;rw[Ci,C7]
      congr 1;omega
     rw[ec];have g0:(iv (nums row q))[0]? = some (.int ((row.getD q 0:Nat):Int)):=by
      rw[iP (row:=nums row q) e4];have:(nums row q).getD 0 0=row.getD q 0:=by
       unfold nums;rw[Aj,AF (by unfold nums at e4;rw[A2] at e4;omega),List.getElem?_drop,Aj];rfl
      rw[this]
     generalize hns:nums row q=ns at *
     have s7:=ah (o:=.lst (iv ns)) hln;have hns7:(upd H6 ln (.lst (iv ns))) ln=some (.lst (iv ns)):=ag;refine tf ?_;intro nx dxn n1 n2 ne;refine⟨nx,dxn,[.int (i:Int),.ref p,.ref ln],rfl,rfl,ag,rfl,?_⟩;rw[bQ];have s8:aL (upd H6 ln (.lst (iv ns))) (upd (upd (upd H6 ln (.lst (iv ns))) dxn (.own nx)) nx (.ins a2.node dxn (rC [.int (i:Int),.ref p,.ref ln]))):=(ah n2).trans (ah (by rw[az (Ne.symm ne)];exact n1));have ob8:(upd (upd (upd H6 ln (.lst (iv ns))) dxn (.own nx)) nx (.ins a2.node dxn (rC [.int (i:Int),.ref p,.ref ln]))) nx=some (.ins a2.node dxn [("sheet_number",.int (i:Int)),("piece",.ref p),("numbers",.ref ln)]):=ag;have s68:=s6.trans (s7.trans s8);have ns8:=s8 _ _ hns7;generalize (upd (upd (upd H6 ln (.lst (iv ns))) dxn (.own nx)) nx (.ins a2.node dxn (rC [.int (i:Int),.ref p,.ref ln])))=H8 at *
     have na8:jE a2 H8 nx ⟨i,r,ns⟩ p ln:=⟨⟨dxn,ob8⟩,(aR a2).same _ _ _ _ s68 hp5,ns8⟩;have lo8:=lo1.same (aR a2).same s68;obtain⟨pn,nd5⟩:=ri5.nd;have nd8:LO (NdV a2 [nl,lp]) H8 nl fs pn:=nd5.same (fun H H' p x s h=>h.same s) s68;have lnv:ln ∉ [nl,lp]:=by
      intro z;rcases List.mem_cons.mp z with z|z
      ·rw[z,s6 _ _ nd5.lst] at hln;cases hln
      ·rw[List.mem_singleton.mp z,s6 _ _ lo1.lst] at hln;cases hln
     refine⟨_,rfl,.inl ⟨rfl,_,SqL.of nd8.lst⟩,_,rfl,nl,_,_,rfl,rfl,nd8.lst,?_,?_⟩
     ·rw[Ab,nd8.len];exact aZ (by have:=ri5.fl;have:=ri5.qr;omega)
     have nd9:=nd8.add (x:=⟨i,r,ns⟩) (fun p y h=>h.lst nd8.lst (by simp)) ⟨p,ln,na8,lnv⟩;have sm9:aL H (upd H8 nl (.lst (pn.map V.ref++[.ref nx]))):=aH (ri5.sm.trans s68) hnl0;have pl9:(upd H8 nl (.lst (pn.map V.ref++[.ref nx]))) dd=some (.dK (dkV u)):=by
      have:=s68 _ _ ri5.pl;rw[az (bw this nd8.lst)];exact this
     have lo9:LO (bM a2) (upd H8 nl (.lst (pn.map V.ref++[.ref nx]))) lp rest.reverse qs:=lo8.mono (az lpn) fun p x h=>aR a2 _ _ _ _ (fun C dx fs e=>by rw[az (bw e nd8.lst)];exact e) h;have na9:jE a2 (upd H8 nl (.lst (pn.map V.ref++[.ref nx]))) nx ⟨i,r,ns⟩ p ln:=by
      obtain⟨p',l',na,hl'⟩:=nd9.at_ pn.length nx ⟨i,r,ns⟩ (by rw[Ao (Ae _),AO];rfl) (by rw[nd8.len,Ao (Ae _),AO];rfl);obtain⟨dz,oz⟩:=na.ob;have oz2:(upd H8 nl (.lst (pn.map V.ref++[.ref nx]))) nx=some (.ins a2.node dxn [("sheet_number",.int (i:Int)),("piece",.ref p),("numbers",.ref ln)]):=by rw[az (bw ob8 nd8.lst)];exact ob8
      exact⟨⟨dxn,oz2⟩,aR a2 _ _ _ _ (fun C dx fs e=>by rw[az (bw e nd8.lst)];exact e) na8.pc,by rw[az (fun(z:ln=nl)=>lnv (by rw[z];exact Ah))];exact ns8⟩
     generalize upd H8 nl (.lst (pn.map V.ref++[.ref nx]))=H9 at *
     obtain⟨dx9,ob9⟩:=na9.ob;have us2:aaC items (u++Gs.pn ns):=agq ri5.us e5;refine⟨_,rfl,fl ob9 T3.node rfl ⟨ln,_,_,_,rfl,rfl,SqL.of na9.ns,at_of (j:=0) rfl g0,rfl,_,rfl,?_⟩⟩;rw[dn (row.getD q 0) 1 1 rfl];refine join (fun Hx=>aL H Hx∧Hx dd=some (.dK (dkV (u++Gs.pn ns)))∧LO (NdV a2 [nl,lp]) Hx nl (fs++[⟨i,r,ns⟩]) (pn++[nx])∧LO (bM a2) Hx lp rest.reverse qs∧jE a2 Hx nx ⟨i,r,ns⟩ p ln) ?_ ?_ ?_
     ·rintro H10 ⟨sm10,pl10,nd10,lo10,na10⟩
      have nsok:aiN r ns:=by
       rcases e5 with e|⟨i,t,e,_⟩|⟨x,e,_,h⟩|⟨x,e,_,h⟩
       ·exact .inl e
       ·exact .inr (.inl ⟨i,t,e⟩)
       ·exact .inr (.inr (.inl ⟨x,e,by omega⟩))
       ·exact .inr (.inr (.inr ⟨x,e,by omega⟩))
      have kl:(kids r ns).length≤ns.length:=by
       rcases e5 with e|⟨i,t,e,_⟩|⟨x,e,_,h⟩|⟨x,e,_,h⟩ <;> rw[e] <;> first|exact Ae _|exact Av _
      have rl:rest.length≤q:=by rw[Aq] at sq;omega
      refine⟨_,rfl,.inl ⟨rfl,_,SqL.of lo10.lst⟩,_,rfl,nx,p,ln,⟨i,r,ns⟩,rfl,na10,nsok,fun H11 l11 ps11 s11 lo11=>⟨lp,l11,_,_,rfl,rfl,s11 _ _ lo10.lst,lo11.lst,?_,?_⟩⟩
      ·have l1:=lo10.len
       have l2:=lo11.len;rw[D6] at l1 l2;rw[Ab,Ab,l1,l2];exact Br (aZ (by show _+(kids r ns).length<_;omega))
      have lo11':=lo10.same (aR a2).same s11;have lo12:=lo11'.cat (aR a2) lo11;have nd11:LO (NdV a2 [nl,lp]) H11 nl (fs++[⟨i,r,ns⟩]) (pn++[nx]):=nd10.same (fun H H' p x s h=>h.same s) s11;have nd12:LO (NdV a2 [nl,lp]) (upd H11 lp (.lst (qs.map V.ref++ps11.map V.ref))) nl (fs++[⟨i,r,ns⟩]) (pn++[nx]):=nd11.mono (az (Ne.symm lpn)) fun p y h=>h.lst lo11'.lst (by simp);have na11:=na10.same s11;obtain⟨dx11,ob11⟩:=na11.ob;have ob12:(upd H11 lp (.lst (qs.map V.ref++ps11.map V.ref))) nx=some (.ins a2.node dx11 [("sheet_number",.int (i:Int)),("piece",.ref p),("numbers",.ref ln)]):=by rw[az (bw ob11 lo11'.lst)];exact ob11
      have ns12:(upd H11 lp (.lst (qs.map V.ref++ps11.map V.ref))) ln=some (.lst (iv ns)):=by rw[az (fun(z:ln=lp)=>lnv (by rw[z];simp))];exact na11.ns
      have sm12:aL H (upd H11 lp (.lst (qs.map V.ref++ps11.map V.ref))):=aH (sm10.trans s11) hlp0;have pl12:(upd H11 lp (.lst (qs.map V.ref++ps11.map V.ref))) dd=some (.dK (dkV (u++Gs.pn ns))):=by rw[az (bw (s11 _ _ pl10) lo11'.lst)];exact s11 _ _ pl10
      generalize upd H11 lp (.lst (qs.map V.ref++ps11.map V.ref))=H12 at *
      refine⟨_,rfl,_,rfl,fl ob12 T3.node rfl ⟨ln,_,rfl,.inl (SqL.of ns12),_,_,rfl,rfl,?_⟩⟩;have el:(q:Int)+(((iv ns).length:Nat):Int)=((q+ns.length:Nat):Int):=by rw[ik];omega
      refine⟨⟨fs++[⟨i,r,ns⟩],q+ns.length,u++Gs.pn ns,kids r ns++rest,qs++ps11,_,_,_,by rw[← el];rfl,⟨sm12,pl12,⟨_,nd12⟩,us2,e3,?_⟩,by rw[List.reverse_append];exact lo12,?_,?_⟩,?_⟩
      ·rw[Ai]
       show fs.length+1≤_;have:=ri5.fl;omega
      ·rw[Ai];omega
      ·rw[eq]
       show tN fs (xU _ _ _ _ (pX _ _))=_;rw[xA,yi]
      ·show row.length-((q:Int)+(((iv ns).length:Nat):Int)).toNat<row.length-((q:Nat):Int).toNat
       rw[el];omega
     ·intro c key
      have c':row.getD q 0=1:=Al c;rw[c'] at g0;obtain⟨i1,t1,e,hi1,hu1⟩:∃i t,ns=[1,i,t]∧i<items.length∧i ∉ u:=by
       rcases e5 with e|e|⟨x,e,_⟩|⟨x,e,_⟩
       ·rw[e] at g0;exact absurd g0 (by unfold iv;decide)
       ·exact e
       ·rw[e] at g0;exact absurd (Ac g0) (by intro z;injection z with z;omega)
       ·rw[e] at g0;exact absurd (Ac g0) (by intro z;injection z with z;omega)
      have g1:(iv ns)[1]? = some (.int (i1:Int)):=by rw[e];rfl
      have epn:Gs.pn ns=[i1]:=by rw[e];rfl
      refine⟨_,rfl,_,rfl,fl ob9 T3.node rfl ⟨ln,_,_,_,rfl,rfl,SqL.of na9.ns,at_of (j:=1) rfl g1,dd,_,rfl,aaB.k (k:=Sum.inl (i1:Int)) pl9 (aZ (by unfold dkV;rw[Ab];have:=afg ri5.us;omega)),?_⟩⟩;rw[xp hu1];refine key _ ⟨aH sm9 hdd,by rw[epn];exact ag,nd9.mono (az (bw nd9.lst pl9)) (fun p y h=>h.dk pl9),lo9.mono (az (bw lo9.lst pl9)) (fun p x h=>aR a2 _ _ _ _ (fun C dx fs e=>by rw[az (bw e pl9)];exact e) h),⟨dx9,by rw[az (bw ob9 pl9)];exact ob9⟩,aR a2 _ _ _ _ (fun C dx fs e=>by rw[az (bw e pl9)];exact e) na9.pc,by rw[az (bw na9.ns pl9)];exact na9.ns⟩
     ·intro c
      have c':¬row.getD q 0=1:=CP c;have epn:Gs.pn ns=[]:=by
       rcases e5 with e|⟨i1,t1,e,_⟩|⟨x,e,_⟩|⟨x,e,_⟩
       ·rw[e];rfl
       ·rw[e] at g0;exact absurd (Ac g0) (by intro z;injection z with z;omega)
       ·rw[e];rfl
       ·rw[e];rfl
      exact⟨sm9,by rw[epn,AR];exact pl9,nd9,lo9,na9⟩
  ·rintro σ H Q Q' hQ ⟨v,e,k,t,z⟩
   exact⟨v,e,k,t,hQ _ _ z⟩
 ·rintro σ H' ⟨fs,q,u,v6,v7,v8,v9,v10,v11,rfl,ri,eq⟩
  rw[Ab,sl.len,List.drop_length] at eq;have eq:TT=.ok (fs++[],q,u):=eq;rw[AR] at eq;refine⟨_,rfl,_,rfl,_,rfl,_,rfl,items,row,q,u,a,lb,dd,rfl,ri.sm.seq hR,⟨pb,bl.same (dF ad).same ri.sm⟩,ri.pl,fun H1 l s1 hl=>⟨_,rfl,ro rfl ?_⟩⟩;have eB:adz items shs row=afe items.length row q u.length:=by unfold adz;rw[eT,eq]
  have eN:rowN items shs row=fs:=by unfold rowN;rw[eT,eq]
  obtain⟨pn,lo⟩:=ri.nd;exact vc hl ((lo.mono (R':=qE a2) rfl fun p x ⟨p',l',na,_⟩=>⟨p',l',na⟩).same (fun H H' p x s r=>let ⟨p',l',na⟩:=r;⟨p',l',na.same s⟩) s1) fun H2 c lb ln s2 ra=>k H2 c lb ln (ri.sm.trans (s1.trans s2)) (fun z ez=>by rw[eT,eq] at ez;cases ez;exact ri.us) (by rw[eB,eN];exact ra)
end
end Gs
namespace Gs
open PySem PySem.Spec PyProof.Rows L2
open Gla (Item Sheet Fault Node)
def ahP(items:List Item)(shs:List Sheet)(row:List Nat):Option (Nat×Int):=match Gla.judgeLayout items shs row with
 | .error e=>some (e.rule,(e.place:Int))
 | .ok _=>none
theorem aeg{items:List Item}{shs:List Sheet}{row:List Nat}(h:UsR items shs row):adz items shs row=ahP items shs row∧∀l,Gla.judgeLayout items shs row=.ok l→rowN items shs row=fC 0 shs l∧l.length=shs.length:=by
 unfold adz ahP rowN Gla.judgeLayout;rcases zV items row shs 0 0 [] with⟨e,h1,h2⟩|⟨l,q,u,h1,h2,h3⟩
 ·rw[h1,h2]
  exact⟨rfl,fun l z=>by cases z⟩
 ·rw[h1,h3,agT items row (h _ h1)]
  dsimp only;unfold afe
  by_cases c1:q<row.length
  ·rw[Ag c1,Ag c1]
   exact⟨rfl,fun l z=>by cases z⟩
  ·rw[Ad c1,Ad c1]
   by_cases c2:u.length<items.length
   ·rw[Ag c2,Ag c2]
    exact⟨rfl,fun l z=>by cases z⟩
   ·rw[Ad c2,Ad c2]
    exact⟨rfl,fun l' z=>by cases z;exact⟨rfl,h2⟩⟩
theorem aa5(m:Nat)(b:List UInt8)(shs:List Sheet):(d7 m b shs).2.1.length<65536:=by
 unfold d7
 by_cases h1:65535<m
 ·rw[Ag h1];exact(by decide:0<65536)
 ·rw[Ad h1]
  by_cases h2:131072<b.length∨1024<shs.length
  ·rw[Ag h2];exact(by decide:0<65536)
  ·rw[Ad h2]
   cases hj:Gla.judgePlan b with
   | error e=>exact(by decide:0<65536)
   | ok S =>
    show(match Gla.firstAt (fun(_:Nat) (x:Gla.Sheet) => !x.ok) shs with|some k=>([-7,(k:Int)],[],[])|none=>(([],Gla.itemsOf S m,shs):List Int×List Item×List Sheet)).2.1.length<65536;cases Gla.firstAt (fun(_:Nat) (x:Gla.Sheet) => !x.ok) shs with
    | some k=>exact(by decide:0<65536)
    | none =>
     show(Gla.itemsOf S m).length<65536;rw[xW,(judge_ok hj).2.1];exact iZ b
theorem afi{r:List Int}(h:r.all SheetNeutral.whole=true):∃row:List Nat,r=row.map fun(n:Nat)=>(n:Int):=by
 refine⟨r.map Int.toNat,?_⟩;rw[BM] at h;rw[AX];have:∀l:List Int,(∀z∈l,0≤z)→l=l.map ((fun(n:Nat)=>(n:Int)) ∘ Int.toNat):=by
  intro l
  induction l with
  | nil=>intro _;rfl
  | cons a t ih =>
   intro hl;rw[A3,← ih fun z hz=>hl z (Af _ hz)]
   congr 1
   show a=((a.toNat:Nat):Int);have:=hl a Ah;omega
 exact this r fun z hz=>Al (h z hz)
theorem aei(row:List Nat):(row.map fun(n:Nat)=>(n:Int)).mapM SheetNeutral.nat=some row:=by
 induction row with
 | nil=>rfl
 | cons a t ih=>rw[A3,List.mapM_cons,acA,ih];rfl
theorem aah(row:List Nat):iv row=(row.map fun(n:Nat)=>(n:Int)).map V.int:=by unfold iv;rw[AX];rfl
end Gs
namespace Gs
open Gla (Node Fault Item Sheet)
def ad2:Node→Rc→Prop
 | .upright c a b,r=>c≤r.w∧ad2 a ⟨r.x,r.y,c,r.h⟩∧ad2 b ⟨r.x+c,r.y,r.w-c,r.h⟩
 | .level c a b,r=>c≤r.h∧ad2 a ⟨r.x,r.y,r.w,c⟩∧ad2 b ⟨r.x,r.y+c,r.w,r.h-c⟩
 | _,_=>True
theorem qw(items:List Item)(s:Sheet)(row:List Nat):∀(n:Nat) (p:Nat×Nat) (q:Nat) (u:List Nat) (z:Node×Nat),Gla.readNode items s row n p q u=.ok z→∀r:Rc,r.w=p.1→r.h=p.2→ad2 z.1 r∧(∀k,(flat k z.1 r).length≤z.2)∧q+z.2≤row.length
 | 0,p,q,u,z,h=>by unfold Gla.readNode at h;cases h
 | n+1,p,q,u,z,h=>by
  intro r hw hh;have lt:∀{i v},row[i]? = some v→i<row.length:=fun e=>(List.getElem?_eq_some_iff.mp e).1;unfold Gla.readNode at h
  split at h
  ·cases h
  ·rename_i e;cases h
   exact⟨trivial,fun _=>Ae _,lt e⟩
  ·split at h
   ·rename_i e2
    have:=lt e2
    split at h
    ·cases h
    split at h
    ·cases h
    split at h
    ·cases h
    split at h
    ·cases h
    split at h
    ·cases h
    split at h
    ·cases h
    cases h
    exact⟨trivial,fun _=>(by decide:1≤3),this⟩
   ·cases h
  ·split at h
   ·cases h
   rename_i x _
   split at h
   ·cases h
   split at h
   ·cases h
   rename_i a ea
   split at h
   ·cases h
   rename_i b eb
   cases h
   have ⟨f1,l1,q1⟩:=qw items s row n _ _ _ _ ea ⟨r.x,r.y,x,r.h⟩ rfl hh;have ⟨f2,l2,q2⟩:=qw items s row n _ _ _ _ eb ⟨r.x+x,r.y,r.w-x,r.h⟩ (by rw[hw]) hh;refine⟨⟨by omega,f1,f2⟩,fun k => ?_,by show q+(2+a.2+b.2)≤_;omega⟩;have:=l1 k;have:=l2 k;show((_:FNd)::(flat k a.1 _++flat k b.1 _)).length≤2+a.2+b.2;rw[Aq,Ai];omega
  ·split at h
   ·cases h
   rename_i x _
   split at h
   ·cases h
   split at h
   ·cases h
   rename_i a ea
   split at h
   ·cases h
   rename_i b eb
   cases h
   have ⟨f1,l1,q1⟩:=qw items s row n _ _ _ _ ea ⟨r.x,r.y,r.w,x⟩ hw rfl;have ⟨f2,l2,q2⟩:=qw items s row n _ _ _ _ eb ⟨r.x,r.y+x,r.w,r.h-x⟩ hw (by rw[hh]);refine⟨⟨by omega,f1,f2⟩,fun k => ?_,by show q+(2+a.2+b.2)≤_;omega⟩;have:=l1 k;have:=l2 k;show((_:FNd)::(flat k a.1 _++flat k b.1 _)).length≤2+a.2+b.2;rw[Aq,Ai];omega
  ·cases h
inductive zL:List Sheet→List Node→Prop
 | nil:zL [] []
 | cons {s r n l} (h:ad2 n ⟨0,0,s.w,s.h⟩) (t:zL r l):zL (s::r) (n::l)
theorem z9(items:List Item)(row:List Nat):∀(shs:List Sheet) (q:Nat) (u:List Nat) (l:List Node),q≤row.length→Gla.readSheets items row shs q u=.ok l→zL shs l∧∀k,(fC k shs l).length+q≤row.length
 | [],q,u,l,hq,h=>by
  unfold Gla.readSheets at h
  split at h
  ·cases h
  split at h
  ·cases h
  cases h
  exact⟨.nil,fun k=>by show 0+q≤_;omega⟩
 | s::r,q,u,l,hq,h=>by
  unfold Gla.readSheets at h
  split at h
  ·cases h
  rename_i a ea
  split at h
  ·cases h
  rename_i t et
  cases h
  have ⟨f1,l1,q1⟩:=qw items s row _ _ _ _ _ ea ⟨0,0,s.w,s.h⟩ rfl rfl;have ⟨f2,l2⟩:=z9 items row r _ _ _ q1 et;refine⟨.cons f1 f2,fun k => ?_⟩;show(flat k a.1 _++fC (k+1) r t).length+q≤_;have:=l1 k;have:=l2 (k+1);rw[Ai];omega
def ie(f:FNd):List Nat:=match f.ns with
 | [2,c]=>[f.sh,f.rc.x+c,f.rc.y,f.rc.x+c,f.rc.y+f.rc.h]
 | [3,c]=>[f.sh,f.rc.x,f.rc.y+c,f.rc.x+f.rc.w,f.rc.y+c]
 | _=>[]
def ag5(r:Rc):Gla.Piece:=⟨r.x,r.y,r.x+r.w,r.y+r.h⟩
theorem gd(k:Nat):∀(n:Node) (r:Rc),ad2 n r→((n.cuts (ag5 r)).map fun(c:List Nat)=>k::c).flatMap (fun(c:List Nat)=>c)=(flat k n r).flatMap ie
 | .left,r,_=>rfl
 | .pane i t,r,_=>rfl
 | .upright c a b,r,⟨h,fa,fb⟩=>by
  have e:r.x+r.w=r.x+c+(r.w-c):=by omega
  have i1:=gd k a _ fa;have i2:=gd k b _ fb;show[k,r.x+c,r.y,r.x+c,r.y+r.h]++((a.cuts (ag5 ⟨r.x,r.y,c,r.h⟩)++b.cuts ⟨r.x+c,r.y,r.x+r.w,r.y+r.h⟩).map fun(c:List Nat)=>k::c).flatMap (fun(c:List Nat)=>c)=[k,r.x+c,r.y,r.x+c,r.y+r.h]++(flat k a _++flat k b _).flatMap ie;rw[e,As,Bc,Bc,i1];exact congrArg (fun z=>_++(_++z)) i2
 | .level c a b,r,⟨h,fa,fb⟩=>by
  have e:r.y+r.h=r.y+c+(r.h-c):=by omega
  have i1:=gd k a _ fa;have i2:=gd k b _ fb;show[k,r.x,r.y+c,r.x+r.w,r.y+c]++((a.cuts (ag5 ⟨r.x,r.y,r.w,c⟩)++b.cuts ⟨r.x,r.y+c,r.x+r.w,r.y+r.h⟩).map fun(c:List Nat)=>k::c).flatMap (fun(c:List Nat)=>c)=[k,r.x,r.y+c,r.x+r.w,r.y+c]++(flat k a _++flat k b _).flatMap ie;rw[e,As,Bc,Bc,i1];exact congrArg (fun z=>_++(_++z)) i2
theorem vS{shs:List Sheet}{l:List Node}(h:zL shs l):∀k,(((shs.zip l).zipIdx k).flatMap fun(x:(Sheet×Node)×Nat)=>(x.1.2.cuts (Gla.whole x.1.1)).map fun(c:List Nat)=>x.2::c).flatMap (fun(c:List Nat)=>c)=(fC k shs l).flatMap ie:=by
 induction h with
 | nil=>intro k;rfl
 | @cons s r n l h t ih =>
  intro k;have e1:=gd k n _ h;unfold ag5 at e1;rw[DC,DC] at e1;rw[Co,Dr,Cw,Bc,ih (k+1)];show _=(flat k n _++fC (k+1) r l).flatMap ie;rw[Bc,← e1];rfl
end Gs
namespace Gs
open PySem PySem.Spec PyProof.Rows L2
open Gla (Item Sheet Fault Node)
def aec(x:List Int×List Item×List Sheet)(row:List Nat):List Int:=match x.1 with
 | z::r=>z::r
 | []=>match Gla.judgeLayout x.2.1 x.2.2 row with
  | .error e=>[-3,(e.place:Int)]
  | .ok _=>[]
def adU(x:List Int×List Item×List Sheet)(row:List Nat):List FNd:=match x.1 with
 | _::_=>[]
 | []=>match Gla.judgeLayout x.2.1 x.2.2 row with
  | .error _=>[]
  | .ok l=>fC 0 x.2.2 l
theorem agx{x:List Int×List Item×List Sheet}{row:List Nat}(h:aec x row=[]):∃l,x.1=[]∧Gla.judgeLayout x.2.1 x.2.2 row=.ok l∧adU x row=fC 0 x.2.2 l:=by
 unfold aec at h;unfold adU;cases h1:x.1 with
 | cons z r=>rw[h1] at h;cases h
 | nil =>
  rw[h1] at h;cases h2:Gla.judgeLayout x.2.1 x.2.2 row with
  | error e=>rw[h2] at h;cases h
  | ok l=>exact⟨l,rfl,rfl,rfl⟩
section
variable {P:Program}{w:World}{K:DG}{mg:DH}{base:Heap}{ad:Adr}{a2:kx}{a3:Addr}
def lJ:List V→List (Str×V)
 | [v1,v2]=>[("refusal",v1),("nodes",v2)]
 | _=>[]
abbrev lZ:Stmt:=(inClass (top 95) 0)
theorem qX:bG ["self","refusal","nodes"] ["self","refusal","nodes"] (aE lZ):=fsc
theorem yj(D:mf K mg "Layout" "Layout.__init__" a3 lZ ["self","refusal","nodes"] ["refusal","nodes"]):Kl P w K mg base 1 "Layout" a3 2 lJ:=by
 have nd:=qX.nd;refine D.kl (n:=2) qX rfl (fun f cdv A outer s H p dx us Q E hr hl hp k => ?_);obtain⟨v1,v2,rfl⟩:=us2 hl;refine⟨_,(aA (bq (pv 0) (pv 1) rfl) (aF (bq (pv 0) (pv 2) rfl))),?_⟩;refine⟨_,rfl,_,rfl,p,_,dx,_,rfl,hp,D.cl,D.no _ (by decide +kernel),A1 rfl,?_⟩
 iterate 1 (refine⟨_,rfl,_,rfl,p,_,dx,_,rfl,ag,D.cl,D.no _ (by decide +kernel),A1 rfl,?_⟩;rw[bQ])
 exact k
structure afM(a2:kx)(a3:Addr)(H:Hp)(c:Addr)(rf:List Int)(ns:List FNd)(lr ln:Addr):Prop where
 ob:∃dx,H c=some (.ins a3 dx [("refusal",.ref lr),("nodes",.ref ln)])
 rf:H lr=some (.lst (rf.map V.int))
 nd:∃pn,LO (qE a2) H ln ns pn
theorem n6(H H':Hp)(p:Addr)(x:FNd)(s:aL H H')(r:qE a2 H p x):qE a2 H' p x:=let ⟨p',l',na⟩:=r;⟨p',l',na.same s⟩
theorem rY{H:Hp}{Q:VK}{lr ln:Addr}{rf:List Int}{ns:List FNd}{pn:List Addr}(hb:H lr=some (.lst (rf.map V.int)))(hn:LO (qE a2) H ln ns pn)(q:∀H' c lr ln,aL H H'→afM a2 a3 H' c rf ns lr ln→Q (.ref c) H') :
  ∀x dx,H x=Option.none→H dx=Option.none→dx≠x→Q (.ref x) (upd (upd H dx (.own x)) x (.ins a3 dx (lJ [.ref lr,.ref ln]))):=by
 intro x dx nx ndx ne;have s1:aL H (upd (upd H dx (.own x)) x (.ins a3 dx (lJ [.ref lr,.ref ln]))):=(ah ndx).trans (ah (by rw[az (Ne.symm ne)];exact nx));exact q _ x lr ln s1 ⟨⟨dx,ag⟩,s1 _ _ hb,pn,hn.same n6 s1⟩
inductive adR(K:DG)(ad:Adr)(a2:kx)(a3:Addr)(vs:List V)(H:Hp)(Q:VK)(E:XK):Prop
 | mk (o ra lr lb ls:Addr) (x:List Int×List Item×List Sheet) (row:List Nat) (c0:vs=[.ref o,.ref ra]) (c1:abF ad H o x lr lb ls) (c2:ab2 K H ra row) (c3:row.length<60000) (c4:x.2.1.length<65536) (c5:∀H' c lr ln,aL H H'→afM a2 a3 H' c (aec x row) (adU x row) lr ln→Q (.ref c) H'):adR K ad a2 a3 vs H Q E
abbrev agU:Stmt:=(top 97)
theorem afn(D:Def K mg "look_at_row" agU ["order","row"])(T:Txt K mg ad)(T3:rS K mg a2)(kL:Fn P w K mg base 5 "read_row" ["blanks","sheets","row"] (adP K ad a2))(jJ:Kl P w K mg base 1 "Layout" a3 2 lJ):Fn P w K mg base 6 "look_at_row" ["order","row"] (adR K ad a2 a3):=by
 refine D.fx ["order","row","reading"] ?_;rintro nd f cdv A outer s H vs Q E hr ⟨o,ra,lr,lb,ls,x,row,rfl,oa,hR,hrow,hlen,q⟩;refine⟨_,(kxf (aS (ay (pv 0) rfl) (fun _=>rfl)) (kxK jJ hr (ab (ay (pv 0) rfl) (ab (aG ak) ak))) (kxs 2 nd (kxF kL hr (ab (ay (pv 0) rfl) (ab (ay (pv 0) rfl) (ab (pv 1) ak)))) (kxf (aS (ay (pv 2) rfl) (fun _=>rfl)) (kxK jJ hr (ab (aG (ab (wO rH ao) (ab (kxI (ay (pv 2) rfl) ao) ak))) (ab (aG ak) ak))) (kxr (kxK jJ hr (ab (aG ak) (ab (ay (pv 2) rfl) ak))))))),?_⟩;obtain⟨dx,ob⟩:=oa.ob;have rf:=oa.rf;unfold aec adU at q;cases h1:x.1 with
 | cons z t =>
  rw[h1] at rf q;refine⟨_,rfl,fl ob T.order rfl ⟨_,.inl ⟨_,SqL.of rf,rfl⟩,f6 ⟨_,rfl,fl ob T.order rfl ⟨Av _,fun ln hln=>ro rfl ?_⟩⟩⟩⟩;have s1:=ah (o:=.lst []) hln;exact rY (s1 _ _ rf) (.nil ag) fun H2 c lr ln s2 la=>q H2 c lr ln (s1.trans s2) la
 | nil =>
  rw[h1] at rf q;obtain⟨pb,bl⟩:=oa.bl;obtain⟨ps,sl⟩:=oa.sh;refine⟨_,rfl,fl ob T.order rfl ⟨_,.inl ⟨_,SqL.of rf,rfl⟩,fS ?_⟩⟩;refine⟨_,rfl,fl ob T.order rfl ⟨_,rfl,fl ob T.order rfl ⟨_,rfl,_,_,row,lb,ls,ra,rfl,⟨pb,bl⟩,⟨ps,sl⟩,hR,hrow,hlen,fun H3 c lb2 ln s3 us rd => ?_⟩⟩⟩;obtain⟨dx3,ob3⟩:=rd.ob;obtain⟨e1,e2⟩:=aeg us;have br:=rd.br;rw[e1] at br;unfold ahP at br;cases hj:Gla.judgeLayout x.2.1 x.2.2 row with
  | error e =>
   rw[hj] at br q;refine⟨_,rfl,fl ob3 T3.reading rfl ⟨_,.inl ⟨_,SqL.of br,rfl⟩,f6 ?_⟩⟩;refine⟨_,rfl,_,rfl,fl ob3 T3.reading rfl ⟨lb2,_,_,_,rfl,rfl,SqL.of br,at_of (j:=1) rfl rfl,by show 2≤sizeLine;decide,fun lr hlr=>⟨Av _,fun ln hln=>ro rfl ?_⟩⟩⟩;have s4:=ah (o:=.lst [.int (-3),.int (e.place:Int)]) hlr;have s5:=ah (o:=.lst []) hln;exact rY (rf := [-3,(e.place:Int)]) (s5 _ _ ag) (.nil ag) fun H2 c lr ln s2 la=>q H2 c lr ln (s3.trans (s4.trans (s5.trans s2))) la
  | ok l =>
   rw[hj] at br q;obtain⟨pn,lo⟩:=rd.nd;rw[(e2 l hj).1] at lo;refine⟨_,rfl,fl ob3 T3.reading rfl ⟨_,.inl ⟨_,SqL.of br,rfl⟩,fS ?_⟩⟩;refine⟨Av _,fun lr hlr => ?_⟩;have s4:=ah (o:=.lst []) hlr;refine⟨_,rfl,fl (s4 _ _ ob3) T3.reading rfl (tf (ro (us := [.ref lr,.ref ln]) rfl ?_))⟩;exact rY (rf := []) ag (lo.same n6 s4) fun H2 c lr ln s2 la=>q H2 c lr ln (s3.trans (s4.trans s2)) la
end
def NsF(f:FNd):Prop:=f.ns=[0]∨(∃i t,f.ns=[1,i,t])∨(∃c,f.ns=[2,c])∨∃c,f.ns=[3,c]
theorem lQ(k:Nat):∀(n:Node) (r:Rc),∀f∈flat k n r,NsF f
 | .left,r,f,h=>by rw[List.mem_singleton.mp h];exact .inl rfl
 | .pane i t,r,f,h=>by rw[List.mem_singleton.mp h];exact .inr (.inl ⟨_,_,rfl⟩)
 | .upright c a b,r,f,h=>by
  rcases List.mem_cons.mp h with e|h
  ·rw[e];exact .inr (.inr (.inl ⟨_,rfl⟩))
  ·rcases List.mem_append.mp h with h|h
   ·exact lQ k a _ f h
   ·exact lQ k b _ f h
 | .level c a b,r,f,h=>by
  rcases List.mem_cons.mp h with e|h
  ·rw[e];exact .inr (.inr (.inr ⟨_,rfl⟩))
  ·rcases List.mem_append.mp h with h|h
   ·exact lQ k a _ f h
   ·exact lQ k b _ f h
theorem vn:∀(k:Nat) (shs:List Sheet) (l:List Node),∀f∈fC k shs l,NsF f
 | k,[],l,f,h=>by unfold fC at h;cases h
 | k,s::r,[],f,h=>by unfold fC at h;cases h
 | k,s::r,n::l,f,h=>by
  rcases List.mem_append.mp (show f∈flat k n _++fC (k+1) r l from h) with h|h
  ·exact lQ k n _ f h
  ·exact vn (k+1) r l f h
theorem hd0{f:FNd}(h:NsF f):(iv f.ns)[0]? = some (.int ((f.ns.headD 0:Nat):Int)):=by
 rcases h with e|⟨i,t,e⟩|⟨c,e⟩|⟨c,e⟩ <;> rw[e] <;> rfl
theorem af8{f:FNd}(h:NsF f)(e:f.ns.headD 0=2):∃c,f.ns=[2,c]:=by
 rcases h with z|⟨i,t,z⟩|⟨c,z⟩|⟨c,z⟩ <;> rw[z] at e <;> first|exact⟨c,z⟩|(simp at e)
theorem aaU{f:FNd}(h:NsF f)(e:f.ns.headD 0=3):∃c,f.ns=[3,c]:=by
 rcases h with z|⟨i,t,z⟩|⟨c,z⟩|⟨c,z⟩ <;> rw[z] at e <;> first|exact⟨c,z⟩|(simp at e)
section
variable {P:Program}{w:World}{K:DG}{mg:DH}{base:Heap}{ad:Adr}{a2:kx}{a3:Addr}
inductive zQ(a2:kx)(g:Rc→Nat→List Nat)(vs:List V)(H:Hp)(Q:VK)(E:XK):Prop
 | mk (p:Addr) (r:Rc) (c:Nat) (c0:vs=[.ref p,.int (c:Int)]) (c1:bM a2 H p r) (c2:∀H' l,aL H H'→H' l=some (.lst (iv (g r c)))→Q (.ref l) H'):zQ a2 g vs H Q E
abbrev gUe(r:Rc)(c:Nat):List Nat := [r.x+c,r.y,r.x+c,r.y+r.h]
abbrev gLe(r:Rc)(c:Nat):List Nat := [r.x,r.y+c,r.x+r.w,r.y+c]
abbrev aim:Stmt:=(top 59)
theorem aht(D:Def K mg "upright_ends" aim ["piece","cut"])(T3:rS K mg a2):Fn P w K mg base 1 "upright_ends" ["piece","cut"] (zQ a2 gUe):=by
 refine D.fx ["piece","cut"] ?_;rintro nd f cdv A outer s H vs Q E hr ⟨p,r,c,rfl,⟨dx,hp⟩,q⟩;refine⟨_,(kxr (aG (ab (aP aT (ay (pv 0) rfl) (pv 1)) (ab (ay (pv 0) rfl) (ab (aP aT (ay (pv 0) rfl) (pv 1)) (ab (aP aT (ay (pv 0) rfl) (ay (pv 0) rfl)) ak)))))),?_⟩;exact⟨_,rfl,fl hp T3.piece abX ⟨_,rfl,_,_,rfl,rfl,_,rfl,fl hp T3.piece aca ⟨_,rfl,fl hp T3.piece abX ⟨_,rfl,_,_,rfl,rfl,_,rfl,fl hp T3.piece aca ⟨_,rfl,fl hp T3.piece adu ⟨_,_,rfl,rfl,by show 4≤sizeLine;decide,fun l hl=>q _ l (ah hl) ag⟩⟩⟩⟩⟩⟩
abbrev ais:Stmt:=(top 60)
theorem ahL(D:Def K mg "level_ends" ais ["piece","cut"])(T3:rS K mg a2):Fn P w K mg base 1 "level_ends" ["piece","cut"] (zQ a2 gLe):=by
 refine D.fx ["piece","cut"] ?_;rintro nd f cdv A outer s H vs Q E hr ⟨p,r,c,rfl,⟨dx,hp⟩,q⟩;refine⟨_,(kxr (aG (ab (ay (pv 0) rfl) (ab (aP aT (ay (pv 0) rfl) (pv 1)) (ab (aP aT (ay (pv 0) rfl) (ay (pv 0) rfl)) (ab (aP aT (ay (pv 0) rfl) (pv 1)) ak)))))),?_⟩;exact⟨_,rfl,fl hp T3.piece abX ⟨_,rfl,fl hp T3.piece aca ⟨_,rfl,_,_,rfl,rfl,_,rfl,fl hp T3.piece abX ⟨_,rfl,fl hp T3.piece aen ⟨_,_,rfl,rfl,_,rfl,fl hp T3.piece aca ⟨_,rfl,_,_,rfl,rfl,by show 4≤sizeLine;decide,fun l hl=>q _ l (ah hl) ag⟩⟩⟩⟩⟩⟩
inductive adI(a2:kx)(vs:List V)(H:Hp)(Q:VK)(E:XK):Prop
 | mk (ln:Addr) (ns:List FNd) (pn:List Addr) (c0:vs=[.ref ln]) (c1:LO (qE a2) H ln ns pn) (c2:∀f∈ns,NsF f) (c3:ns.length<60000) (c4:∀H' l,aL H H'→H' l=some (.lst (iv (ns.flatMap ie)))→Q (.ref l) H'):adI a2 vs H Q E
theorem pS(f:FNd):(ie f).length≤5:=by
 unfold ie
 split <;> first|exact Ae _|exact Av _
theorem pW:∀ns:List FNd,(ns.flatMap ie).length≤5*ns.length
 | []=>Ae _
 | f::r=>by
  rw[Cw,Ai,Aq];have:=pS f;have:=pW r;omega
abbrev afH:Stmt:=(top 78)
theorem afq(D:Def K mg "cuts_of" afH ["nodes"])(T3:rS K mg a2)(eM:Fn P w K mg base 1 "upright_ends" ["piece","cut"] (zQ a2 gUe))(gN:Fn P w K mg base 1 "level_ends" ["piece","cut"] (zQ a2 gLe)):Fn P w K mg base 2 "cuts_of" ["nodes"] (adI a2):=by
 refine D.fx ["nodes","numbers","node"] ?_;rintro nd f cdv A outer s H vs Q E hr ⟨ln,ns,pn,rfl,lo,hf,hn,q⟩;refine⟨_,(kxs 1 nd (aG ak) (aA (bC PassesOwn.never rfl (bU (pv 0)) (kxo 2 nd) (aA (di (kxq (kxI (ay (pv 2) rfl) ao) (kxG T3.bO)) (aF (iM (kxX (pv 1) (aP qN (aG (ab (ay (pv 2) rfl) ak)) (kxF eM hr (ab (ay (pv 2) rfl) (ab (kxI (ay (pv 2) rfl) ao) ak))))))) bb) (aF (di (kxq (kxI (ay (pv 2) rfl) ao) (kxG T3.cw)) (aF (iM (kxX (pv 1) (aP qN (aG (ab (ay (pv 2) rfl) ak)) (kxF gN hr (ab (ay (pv 2) rfl) (ab (kxI (ay (pv 2) rfl) ao) ak))))))) bb)))) (kxr (pv 1)))),?_⟩;refine⟨Av _,fun l hl => ?_⟩;have s1:=ah (o:=.lst []) hl;have hl1:(upd H l (.lst [])) l=some (.lst []):=ag;generalize upd H l (.lst [])=H1 at *
 refine⟨_,rfl,ln,rfl,⟨_,SqL.of (s1 _ _ lo.lst)⟩,dE (K:=K) (a:=ln) (xs:=pn.map V.ref) (fun i σ H'=>(∃v,σ=[some (.ref ln),some (.ref l),v])∧aL H H'∧H' l=some (.lst (iv ((ns.take i).flatMap ie)))) ⟨⟨_,rfl⟩,s1,hl1⟩ (fun i σ H' _ ⟨_,e,_⟩=>SqL.of (e _ _ lo.lst)) ?_ ?_⟩
 ·rintro i x σ H' hx ⟨⟨v,rfl⟩,sH,hl2⟩
  have hi:i<ns.length:=by
   have:=(List.getElem?_eq_some_iff.mp hx).1;rw[Ab,lo.len] at this;exact this
  obtain⟨n,en,p,lz,na⟩:=lo.get (Aa hi);rw[en] at hx;obtain rfl:=Ac hx;have hN:=hf _ (Bb hi);have tk:(ns.take (i+1)).flatMap ie=(ns.take i).flatMap ie++ie ns[i]:=by
   rw[take_snoc (Aa hi),Bc];show _++(ie ns[i]++[])=_;rw[AR]
  have lc:((ns.take i).flatMap ie).length≤5*i:=by
   have:=pW (ns.take i);rw[A2] at this;omega
  rw[tk];generalize (ns.take i).flatMap ie=cs at *
  generalize ns[i]=g at *
  have g0:=hd0 hN;have hz:∀{H9:Hp} {l2:Addr} {zs:List Nat},aL H' H9→H9 l2=some (.lst (iv zs))→zs.length≤5→(iv cs).length+(iv zs).length≤sizeLine:=fun _ _ z=>by rw[ik,ik];show _≤2 ^ 24;omega
  obtain⟨dx,ob⟩:=(na.same sH).ob;refine⟨_,rfl,fl ob T3.node rfl ⟨lz,_,_,_,rfl,rfl,SqL.of (na.same sH).ns,at_of (j:=0) rfl g0,rfl,_,rfl,?_⟩⟩;rw[dn (g.ns.headD 0) 2 2 rfl]
  by_cases c2:g.ns.headD 0=2
  ·rw[Ak c2]
   obtain⟨c,ec⟩:=af8 hN c2;have g1:(iv g.ns)[1]? = some (.int (c:Int)):=by rw[ec];rfl
   have e1:ie g=g.sh::gUe g.rc c:=by unfold ie;rw[ec];rfl
   refine f6 ⟨_,rfl,.inl ⟨rfl,_,SqL.of hl2⟩,_,rfl,fl ob T3.node rfl ⟨by show 1≤sizeLine;decide,fun lq hlq => ?_⟩⟩;have s3:=ah (o:=.lst [.int (g.sh:Int)]) hlq;have hq3:(upd H' lq (.lst [.int (g.sh:Int)])) lq=some (.lst [.int (g.sh:Int)]):=ag;have ob3:=s3 _ _ ob;have na3:=(na.same sH).same s3;generalize upd H' lq (.lst [.int (g.sh:Int)])=H3 at *
   refine⟨_,rfl,fl ob3 T3.node rfl ⟨_,rfl,fl ob3 T3.node rfl ⟨lz,_,_,_,rfl,rfl,SqL.of na3.ns,at_of (j:=1) rfl g1,p,g.rc,c,rfl,na3.pc,fun H4 le s4 hle=>⟨lq,le,_,_,rfl,rfl,s4 _ _ hq3,hle,by show 5≤sizeLine;decide,fun lp hlp => ?_⟩⟩⟩⟩;have s5:=ah (o:=.lst ([.int (g.sh:Int)]++iv (gUe g.rc c))) hlp;have hp5:(upd H4 lp (.lst ([.int (g.sh:Int)]++iv (gUe g.rc c)))) lp=some (.lst (iv (ie g))):=by rw[ag,e1];rfl
   generalize upd H4 lp (.lst ([.int (g.sh:Int)]++iv (gUe g.rc c)))=H5 at *
   have s15:=s3.trans (s4.trans s5);refine⟨l,lp,_,_,rfl,rfl,s15 _ _ hl2,hp5,hz s15 hp5 (pS g),?_⟩;have s6:=aH (o:=.lst (iv cs++iv (ie g))) (sH.trans s15) hl;have hl6:(upd H5 l (.lst (iv cs++iv (ie g)))) l=some (.lst (iv (cs++ie g))):=by rw[ag];unfold iv;rw[As]
   generalize upd H5 l (.lst (iv cs++iv (ie g)))=H6 at *
   obtain⟨dx6,ob6⟩:=(na.same s6).ob;refine⟨_,rfl,fl ob6 T3.node rfl ⟨lz,_,_,_,rfl,rfl,SqL.of (na.same s6).ns,at_of (j:=0) rfl g0,rfl,_,rfl,?_⟩⟩;rw[dn (g.ns.headD 0) 3 3 rfl,Ax (by omega)];exact fS ⟨⟨_,rfl⟩,s6,hl6⟩
  ·rw[Ax c2]
   refine fS ⟨_,rfl,fl ob T3.node rfl ⟨lz,_,_,_,rfl,rfl,SqL.of (na.same sH).ns,at_of (j:=0) rfl g0,rfl,_,rfl,?_⟩⟩;rw[dn (g.ns.headD 0) 3 3 rfl]
   by_cases c3:g.ns.headD 0=3
   ·rw[Ak c3]
    obtain⟨c,ec⟩:=aaU hN c3;have g1:(iv g.ns)[1]? = some (.int (c:Int)):=by rw[ec];rfl
    have e1:ie g=g.sh::gLe g.rc c:=by unfold ie;rw[ec];rfl
    refine f6 ⟨_,rfl,.inl ⟨rfl,_,SqL.of hl2⟩,_,rfl,fl ob T3.node rfl ⟨by show 1≤sizeLine;decide,fun lq hlq => ?_⟩⟩;have s3:=ah (o:=.lst [.int (g.sh:Int)]) hlq;have hq3:(upd H' lq (.lst [.int (g.sh:Int)])) lq=some (.lst [.int (g.sh:Int)]):=ag;have ob3:=s3 _ _ ob;have na3:=(na.same sH).same s3;generalize upd H' lq (.lst [.int (g.sh:Int)])=H3 at *
    refine⟨_,rfl,fl ob3 T3.node rfl ⟨_,rfl,fl ob3 T3.node rfl ⟨lz,_,_,_,rfl,rfl,SqL.of na3.ns,at_of (j:=1) rfl g1,p,g.rc,c,rfl,na3.pc,fun H4 le s4 hle=>⟨lq,le,_,_,rfl,rfl,s4 _ _ hq3,hle,by show 5≤sizeLine;decide,fun lp hlp => ?_⟩⟩⟩⟩;have s5:=ah (o:=.lst ([.int (g.sh:Int)]++iv (gLe g.rc c))) hlp;have hp5:(upd H4 lp (.lst ([.int (g.sh:Int)]++iv (gLe g.rc c)))) lp=some (.lst (iv (ie g))):=by rw[ag,e1];rfl
    generalize upd H4 lp (.lst ([.int (g.sh:Int)]++iv (gLe g.rc c)))=H5 at *
    have s15:=s3.trans (s4.trans s5);refine⟨l,lp,_,_,rfl,rfl,s15 _ _ hl2,hp5,hz s15 hp5 (pS g),⟨_,rfl⟩,aH (sH.trans s15) hl,?_⟩;rw[ag];unfold iv;rw[As]
   ·rw[Ax c3]
    have e0:ie g=[]:=by
     unfold ie;rcases hN with e|⟨i,t,e⟩|⟨c,e⟩|⟨c,e⟩ <;> rw[e] at c2 c3 ⊢ <;> first|rfl|exact absurd rfl c2|exact absurd rfl c3
    rw[e0,AR];exact fS ⟨⟨_,rfl⟩,sH,hl2⟩
 ·rintro σ H' ⟨⟨v,rfl⟩,sH,hl2⟩
  rw[Ab,lo.len,Bm] at hl2;exact⟨_,rfl,q H' l sH hl2⟩
def aaF(m:Nat)(b:List UInt8)(shs:List Sheet)(row:List Nat):List Int:=match aec (d7 m b shs) row with
 | z::r=>z::r
 | []=>0::(((adU (d7 m b shs) row).flatMap ie).length:Int)::((adU (d7 m b shs) row).flatMap ie).map fun(n:Nat)=>(n:Int)
inductive qI(K:DG)(vs:List V)(H:Hp)(Q:VK)(E:XK):Prop
 | mk (m:Nat) (a sa ra:Addr) (b:List UInt8) (ns:List Int) (shs:List Sheet) (row:List Nat) (c0:vs=[.int (m:Int),.ref a,.ref sa,.ref ra]) (c1:SqL K H a ((bz b).map V.int)) (c2:SqL K H sa (ns.map V.int)) (c3:SheetNeutral.sheets ns=some shs) (c4:ab2 K H ra row) (c5:row.length<60000) (c6:∀H' l,aL H H'→H' l=some (.lst ((aaF m b shs row).map V.int))→Q (.ref l) H'):qI K vs H Q E
abbrev oh:Stmt:=(top 98)
theorem adq{f:Addr}{fd:FuncData}(F:Fun K "cuts" "cuts" oh f fd)(T:Txt K mg ad)(T4:Fl K a3 ["refusal","nodes"])(aap:Fn P w K mg base 11 "look" ["margin","cartoon","sheet_numbers"] (wN K ad))(fP:Fn P w K mg base 6 "look_at_row" ["order","row"] (adR K ad a2 a3))(mW:Fn P w K mg base 2 "cuts_of" ["nodes"] (adI a2)):nB P w K mg base CX0 12 f fd ["margin","cartoon","sheets","row"] (qI K):=by
 refine Fun.fx F ["margin","cartoon","sheets","row","layout","numbers"] ?_;rintro nd cdv A outer s H vs Q E hr ⟨m,a,sa,ra,b,ns,shs,row,rfl,hA,hN,hs,hR,hrow,q⟩;refine⟨_,(kxs 4 nd (kxF fP hr (ab (kxF aap hr (ab (pv 0) (ab (pv 1) (ab (pv 2) ak)))) (ab (pv 3) ak))) (kxf (aS (ay (pv 4) rfl) (fun _=>rfl)) (ay (pv 4) rfl) (kxs 5 nd (kxF mW hr (ab (ay (pv 4) rfl) ak)) (kxr (aP qN (aG (ab ao (ab (kxL T.bD (pv 5)) ak))) (pv 5)))))),?_⟩;refine⟨_,rfl,_,rfl,_,rfl,m,a,sa,b,ns,shs,rfl,hA,hN,hs,fun H1 o lr lb ls s1 oa => ?_⟩;refine⟨_,rfl,o,ra,lr,lb,ls,_,row,rfl,oa,s1.seq hR,hrow,aa5 m b shs,fun H2 c lr ln s2 la => ?_⟩;obtain⟨dx,ob⟩:=la.ob;have rf:=la.rf;obtain⟨pn,lo⟩:=la.nd;unfold aaF at q;cases h1:aec (d7 m b shs) row with
 | cons z t =>
  rw[h1] at rf q;exact⟨_,rfl,fl ob T4 rfl ⟨_,.inl ⟨_,SqL.of rf,rfl⟩,f6 ⟨_,rfl,fl ob T4 rfl (q H2 lr (s1.trans s2) rf)⟩⟩⟩
 | nil =>
  rw[h1] at rf q;obtain⟨l,x1,hj,en⟩:=agx h1;have ft:=z9 _ _ _ _ _ _ (Av _) hj;have l0:=ft.2 0;rw[en] at lo q;have nl:(fC 0 (d7 m b shs).2.2 l).length<60000:=by omega
  have cl:=pW (fC 0 (d7 m b shs).2.2 l);refine⟨_,rfl,fl ob T4 rfl ⟨_,.inl ⟨_,SqL.of rf,rfl⟩,fS ?_⟩⟩;refine⟨_,rfl,fl ob T4 rfl ⟨ln,_,pn,rfl,lo,vn _ _ _,nl,fun H3 lc s3 hlc => ?_⟩⟩;generalize (fC 0 (d7 m b shs).2.2 l).flatMap ie=cs at *
  refine⟨_,rfl,lc,_,rfl,.inl (SqL.of hlc),by show 2≤sizeLine;decide,fun l2 hl2 => ?_⟩;have s4:=ah (o:=.lst [.int 0,.int ((iv cs).length:Int)]) hl2;refine⟨_,rfl,l2,lc,_,_,rfl,rfl,ag,s4 _ _ hlc,?_,fun p hp=>q _ p (s1.trans (s2.trans (s3.trans (s4.trans (ah hp))))) ?_⟩
  ·rw[ik];show 2+cs.length≤2 ^ 24;omega
  ·rw[ag,ik,aah]
   rfl
end
theorem wB{m:Int}{p s r:List Int}(h:PyYqglea.cuts_asked m p s r=true):∃(m':Nat) (b:List UInt8) (shs:List Sheet) (row:List Nat),m=(m':Int)∧p=bz b∧SheetNeutral.sheets s=some shs∧r=row.map fun(n:Nat)=>(n:Int):=by
 unfold PyYqglea.cuts_asked SheetNeutral.asked at h;rw[Ar,Ar,Dd,Ar] at h;have h1:(p.all (fun(z:Int)=>SheetNeutral.natural z 8)&&SheetNeutral.whole m&&(SheetNeutral.sheets s).isSome&&r.all SheetNeutral.whole)=true:=h.2.1.1;rw[Ar,Ar,Ar] at h1;obtain⟨b,hb⟩:=ahw h1.1.1.1;obtain⟨row,hr⟩:=afi h1.2;obtain⟨shs,hs⟩:=Option.isSome_iff_exists.mp h1.1.2;have hm:=Al h1.1.1.2;exact⟨m.toNat,b,shs,row,by omega,hb,hs,hr⟩
theorem aaa(m:Nat)(b:List UInt8){s:List Int}{shs:List Sheet}(hs:SheetNeutral.sheets s=some shs)(row:List Nat):PyYqglea.cuts (m:Int) (bz b) s (row.map fun(n:Nat)=>(n:Int))=aaF m b shs row:=by
 have ec:SheetNeutral.callOf [[4,(m:Int)],bz b,s,row.map fun(n:Nat)=>(n:Int)]=some (.cuts b m shs row):=by
  show(do some (GlaSheets.Call.cuts (← SheetNeutral.bytes (bz b)) (← SheetNeutral.nat (m:Int)) (← SheetNeutral.sheets s) (← (row.map fun(n:Nat)=>(n:Int)).mapM SheetNeutral.nat)))=_;rw[abC,acA,hs,aei];rfl
 unfold PyYqglea.cuts SheetNeutral.f;rw[ec];show SheetNeutral.told (GlaSheets.answer (.cuts b m shs row))=_;unfold GlaSheets.answer GlaSheets.asked GlaSheets.MARGIN aaF aec adU d7;show SheetNeutral.told (if decide (m≤65535)=false then _ else GlaSheets.opened b shs _)=_
 by_cases h1:65535<m
 ·have hd:decide (m≤65535)=false:=Ax (by omega)
  rw[Ag h1,Ag hd];rfl
 have hd:¬(decide (m≤65535)=false):=by rw[Ak (by omega)];exact Bool.noConfusion
 rw[Ad hd,Ad h1];unfold GlaSheets.opened GlaSheets.BYTES GlaSheets.MOST
 by_cases h2:131072<b.length∨1024<shs.length
 ·rw[Ag h2,Ag h2]
  rfl
 rw[Ad h2,Ad h2];cases hj:Gla.judgePlan b with
 | error e0=>rfl
 | ok S =>
  cases hw:Gla.firstAt (fun(_:Nat) (x:Gla.Sheet) => !x.ok) shs with
  | some k=>rfl
  | none =>
   dsimp only;unfold GlaSheets.laidOut;cases hl:Gla.judgeLayout (Gla.itemsOf S m) shs row with
   | error e=>rfl
   | ok l =>
    dsimp only;have e1:=vS (z9 _ _ _ _ _ _ (Av _) hl).1 0;have e2:(Gla.cutsOf shs l).flatMap (fun(c:List Nat)=>c)=(fC 0 shs l).flatMap ie:=e1;rw[e2];show 0::((((fC 0 shs l).flatMap ie).map fun(n:Nat)=>(n:Int)).length:Int)::_=_;rw[Ab];rfl
end Gs
namespace Gs
open PySem PySem.Spec PyProof.Rows L2
section
variable {K:DG}{h:Heap}{mg:DH}
theorem ab0{x:Str}{st:Stmt}{ps:List Str}{f:Addr}{od an:Option Addr}{sl:Array (Option Value)}{oc kV dc pm cd ct:Value}(X:K.In h)(G:h.Ns mainGlobals mg)(a:PySem.W.nsIn K mainGlobals x=some (some (.ref f)))
  (l:K.lookup f=some ⟨oc,od,.func (PySem.W.fnOf x x (dJ st) (bT st) (aE st) .none kV dc pm an cd ct),sl⟩) (c:PySem.W.codeIn K cd x=true) (k:PySem.W.keepIn K (.ref f)=true)
  (hb:∀(kV doc pm:Value) (an:Option Addr) (cdv ct:Value) (us:List Value),us.length=ps.length→bindArgs (PySem.W.fnOf x x (dJ st) (bT st) (aE st) .none kV doc pm an cdv ct) ⟨us,[]⟩=pure (ps.zip us)):Def K mg x st ps :=
 ⟨f,_,l8 l c k,PySem.W.mg_of X G a,(l8 l c k).binds hb⟩
theorem aem{C:Addr}{m q:Str}{st:Stmt}{ps:List Str}{f:Addr}{od an:Option Addr}{sl:Array (Option Value)}{oc kV dc pm cd ct:Value}(a:PySem.W.findIn K (.ref C) m=some (some (.ref f)))(i:PySem.W.isFn K (.ref f)=true)
  (l:K.lookup f=some ⟨oc,od,.func (PySem.W.fnOf m q (dJ st) (bT st) (aE st) .none kV dc pm an cd ct),sl⟩) (c:PySem.W.codeIn K cd q=true) (k:PySem.W.keepIn K (.ref f)=true)
  (hb:∀(kV doc pm:Value) (an:Option Addr) (cdv ct:Value) (us:List Value),us.length=ps.length→bindArgs (PySem.W.fnOf m q (dJ st) (bT st) (aE st) .none kV doc pm an cdv ct) ⟨us,[]⟩=pure (ps.zip us)):vN K C m q st ps :=
 ⟨f,_,l8 l c k,⟨a,i,k⟩,(l8 l c k).binds hb⟩
theorem gj{C:Addr}{x q:Str}{st:Stmt}{ps fs:List Str}{f:Addr}{od an:Option Addr}{sl:Array (Option Value)}{oc kV dc pm cd ct:Value}(X:K.In h)(G:h.Ns mainGlobals mg)(aC:PySem.W.nsIn K mainGlobals x=some (some (.ref C)))
  (a:PySem.W.findIn K (.ref C) "__init__" = some (some (.ref f))) (i:PySem.W.isFn K (.ref f)=true) (l:K.lookup f=some ⟨oc,od,.func (PySem.W.fnOf "__init__" q (dJ st) (bT st) (aE st) .none kV dc pm an cd ct),sl⟩)
  (c:PySem.W.codeIn K cd q=true) (k:PySem.W.keepIn K (.ref f)=true) (pg:PySem.W.plainGet K C Str.empty=true) (hd:PySem.W.hasDictIn K C=true) (po:PySem.W.plainOver K C=true)
  (sa:PySem.W.findIn K (.ref C) "__setattr__" = some (some (.builtin "object.__setattr__"))) (mk:PySem.W.makesIn K C=true) (kc:PySem.W.keepIn K (.ref C)=true) (no:∀f∈fs,fg K C f)
  (hb:∀(kV doc pm:Value) (an:Option Addr) (cdv ct:Value) (us:List Value),us.length=ps.length→bindArgs (PySem.W.fnOf "__init__" q (dJ st) (bT st) (aE st) .none kV doc pm an cdv ct) ⟨us,[]⟩=pure (ps.zip us)):mf K mg x q C st ps fs :=
 ⟨⟨pg,hd,po,sa⟩,PySem.W.mg_of X G aC,no,f,_,l8 l c k,⟨mk,a,i,kc⟩,(l8 l c k).binds hb⟩
theorem ab4{x:Str}{n:Int}{t:Tok}(X:K.In h)(G:h.Ns mainGlobals mg)(a:PySem.W.nsIn K mainGlobals x=some (some (.int n t))):iN mg x n:=⟨t,PySem.W.mg_of X G a⟩
theorem rp{a:Addr}{xs:List V}{od:Option Addr}{its:Array Value}{n:Nat}{sl:Array (Option Value)}(l:K.lookup a=some ⟨.type "tuple",od,.seq its n,sl⟩)(v:Vals xs its.toList)(z:its.size≤sizeLine):nA K a xs :=
 fun H=>.inr ⟨_,its,n,l,rfl,rfl,z,v⟩
theorem a9{C:Addr}{f:Str}{fs:List Str}(a:PySem.W.findIn K (.ref C) f=some none)(b:∀f∈fs,fg K C f):∀g∈f::fs,fg K C g:=fun g hg=>by
 rcases List.mem_cons.mp hg with rfl|hg
 ·exact a
 ·exact b g hg
theorem kT{C:Addr}:∀g∈([]:List Str),fg K C g:=fun g hg=>by simp at hg
end
section
variable {P:Program}{w:World}{K:DG}{mg:DH}{base:Heap}{ad:Adr}{a2:kx}{a3:Addr}
structure DS(K:DG)(mg:DH)(ad:Adr)(a2:kx)(a3:Addr):Prop where
 aaq:Def K mg "turn" ach ["p","q","r"]
 jK:Def K mg "is_between" rG ["value","one","other"]
 gO:Def K mg "comes_behind" uo ["point","last"]
 vv:Def K mg "is_on" aij ["r","p","q"]
 iC:Def K mg "read_number" aeY ["data","start","length"]
 kX:Def K mg "read_pair" acv ["data","start","length"]
 kY:Def K mg "read_mark" acS ["data","start"]
 kZ:Def K mg "told_size" abS ["data"]
 jL:Def K mg "judge_head" acp ["data"]
 ia:mf K mg "Drawing" "Drawing.__init__" ad.drawing xl ["self","width","height","points","lines","marks"] ["width","height","points","lines","marks"]
 iD:vN K ad.drawing "point_place" "Drawing.point_place" aiz ["self","k"]
 jM:vN K ad.drawing "line_place" "Drawing.line_place" aiL ["self","k"]
 jN:vN K ad.drawing "mark_place" "Drawing.mark_place" aiq ["self","k"]
 jO:vN K ad.drawing "byte_count" "Drawing.byte_count" aiI ["self"]
 gQ:Def K mg "read_drawing" aco ["data"]
 gR:Def K mg "is_more_left" acK ["points","here","there","other","best"]
 mX:Def K mg "leftmost" ain ["points","others","here","there"]
 iE:Def K mg "is_right_of" xt ["mark","p","q"]
 vw:Def K mg "parts" yE ["points","line","other"]
 oJ:Def K mg "crosses" yD ["points","line","other"]
 d5:Def K mg "has_point_on_it" afS ["points","line"]
 da:Def K mg "crosses_one_before" uO ["drawing","k"]
 gS:Def K mg "tangled_line" abW ["drawing"]
 d6:Def K mg "is_within_frame" yz ["drawing","mark"]
 gT:Def K mg "is_on_a_line" abZ ["drawing","mark"]
 jP:Def K mg "stray_mark" um ["drawing"]
 iF:Def K mg "stray_point" u9 ["drawing"]
 jQ:Def K mg "neighbours" afX ["drawing"]
 iG:Def K mg "loose_point" y8 ["drawing"]
 vx:Def K mg "reach" yW ["near","start","barred"]
 jR:Def K mg "lone_point" aci ["drawing"]
 k6:Def K mg "only_link" acL ["drawing"]
 jS:Def K mg "walk_round" acE ["points","near","first","second","walked"]
 vy:Def K mg "sides" yn ["points","outline"]
 dW:Def K mg "runs_to_the_left" acq ["points","outline"]
 k7:Def K mg "is_inside" afd ["mark","outline_sides"]
 fX:Def K mg "find_outlines" acf ["points","near"]
 oK:Def K mg "pane_of" ab8 ["mark","outlines_sides"]
 jT:Def K mg "stray_line" uu ["drawing"]
 gU:Def K mg "gap_in_frame" agI ["drawing"]
 fY:Def K mg "judge_drawing" agj ["drawing"]
 p7:mf K mg "Pane" "Pane.__init__" ad.pane sU ["self","glass","corners"] ["glass","corners"]
 ib:mf K mg "Cartoon" "Cartoon.__init__" ad.cartoon ki ["self","broken","panes"] ["broken","panes"]
 lK:mf K mg "Blank" "Blank.__init__" ad.blank o7 ["self","glass","width","height"] ["glass","width","height"]
 lL:mf K mg "Sheet" "Sheet.__init__" ad.sheet pZ ["self","glass","width","height","turns"] ["glass","width","height","turns"]
 lM:mf K mg "Order" "Order.__init__" ad.order pQ ["self","refusal","blanks","sheets"] ["refusal","blanks","sheets"]
 cj:Def K mg "give_marks_their_panes" acG ["drawing"]
 gV:Def K mg "read_cartoon" acs ["data"]
 mY:Def K mg "blank_of" agm ["pane","margin"]
 k8:Def K mg "is_length" afE ["number"]
 jU:Def K mg "read_sheet" aiD ["numbers","start"]
 iH:Def K mg "read_sheets" afw ["numbers"]
 dA:Def K mg "first_wrong_sheet" aih ["sheets"]
 aar:Def K mg "look" acP ["margin","cartoon","sheet_numbers"]
 lN:mf K mg "Piece" "Piece.__init__" a2.piece oR ["self","x","y","width","height"] ["x","y","width","height"]
 p8:mf K mg "Node" "Node.__init__" a2.node rW ["self","sheet_number","piece","numbers"] ["sheet_number","piece","numbers"]
 ic:mf K mg "Reading" "Reading.__init__" a2.reading ky ["self","broken","nodes"] ["broken","nodes"]
 k9:Def K mg "left_part" aeV ["piece","cut"]
 jV:Def K mg "right_part" afQ ["piece","cut"]
 jW:Def K mg "lower_part" afR ["piece","cut"]
 jX:Def K mg "upper_part" ae8 ["piece","cut"]
 mZ:Def K mg "parts_of" aiG ["node"]
 jY:Def K mg "judge_form" acJ ["row","start"]
 lg:Def K mg "judge_cut" agn ["row","start","piece"]
 aas:Def K mg "fits" afN ["blank","turned","piece"]
 gW:Def K mg "judge_placed" agr ["row","start","sheet","piece","blanks","placed"]
 lh:Def K mg "judge_end" ae5 ["row","end","blanks","placed"]
 jZ:Def K mg "judge_node" afO ["row","start","sheet","piece","blanks","placed"]
 m8:Def K mg "read_row" agK ["blanks","sheets","row"]
 j5:mf K mg "Layout" "Layout.__init__" a3 lZ ["self","refusal","nodes"] ["refusal","nodes"]
 iI:Def K mg "look_at_row" agU ["order","row"]
 gX:Def K mg "upright_ends" aim ["piece","cut"]
 j6:Def K mg "level_ends" ais ["piece","cut"]
 oM:Def K mg "cuts_of" afH ["nodes"]
theorem abL{f:Addr}{fd:FuncData}(T:Txt K mg ad)(T2:Txt2 K mg ad)(T3:rS K mg a2)
  (d:DS K mg ad a2 a3) (F:Fun K "cuts" "cuts" oh f fd):nB P w K mg base CX0 12 f fd ["margin","cartoon","sheets","row"] (qI K):=by
 have T4:Fl K a3 ["refusal","nodes"]:=⟨d.j5.cl,d.j5.no⟩;have dw:=acZ (P:=P) (w:=w) (base:=base) d.aaq;have d4:=vC (P:=P) (w:=w) (base:=base) d.jK T;have bP:=ym (P:=P) (w:=w) (base:=base) d.gO;have kF:=aho (P:=P) (w:=w) (base:=base) d.vv d4 dw;have aD:=ago (P:=P) (w:=w) (base:=base) d.iC T;have fI:=adb (P:=P) (w:=w) (base:=base) d.kX aD;have i8:=adE (P:=P) (w:=w) (base:=base) d.kY aD;have i7:=aeu (P:=P) (w:=w) (base:=base) d.kZ T aD;have gG:=ac0 (P:=P) (w:=w) (base:=base) d.jL T aD i7;have mT:=ac3 (P:=P) (w:=w) (base:=base) d.ia;have aK:=ahO (P:=P) (w:=w) (base:=base) d.iD T;have bj:=ahU (P:=P) (w:=w) (base:=base) d.jM T aK;have bo:=ahg (P:=P) (w:=w) (base:=base) d.jN T bj;have gF:=ahy (P:=P) (w:=w) (base:=base) d.jO T bo;have eG:=ads (P:=P) (w:=w) (base:=base) d.gQ T aD fI i8 mT;have eC:=ad3 (P:=P) (w:=w) (base:=base) d.gR dw;have kH:=ahi (P:=P) (w:=w) (base:=base) d.mX eC;have fJ:=abp (P:=P) (w:=w) (base:=base) d.iE dw;have p6:=abJ (P:=P) (w:=w) (base:=base) d.vw dw;have mU:=aaL (P:=P) (w:=w) (base:=base) d.oJ p6;have cQ:=afL (P:=P) (w:=w) (base:=base) d.d5 T kF;have b9:=zr (P:=P) (w:=w) (base:=base) d.da T mU;have eF:=adQ (P:=P) (w:=w) (base:=base) d.gS T cQ b9 bj;have cR:=abn (P:=P) (w:=w) (base:=base) d.d6 T;have eD:=ada (P:=P) (w:=w) (base:=base) d.gT T kF;have gE:=xP (P:=P) (w:=w) (base:=base) d.jP T cR eD bP bo;have fK:=xK (P:=P) (w:=w) (base:=base) d.iF T bP aK;have aW:=ae0 (P:=P) (w:=w) (base:=base) d.jQ T;have fL:=abb (P:=P) (w:=w) (base:=base) d.iG T aW aK;have kG:=abj (P:=P) (w:=w) (base:=base) d.vx;have gD:=ad9 (P:=P) (w:=w) (base:=base) d.jR T aW kG aK;have jb:=aey (P:=P) (w:=w) (base:=base) d.k6 T aW kG aK;have gA:=ac2 (P:=P) (w:=w) (base:=base) d.jS kH;have kI:=abg (P:=P) (w:=w) (base:=base) d.vy T;have cH:=acY (P:=P) (w:=w) (base:=base) d.dW kI;have i9:=afY (P:=P) (w:=w) (base:=base) d.k7 fJ;have dR:=ade (P:=P) (w:=w) (base:=base) d.fX T gA cH;have mV:=ad0 (P:=P) (w:=w) (base:=base) d.oK T i9;have gC:=xM (P:=P) (w:=w) (base:=base) d.jT T bj;have eE:=agR (P:=P) (w:=w) (base:=base) d.gU T;have dS:=afD (P:=P) (w:=w) (base:=base) d.fY T T2 fK gC eE eF fL gD jb gE;have aam:=adL (P:=P) (w:=w) (base:=base) d.p7;have cI:=wC (P:=P) (w:=w) (base:=base) d.ib;have t9:=aaO (P:=P) (w:=w) (base:=base) d.lK;have ub:=abM (P:=P) (w:=w) (base:=base) d.lL;have jc:=aaH (P:=P) (w:=w) (base:=base) d.lM;have bI:=aeC (P:=P) (w:=w) (base:=base) d.cj T dR aW kI mV bo gF cI aam;have eI:=acX (P:=P) (w:=w) (base:=base) d.gV gG eG dS bI cI;have kJ:=agu (P:=P) (w:=w) (base:=base) d.mY T t9;have fM:=af9 (P:=P) (w:=w) (base:=base) d.k8 T;have gH:=ag7 (P:=P) (w:=w) (base:=base) d.jU ub;have fN:=aga (P:=P) (w:=w) (base:=base) d.iH T gH;have cv:=ahh (P:=P) (w:=w) (base:=base) d.dA T fM;have aap:=ad6 (P:=P) (w:=w) (base:=base) d.aar T eI fN cv kJ jc;have cx:=aa7 (P:=P) (w:=w) (base:=base) d.lN;have aao:=adn (P:=P) (w:=w) (base:=base) d.p8;have jI:=vA (P:=P) (w:=w) (base:=base) d.ic;have je:=abi (P:=P) (w:=w) (base:=base) d.k9 T3 cx;have gI:=xG (P:=P) (w:=w) (base:=base) d.jV T3 cx
 have gJ:=adh (P:=P) (w:=w) (base:=base) d.jW T3 cx;have gK:=afJ (P:=P) (w:=w) (base:=base) d.jX T3 cx;have kK:=ahK (P:=P) (w:=w) (base:=base) d.mZ T3 je gI gJ gK;have gL:=acW (P:=P) (w:=w) (base:=base) d.jY T T3;have jf:=af7 (P:=P) (w:=w) (base:=base) d.lg T3;have aan:=afa (P:=P) (w:=w) (base:=base) d.aas T T3;have eJ:=afI (P:=P) (w:=w) (base:=base) d.gW T aan;have jg:=ae3 (P:=P) (w:=w) (base:=base) d.lh T;have gM:=afF (P:=P) (w:=w) (base:=base) d.jZ T3 gL eJ jf;have kL:=afb (P:=P) (w:=w) (base:=base) d.m8 T T3 gM jg kK cx aao jI;have jJ:=yj (P:=P) (w:=w) (base:=base) d.j5;have fP:=afn (P:=P) (w:=w) (base:=base) d.iI T T3 kL jJ;have eM:=aht (P:=P) (w:=w) (base:=base) d.gX T3;have gN:=ahL (P:=P) (w:=w) (base:=base) d.j6 T3;have mW:=afq (P:=P) (w:=w) (base:=base) d.oM T3 eM gN;exact adq F T T4 aap fP mW
end
theorem all_mk{P:Program}{w:World}{K:DG}{h:Heap}{mg:DH}{fa f:Addr}{rQ m9 gY nh aat ny uc ue uf aau acV rR ag6 a3 h0 h1 h2 h3 h4 h5 g0 g1 g2 g3 g4 g5 g6 g7:Addr}{od an:Option Addr}{sl:Array (Option Value)}{oc kV dc pm cd ct:Value}(X:K.In h)(G:h.Ns mainGlobals mg)(hfa:mg "cuts" = some (.ref fa))
  (d:DS K mg ⟨rQ,m9,gY,nh,aat,ny,uc,ue,uf⟩ ⟨aau,acV,rR,ag6⟩ a3)
  (aeH:mg "len" = none)
  (ug:mg "range" = none)
  (jh:mg "enumerate" = none)
  (aeI:mg "zip" = none)
  (kM:mg "reversed" = none)
  (aeJ:mg "min" = none)
  (aeK:mg "max" = none)
  (uh:mg "tuple" = none)
  (aav:mg "dict" = none)
  (aaw:mg "list" = none)
  (bg:iN mg "HEAD_SIZE" 20)
  (bL:iN mg "POINT_SIZE" 8)
  (bW:iN mg "LINE_SIZE" 4)
  (cq:iN mg "MARK_SIZE" 12)
  (cE:iN mg "MOST_LENGTH" 16777215)
  (cY:iN mg "MOST_GLASS" 65535)
  (bH:iN mg "SHEET_NUMBERS" 4)
  (cF:iN mg "MOST_MARGIN" 65535)
  (cZ:iN mg "MOST_BYTES" 131072)
  (cG:iN mg "MOST_SHEETS" 1024)
  (aax:mg "SIGN" = some (.ref rQ))
  (eO:mg "HEAD_NUMBERS" = some (.ref m9))
  (nz:mg "FINDERS" = some (.ref gY))
  (aay:nA K rQ [.int 71,.int 76,.int 65,.int 49])
  (ui:nA K m9 [.ref h0,.ref h1,.ref h2,.ref h3,.ref h4,.ref h5])
  (ah3:nA K h0 [.int 4,.int 4,.int 16,.int 1048575])
  (ah4:nA K h1 [.int 8,.int 4,.int 16,.int 1048575])
  (ah5:nA K h2 [.int 12,.int 2,.int 4,.int 4096])
  (ah6:nA K h3 [.int 14,.int 2,.int 4,.int 8192])
  (ah7:nA K h4 [.int 16,.int 2,.int 1,.int 2048])
  (ah8:nA K h5 [.int 18,.int 2,.int 0,.int 0])
  (aaz:nA K gY [.ref g0,.ref g1,.ref g2,.ref g3,.ref g4,.ref g5,.ref g6,.ref g7])
  (dU:iN mg "LEFT_OVER" 0)
  (fO:iN mg "PLACED" 1)
  (bO:iN mg "UPRIGHT_CUT" 2)
  (cw:iN mg "LEVEL_CUT" 3)
  (eQ:mg "NODE_NUMBERS" = some (.ref ag6))
  (ah9:nA K ag6 [.int 1,.int 3,.int 2,.int 2])
  (fQ:mg "stray_point" = some (.ref g0))
  (gZ:mg "stray_line" = some (.ref g1))
  (eS:mg "gap_in_frame" = some (.ref g2))
  (eU:mg "tangled_line" = some (.ref g3))
  (fR:mg "loose_point" = some (.ref g4))
  (g9:mg "lone_point" = some (.ref g5))
  (jj:mg "only_link" = some (.ref g6))
  (hG:mg "stray_mark" = some (.ref g7))
  (a:PySem.W.nsIn K mainGlobals "cuts" = some (some (.ref f))) (l:K.lookup f=some ⟨oc,od,.func (PySem.W.fnOf "cuts" "cuts" (dJ oh) (bT oh) (aE oh) .none kV dc pm an cd ct),sl⟩) (c:PySem.W.codeIn K cd "cuts" = true) (k:PySem.W.keepIn K (.ref f)=true) :
  ∃fd:FuncData,(∀(s:Shared) (us:List Value),us.length=(["margin","cartoon","sheets","row"]:List Str).length→BindsTo s fd ⟨us,[]⟩ ((["margin","cartoon","sheets","row"]:List Str).zip us))∧∀base:Heap,K.In base→base.Ns mainGlobals mg→nB P w K mg base CX0 12 fa fd ["margin","cartoon","sheets","row"] (qI K):=by
 have e:=hfa.symm.trans (PySem.W.mg_of X G a);cases e
 have T:Txt K mg ⟨rQ,m9,gY,nh,aat,ny,uc,ue,uf⟩:=⟨aeH,ug,jh,aeI,kM,aeJ,aeK,uh,aav,aaw,bg,bL,bW,cq,cE,cY,bH,cF,cZ,cG,⟨d.ia.cl,d.ia.no⟩,⟨d.p7.cl,d.p7.no⟩,⟨d.ib.cl,d.ib.no⟩,⟨d.lK.cl,d.lK.no⟩,⟨d.lL.cl,d.lL.no⟩,⟨d.lM.cl,d.lM.no⟩,aax,eO,aay,h0,h1,h2,h3,h4,h5,ui,ah3,ah4,ah5,ah6,ah7,ah8⟩;have T2:Txt2 K mg ⟨rQ,m9,gY,nh,aat,ny,uc,ue,uf⟩:=⟨nz,g0,g1,g2,g3,g4,g5,g6,g7,aaz,fQ,gZ,eS,eU,fR,g9,jj,hG⟩;have T3:rS K mg ⟨aau,acV,rR,ag6⟩:=⟨dU,fO,bO,cw,eQ,ah9,⟨d.lN.cl,d.lN.no⟩,⟨d.p8.cl,d.p8.no⟩,⟨d.ic.cl,d.ic.no⟩⟩;have F:=l8 (st:=oh) l c k;refine⟨_,fun s us hu => ?_,fun base _ _=>abL T T2 T3 d F⟩;obtain⟨_,_,_,_,rfl⟩:=us4 hu;exact .of_eq rfl
end Gs
namespace PySem.W.Fast
theorem tw18420456120069242917:True:=⟨⟩
theorem tw13627185590500763251:True:=⟨⟩
theorem tw18212571721635645145:True:=⟨⟩
theorem tw4050590370101255065:True:=⟨⟩
theorem tw14581994699099325537:True:=⟨⟩
theorem tw1776142986905060064:True:=⟨⟩
theorem tw18125773109246356319:True:=⟨⟩
theorem tw14626598995007108451:True:=⟨⟩
theorem tw7499299335575014206:True:=⟨⟩
theorem tw1322436615463987843:True:=⟨⟩
theorem tw481300913431249734:True:=⟨⟩
theorem tw5726786775465887152:True:=⟨⟩
theorem tw17698945516101358450:True:=⟨⟩
theorem tw16044934171478787331:True:=⟨⟩
theorem tw11495437218671329478:True:=⟨⟩
theorem tw4400293950743444208:True:=⟨⟩
theorem tw18396868531263750929:True:=⟨⟩
theorem tw3279319599105084720:True:=⟨⟩
theorem tw9718327565002136795:True:=⟨⟩
theorem tw1686680308791842369:True:=⟨⟩
theorem tw1879697522019380304:True:=⟨⟩
theorem tw14640613141619697695:True:=⟨⟩
theorem tw734194570938932047:True:=⟨⟩
theorem tw7184026810481296721:True:=⟨⟩
theorem tw5627286079497303744:True:=⟨⟩
theorem tw403688836153887617:True:=⟨⟩
theorem tw9203582541426530959:True:=⟨⟩
theorem tw9524249912983572672:True:=⟨⟩
theorem tw2115124905329803873:True:=⟨⟩
theorem tw998871346853057465:True:=⟨⟩
theorem tw8897490715302983083:True:=⟨⟩
theorem tw18151039765574217148:True:=⟨⟩
theorem tw14735174922619530990:True:=⟨⟩
theorem tw10161420038166715790:True:=⟨⟩
theorem tw5436066271729386998:True:=⟨⟩
theorem tw11682842147015177174:True:=⟨⟩
theorem tw1636718430728658498:True:=⟨⟩
theorem tw8216670124903776406:True:=⟨⟩
theorem tw15177621552952169598:True:=⟨⟩
theorem tw5971792041370893292:True:=⟨⟩
theorem tw8668455514518221667:True:=⟨⟩
theorem tw18085890204405220231:True:=⟨⟩
theorem tw9110000010917599778:True:=⟨⟩
theorem tw8530299116692918354:True:=⟨⟩
theorem tw4406438598542253492:True:=⟨⟩
theorem tw9367566110676683219:True:=⟨⟩
theorem tw2173560276413046417:True:=⟨⟩
theorem tw16748831343720325518:True:=⟨⟩
theorem tw15589798040211837952:True:=⟨⟩
theorem tw257676913544726789:True:=⟨⟩
theorem tw10536128333881509946:True:=⟨⟩
theorem tw2008395400484113560:True:=⟨⟩
theorem tw12779433570004485012:True:=⟨⟩
theorem tw8785124649213566184:True:=⟨⟩
theorem tw7771413666829981931:True:=⟨⟩
theorem tw3248764507985499632:True:=⟨⟩
theorem tw13384813516949781791:True:=⟨⟩
theorem tw4036027670948066250:True:=⟨⟩
theorem tw4199378784104387022:True:=⟨⟩
theorem tw7041372949841724562:True:=⟨⟩
theorem tw1775895746901883008:True:=⟨⟩
theorem tw10130984644989492049:True:=⟨⟩
theorem tw3002909579670227922:True:=⟨⟩
theorem tw18413843561100374072:True:=⟨⟩
theorem tw14261908239147469025:True:=⟨⟩
theorem tw3433078156633584323:True:=⟨⟩
theorem tw8372817371542841008:True:=⟨⟩
theorem tw3501278903155978205:True:=⟨⟩
theorem tw6649048358199584523:True:=⟨⟩
theorem tw14814118730609215007:True:=⟨⟩
theorem tw6742348820616367682:True:=⟨⟩
theorem tw3014763524351889214:True:=⟨⟩
theorem tw6991522160348565475:True:=⟨⟩
theorem tw8143459390874457529:True:=⟨⟩
theorem tw14335906221151039111:True:=⟨⟩
theorem tw5009620932031918702:True:=⟨⟩
theorem tw5304489923654666400:True:=⟨⟩
theorem tw15538386868104688225:True:=⟨⟩
theorem tw1184110542063856653:True:=⟨⟩
theorem tw13663919417413482713:True:=⟨⟩
theorem tw5928562546736470685:True:=⟨⟩
theorem tw11494872293779979301:True:=⟨⟩
theorem tw6613408820924320587:True:=⟨⟩
theorem tw8384132107191964812:True:=⟨⟩
theorem tw3513201088244462536:True:=⟨⟩
theorem tw13280649147924161055:True:=⟨⟩
theorem tw3891510298265698459:True:=⟨⟩
theorem tw3957538278736220453:True:=⟨⟩
theorem tw6059432179326612530:True:=⟨⟩
theorem tw4014822470329468701:True:=⟨⟩
theorem tw990315322184635572:True:=⟨⟩
theorem tw12336530065425559550:True:=⟨⟩
theorem tw4188868246255425806:True:=⟨⟩
theorem tw12132375961857515895:True:=⟨⟩
theorem tw8333222637306353161:True:=⟨⟩
theorem tw12998791660380300348:True:=⟨⟩
theorem tw5847294240336885729:True:=⟨⟩
theorem tw10006321469872716487:True:=⟨⟩
theorem tw14080837056716828476:True:=⟨⟩
theorem tw6995414063773985461:True:=⟨⟩
theorem tw1384488502338717238:True:=⟨⟩
theorem tw8442831139296775471:True:=⟨⟩
theorem tw11318439404093992950:True:=⟨⟩
theorem tw13410860395291040854:True:=⟨⟩
theorem tw4614065457771116770:True:=⟨⟩
theorem tw6395297812945129389:True:=⟨⟩
theorem tw16760733845915812856:True:=⟨⟩
theorem tw7377164406236818822:True:=⟨⟩
theorem tw17663459184212839482:True:=⟨⟩
theorem tw2116770676445537111:True:=⟨⟩
theorem tw9459713641014937523:True:=⟨⟩
theorem tw471652173736249600:True:=⟨⟩
theorem tw10582743902530541557:True:=⟨⟩
theorem tw760981262447887249:True:=⟨⟩
theorem tw1973737205524334486:True:=⟨⟩
theorem tw12961266514348557801:True:=⟨⟩
theorem tw7513113555166224969:True:=⟨⟩
theorem tw5074681413439994114:True:=⟨⟩
theorem tw12074051545304787747:True:=⟨⟩
theorem tw10947099442379375516:True:=⟨⟩
theorem tw11712178765826113238:True:=⟨⟩
theorem tw12656121456880345257:True:=⟨⟩
theorem tw5142268763908380656:True:=⟨⟩
theorem tw10680752685163534496:True:=⟨⟩
theorem tw13182712491446553501:True:=⟨⟩
theorem tw12684746196348964262:True:=⟨⟩
theorem tw1914681520543170222:True:=⟨⟩
theorem tw12795974362044555733:True:=⟨⟩
theorem tw1149579350476381370:True:=⟨⟩
theorem tw15011879100480807775:True:=⟨⟩
theorem tw6689506066704846027:True:=⟨⟩
theorem tw11854973453509115723:True:=⟨⟩
theorem tw6048199436353039913:True:=⟨⟩
theorem tw5483509633621343908:True:=⟨⟩
theorem tw6447320375174340327:True:=⟨⟩
theorem tw18185288620230923587:True:=⟨⟩
theorem tw147307477614042311:True:=⟨⟩
theorem tw7047318429013949987:True:=⟨⟩
theorem tw12723359776723553376:True:=⟨⟩
theorem tw17343331917291482184:True:=⟨⟩
theorem tw6702504395132172998:True:=⟨⟩
theorem tw12032484490902161059:True:=⟨⟩
theorem tw6349199911704219405:True:=⟨⟩
theorem tw11174025634347533810:True:=⟨⟩
theorem tw7871766982838511667:True:=⟨⟩
theorem tw5700803108679195724:True:=⟨⟩
theorem tw10018105738595606800:True:=⟨⟩
theorem tw8501790535623207514:True:=⟨⟩
theorem tw1822700303450697173:True:=⟨⟩
theorem tw15665981813392232425:True:=⟨⟩
theorem tw9855488116218491321:True:=⟨⟩
theorem tw6254061245850410528:True:=⟨⟩
theorem tw6794816287292290455:True:=⟨⟩
theorem tw5182217695705574689:True:=⟨⟩
theorem tw14095614272018446416:True:=⟨⟩
theorem tw8269328942382634765:True:=⟨⟩
theorem tw8085517246216209757:True:=⟨⟩
theorem tw16898176091120835460:True:=⟨⟩
theorem tw12979555683148344399:True:=⟨⟩
theorem tw15255124956895155776:True:=⟨⟩
theorem tw18204028294001213442:True:=⟨⟩
theorem tw15867266717539629411:True:=⟨⟩
theorem tw13678687984675016001:True:=⟨⟩
theorem tw16793047379925760658:True:=⟨⟩
theorem tw14484328058527255820:True:=⟨⟩
theorem tw358442252573441282:True:=⟨⟩
theorem tw8988605192304379803:True:=⟨⟩
theorem tw1601631867674850884:True:=⟨⟩
theorem tw15547254415489731165:True:=⟨⟩
theorem tw15575433681420661014:True:=⟨⟩
theorem tw5185751913980880277:True:=⟨⟩
theorem tw3908283460118470883:True:=⟨⟩
theorem tw2368980482840551087:True:=⟨⟩
theorem tw17144623387560697284:True:=⟨⟩
theorem tw9898556546580391819:True:=⟨⟩
theorem tw8262832926514606046:True:=⟨⟩
theorem tw17896040280956032909:True:=⟨⟩
theorem tw3781918434902766811:True:=⟨⟩
theorem tw12495085200992788235:True:=⟨⟩
theorem tw12955810046660238620:True:=⟨⟩
theorem tw10221859439706608058:True:=⟨⟩
theorem tw10509487795455976512:True:=⟨⟩
theorem tw2043072811460922471:True:=⟨⟩
theorem tw7782718644516886011:True:=⟨⟩
theorem tw12591664245004758005:True:=⟨⟩
theorem tw10278777051235191824:True:=⟨⟩
theorem tw10855635792982650735:True:=⟨⟩
theorem tw14825518327479044747:True:=⟨⟩
theorem tw17732707733519303663:True:=⟨⟩
theorem tw9693676670422161985:True:=⟨⟩
theorem tw9001852841068388314:True:=⟨⟩
theorem tw17644120346675572448:True:=⟨⟩
theorem tw2307906853593821452:True:=⟨⟩
theorem tw991470754663803142:True:=⟨⟩
theorem tw12567624035071925731:True:=⟨⟩
theorem tw4376670523269779875:True:=⟨⟩
theorem tw4866554876165899406:True:=⟨⟩
theorem tw2455287201740498858:True:=⟨⟩
theorem tw15493111965051620525:True:=⟨⟩
theorem tw1897643254245173727:True:=⟨⟩
theorem tw12624306457933638589:True:=⟨⟩
theorem tw1296608326474668573:True:=⟨⟩
theorem tw1857571239468862202:True:=⟨⟩
theorem tw4630922566128331210:True:=⟨⟩
theorem tw16954011663831751190:True:=⟨⟩
theorem tw2244258697890406949:True:=⟨⟩
theorem tw14299687793545159946:True:=⟨⟩
theorem tw13189753534923886899:True:=⟨⟩
theorem tw5371335230641252962:True:=⟨⟩
theorem tw4676256549817970228:True:=⟨⟩
theorem tw1350665997496791831:True:=⟨⟩
theorem tw1027528674530625263:True:=⟨⟩
theorem tw9926378856368496837:True:=⟨⟩
theorem tw4897225406636571224:True:=⟨⟩
theorem tw15978243576055541357:True:=⟨⟩
theorem tw7135749299682173536:True:=⟨⟩
theorem tw7894884967016209602:True:=⟨⟩
theorem tw12884573911678585239:True:=⟨⟩
theorem tw2441227477515472728:True:=⟨⟩
theorem tw12063511538955567397:True:=⟨⟩
theorem tw15678099132079064185:True:=⟨⟩
theorem tw5455156813244187394:True:=⟨⟩
theorem tw18372890974762831922:True:=⟨⟩
theorem tw16014539071786385574:True:=⟨⟩
theorem tw4657941284033441900:True:=⟨⟩
theorem tw2875316022637257808:True:=⟨⟩
theorem tw5518313893296333314:True:=⟨⟩
theorem tw1188283181661049797:True:=⟨⟩
theorem tw12369761005221721483:True:=⟨⟩
theorem tw4717890397231785261:True:=⟨⟩
theorem tw14763385706766154386:True:=⟨⟩
theorem tw13778853159252822266:True:=⟨⟩
theorem tw4084858735357520547:True:=⟨⟩
theorem tw7919692183274603416:True:=⟨⟩
theorem tw933363511403623788:True:=⟨⟩
theorem tw7667306131914593073:True:=⟨⟩
theorem tw14418651178828610325:True:=⟨⟩
theorem tw13201264022374538403:True:=⟨⟩
theorem tw5949443181010404270:True:=⟨⟩
theorem tw3277288870851905715:True:=⟨⟩
theorem tw18227351935752096789:True:=⟨⟩
theorem tw14201276966972183390:True:=⟨⟩
theorem tw3140210058405953700:True:=⟨⟩
theorem tw16889188891970508388:True:=⟨⟩
theorem tw16185233260439549268:True:=⟨⟩
theorem tw17084100221493044091:True:=⟨⟩
theorem tw2516896326104014737:True:=⟨⟩
theorem tw17440772900688218194:True:=⟨⟩
theorem tw5285032544046508210:True:=⟨⟩
theorem tw755138893270288402:True:=⟨⟩
theorem tw11714099108175881012:True:=⟨⟩
theorem tw9888853503371257704:True:=⟨⟩
theorem tw8300643904504017744:True:=⟨⟩
theorem tw16240480136531846755:True:=⟨⟩
theorem tw9061380192422980238:True:=⟨⟩
theorem tw7771192781533984919:True:=⟨⟩
theorem tw14322149782624496852:True:=⟨⟩
theorem tw6024752433303431042:True:=⟨⟩
theorem tw3932210907791354715:True:=⟨⟩
theorem tw6466768460927407714:True:=⟨⟩
theorem tw13846641778182477436:True:=⟨⟩
theorem tw14469003752038090177:True:=⟨⟩
theorem tw14933150202166689343:True:=⟨⟩
theorem tw224611211400287532:True:=⟨⟩
theorem tw15179667619422932273:True:=⟨⟩
theorem tw5613306880523764497:True:=⟨⟩
theorem tw4950439599408672365:True:=⟨⟩
theorem tw2180575419494773111:True:=⟨⟩
theorem tw5186843172222143210:True:=⟨⟩
theorem tw14535610617975016054:True:=⟨⟩
theorem tw6532360171325526640:True:=⟨⟩
theorem tw8675664570706839587:True:=⟨⟩
theorem tw9873336813802360691:True:=⟨⟩
theorem tw10551906920244140049:True:=⟨⟩
theorem tw10899329193674230836:True:=⟨⟩
theorem tw16294665338634911508:True:=⟨⟩
theorem tw396961876599383813:True:=⟨⟩
theorem tw7824109482195382011:True:=⟨⟩
theorem tw3285718795622753527:True:=⟨⟩
theorem tw7346980638388955195:True:=⟨⟩
theorem tw2504847331578628965:True:=⟨⟩
theorem tw11736418597462685838:True:=⟨⟩
theorem tw3995387359402544526:True:=⟨⟩
theorem tw14877626432918137438:True:=⟨⟩
theorem tw5102972880296934296:True:=⟨⟩
theorem tw10128726948523299511:True:=⟨⟩
theorem tw4228386552951180355:True:=⟨⟩
theorem tw2558555274802600968:True:=⟨⟩
theorem tw4224454802841675722:True:=⟨⟩
theorem tw6613209487575518127:True:=⟨⟩
theorem tw18343205243538249853:True:=⟨⟩
theorem tw11223386429515662362:True:=⟨⟩
theorem tw7568413154791458296:True:=⟨⟩
theorem tw2051071819710285852:True:=⟨⟩
theorem tw8735047665245700878:True:=⟨⟩
theorem tw10289818917045473117:True:=⟨⟩
theorem tw6693854552704675233:True:=⟨⟩
theorem tw18245715948266092230:True:=⟨⟩
theorem tw11566762076605158426:True:=⟨⟩
theorem tw10287610223498828464:True:=⟨⟩
theorem tw5066875712728322923:True:=⟨⟩
theorem tw17578339906093462126:True:=⟨⟩
theorem tw4161627665378727827:True:=⟨⟩
theorem tw1494131245203330231:True:=⟨⟩
theorem tw9841193195195382109:True:=⟨⟩
theorem tw15628713581890799975:True:=⟨⟩
theorem tw4082560636459418913:True:=⟨⟩
theorem tw11846166749242607541:True:=⟨⟩
theorem tw13826082157243661832:True:=⟨⟩
theorem tw8298904079735525578:True:=⟨⟩
theorem tw12815002771180141981:True:=⟨⟩
theorem tw5701534625643218164:True:=⟨⟩
theorem tw4869159990045268813:True:=⟨⟩
theorem tw6306770669672306973:True:=⟨⟩
theorem tw14754854234882599652:True:=⟨⟩
theorem tw1076332893481443636:True:=⟨⟩
theorem tw12464278438425374822:True:=⟨⟩
theorem tw15711734546538471172:True:=⟨⟩
theorem tw7215485459797853374:True:=⟨⟩
theorem tw9266776065967119060:True:=⟨⟩
theorem tw14872550980151126552:True:=⟨⟩
theorem tw10414208433252890184:True:=⟨⟩
theorem tw7723258030014568953:True:=⟨⟩
theorem tw14484726605885362226:True:=⟨⟩
theorem tw6218955405051554745:True:=⟨⟩
theorem tw6236626465513539787:True:=⟨⟩
theorem tw3863096061730575056:True:=⟨⟩
theorem tw16780751929329586412:True:=⟨⟩
theorem tw3149116138861778289:True:=⟨⟩
theorem tw7746541545013531884:True:=⟨⟩
theorem tw6781406483094832640:True:=⟨⟩
theorem tw2619037459141731824:True:=⟨⟩
theorem tw6226743464582419744:True:=⟨⟩
theorem tw7438821717042677438:True:=⟨⟩
theorem tw16653769887229292852:True:=⟨⟩
theorem tw6890837941824139312:True:=⟨⟩
theorem tw12864031847552262597:True:=⟨⟩
theorem tw11542654870171940365:True:=⟨⟩
theorem tw1162315759412578790:True:=⟨⟩
theorem tw9054054165003509054:True:=⟨⟩
theorem tw2475508120980148964:True:=⟨⟩
theorem tw4059730787404067201:True:=⟨⟩
theorem tw13099482886269846803:True:=⟨⟩
theorem tw9141959006090622219:True:=⟨⟩
theorem tw8093522029244749389:True:=⟨⟩
theorem tw16842413761196420403:True:=⟨⟩
theorem tw4560109499887616758:True:=⟨⟩
theorem tw7227607209826381556:True:=⟨⟩
theorem tw3012594941083716552:True:=⟨⟩
theorem tw4475081300658341833:True:=⟨⟩
theorem tw12079708539614368676:True:=⟨⟩
theorem tw1429639624308704627:True:=⟨⟩
theorem tw9349878241399122108:True:=⟨⟩
theorem tw4442872053604430669:True:=⟨⟩
theorem tw15328880038771680046:True:=⟨⟩
theorem tw9799361240104936743:True:=⟨⟩
theorem tw16138986780511331416:True:=⟨⟩
theorem tw14058896788935800016:True:=⟨⟩
theorem tw6779714063433811062:True:=⟨⟩
theorem tw2112484385980494054:True:=⟨⟩
theorem tw11392961829550828514:True:=⟨⟩
theorem tw12105731601310614888:True:=⟨⟩
theorem tw1359080581744052254:True:=⟨⟩
theorem tw13786286848626804237:True:=⟨⟩
theorem tw11778541497127665150:True:=⟨⟩
theorem tw11844556269906901481:True:=⟨⟩
theorem tw18035183835175363039:True:=⟨⟩
theorem tw11041822487993630963:True:=⟨⟩
theorem tw4723842616283290394:True:=⟨⟩
theorem tw17548428033891451276:True:=⟨⟩
theorem tw15467503720681548220:True:=⟨⟩
theorem tw12640026862374013711:True:=⟨⟩
theorem tw200432938006539951:True:=⟨⟩
theorem tw7971833535522197587:True:=⟨⟩
theorem tw7246253377209344900:True:=⟨⟩
theorem tw876708750324145230:True:=⟨⟩
theorem tw13588560608482572721:True:=⟨⟩
theorem tw4703490659408586937:True:=⟨⟩
theorem tw3591092933789467669:True:=⟨⟩
theorem tw10723091380815054994:True:=⟨⟩
theorem tw1567686965712313154:True:=⟨⟩
theorem tw14255457897393600343:True:=⟨⟩
theorem tw16134955803088474994:True:=⟨⟩
theorem tw11019636445862483113:True:=⟨⟩
theorem tw16903285249049822144:True:=⟨⟩
theorem tw5123507892012725916:True:=⟨⟩
theorem tw6297398797485593989:True:=⟨⟩
theorem tw13311763217088250531:True:=⟨⟩
theorem tw3083113615869896708:True:=⟨⟩
theorem tw10056866717217730485:True:=⟨⟩
theorem tw18295082836690922215:True:=⟨⟩
theorem tw10866445817474207378:True:=⟨⟩
theorem tw14952789188151357669:True:=⟨⟩
theorem tw7568528854813410134:True:=⟨⟩
theorem tw18158265285154168053:True:=⟨⟩
theorem tw5251880904397084607:True:=⟨⟩
theorem tw5629443028225826869:True:=⟨⟩
theorem tw16726327314375859424:True:=⟨⟩
theorem tw11634646114469075411:True:=⟨⟩
theorem tw5282121848342310703:True:=⟨⟩
theorem tw12048338617298135099:True:=⟨⟩
theorem tw7162184903173122048:True:=⟨⟩
theorem tw6898321499576434602:True:=⟨⟩
theorem tw13018492587110809670:True:=⟨⟩
theorem tw3896570159968863285:True:=⟨⟩
theorem tw348376686544433833:True:=⟨⟩
theorem tw4625951187158249825:True:=⟨⟩
theorem tw10387113804418469275:True:=⟨⟩
theorem tw1620087115195563069:True:=⟨⟩
theorem tw8436119941477734438:True:=⟨⟩
theorem tw6893171526409415317:True:=⟨⟩
end PySem.W.Fast
open PySem PySem.W PyProof.Rows
set_option maxRecDepth 100000 in
set_option maxHeartbeats 0 in
theorem PySem.Challenge.cw_glasssheets_s04_cuts_holds : PySem.Challenge.rw_glasssheets_s04_cuts.Holds := by
 w_on;k_headS;(case hw=>exact⟨[.int 0,.list [],.list [],.list []],by decide +kernel,by decide +kernel⟩)
 k_fillS
 refine L2.vF (r:=PySem.Challenge.rw_glasssheets_s04_cuts) (k:=12) (CX:=L2.CX0) (ps := ["margin","cartoon","sheets","row"]) (sp:=Gs.qI) (by decide +kernel) rfl rfl ⟨rfl,by decide,by decide⟩ (fun w h Y=>PySem.W.kIn_of Y) ?F ?S (fun _ _ _ _ z=>z)
 case F =>
  intro w mg fa h Y KX G hmg
  refine' Gs.all_mk KX G hmg ?d ?aeH ?ug ?jh ?aeI ?kM ?aeJ ?aeK ?uh ?aav ?aaw ?bg ?bL ?bW ?cq ?cE ?cY ?bH ?cF ?cZ ?cG ?aax ?eO ?nz ?aay ?ui ?ah3 ?ah4 ?ah5 ?ah6 ?ah7 ?ah8 ?aaz ?dU ?fO ?bO ?cw ?eQ ?ah9 ?fQ ?gZ ?eS ?eU ?fR ?g9 ?jj ?hG ?a ?l ?c ?k
  case d =>
   constructor
   all_goals try dsimp only
   case ia=>exact Gs.gj KX G (by k_is) (by k_is) (by k_is) (by k_is) (by k_is) (by k_is) (by k_is) (by k_is) (by k_is) (by k_is) (by k_is) (by k_is) (Gs.a9 (by k_is) (Gs.a9 (by k_is) (Gs.a9 (by k_is) (Gs.a9 (by k_is) (Gs.a9 (by k_is) Gs.kT))))) (by intro _ _ _ _ _ _ us hl;first|(obtain⟨_,e⟩:=Gs.us1 hl;subst e;rfl)|(obtain⟨_,_,e⟩:=Gs.us2 hl;subst e;rfl)|(obtain⟨_,_,_,e⟩:=Gs.us3 hl;subst e;rfl)|(obtain⟨_,_,_,_,e⟩:=Gs.us4 hl;subst e;rfl)|(obtain⟨_,_,_,_,_,e⟩:=Gs.us5 hl;subst e;rfl)|(obtain⟨_,_,_,_,_,_,e⟩:=Gs.us6 hl;subst e;rfl))
   case p7|ib=>exact Gs.gj KX G (by k_is) (by k_is) (by k_is) (by k_is) (by k_is) (by k_is) (by k_is) (by k_is) (by k_is) (by k_is) (by k_is) (by k_is) (Gs.a9 (by k_is) (Gs.a9 (by k_is) Gs.kT)) (by intro _ _ _ _ _ _ us hl;first|(obtain⟨_,e⟩:=Gs.us1 hl;subst e;rfl)|(obtain⟨_,_,e⟩:=Gs.us2 hl;subst e;rfl)|(obtain⟨_,_,_,e⟩:=Gs.us3 hl;subst e;rfl)|(obtain⟨_,_,_,_,e⟩:=Gs.us4 hl;subst e;rfl)|(obtain⟨_,_,_,_,_,e⟩:=Gs.us5 hl;subst e;rfl)|(obtain⟨_,_,_,_,_,_,e⟩:=Gs.us6 hl;subst e;rfl))
   case lK=>exact Gs.gj KX G (by k_is) (by k_is) (by k_is) (by k_is) (by k_is) (by k_is) (by k_is) (by k_is) (by k_is) (by k_is) (by k_is) (by k_is) (Gs.a9 (by k_is) (Gs.a9 (by k_is) (Gs.a9 (by k_is) Gs.kT))) (by intro _ _ _ _ _ _ us hl;first|(obtain⟨_,e⟩:=Gs.us1 hl;subst e;rfl)|(obtain⟨_,_,e⟩:=Gs.us2 hl;subst e;rfl)|(obtain⟨_,_,_,e⟩:=Gs.us3 hl;subst e;rfl)|(obtain⟨_,_,_,_,e⟩:=Gs.us4 hl;subst e;rfl)|(obtain⟨_,_,_,_,_,e⟩:=Gs.us5 hl;subst e;rfl)|(obtain⟨_,_,_,_,_,_,e⟩:=Gs.us6 hl;subst e;rfl))
   case lL=>exact Gs.gj KX G (by k_is) (by k_is) (by k_is) (by k_is) (by k_is) (by k_is) (by k_is) (by k_is) (by k_is) (by k_is) (by k_is) (by k_is) (Gs.a9 (by k_is) (Gs.a9 (by k_is) (Gs.a9 (by k_is) (Gs.a9 (by k_is) Gs.kT)))) (by intro _ _ _ _ _ _ us hl;first|(obtain⟨_,e⟩:=Gs.us1 hl;subst e;rfl)|(obtain⟨_,_,e⟩:=Gs.us2 hl;subst e;rfl)|(obtain⟨_,_,_,e⟩:=Gs.us3 hl;subst e;rfl)|(obtain⟨_,_,_,_,e⟩:=Gs.us4 hl;subst e;rfl)|(obtain⟨_,_,_,_,_,e⟩:=Gs.us5 hl;subst e;rfl)|(obtain⟨_,_,_,_,_,_,e⟩:=Gs.us6 hl;subst e;rfl))
   case lM=>exact Gs.gj KX G (by k_is) (by k_is) (by k_is) (by k_is) (by k_is) (by k_is) (by k_is) (by k_is) (by k_is) (by k_is) (by k_is) (by k_is) (Gs.a9 (by k_is) (Gs.a9 (by k_is) (Gs.a9 (by k_is) Gs.kT))) (by intro _ _ _ _ _ _ us hl;first|(obtain⟨_,e⟩:=Gs.us1 hl;subst e;rfl)|(obtain⟨_,_,e⟩:=Gs.us2 hl;subst e;rfl)|(obtain⟨_,_,_,e⟩:=Gs.us3 hl;subst e;rfl)|(obtain⟨_,_,_,_,e⟩:=Gs.us4 hl;subst e;rfl)|(obtain⟨_,_,_,_,_,e⟩:=Gs.us5 hl;subst e;rfl)|(obtain⟨_,_,_,_,_,_,e⟩:=Gs.us6 hl;subst e;rfl))
   case lN=>exact Gs.gj KX G (by k_is) (by k_is) (by k_is) (by k_is) (by k_is) (by k_is) (by k_is) (by k_is) (by k_is) (by k_is) (by k_is) (by k_is) (Gs.a9 (by k_is) (Gs.a9 (by k_is) (Gs.a9 (by k_is) (Gs.a9 (by k_is) Gs.kT)))) (by intro _ _ _ _ _ _ us hl;first|(obtain⟨_,e⟩:=Gs.us1 hl;subst e;rfl)|(obtain⟨_,_,e⟩:=Gs.us2 hl;subst e;rfl)|(obtain⟨_,_,_,e⟩:=Gs.us3 hl;subst e;rfl)|(obtain⟨_,_,_,_,e⟩:=Gs.us4 hl;subst e;rfl)|(obtain⟨_,_,_,_,_,e⟩:=Gs.us5 hl;subst e;rfl)|(obtain⟨_,_,_,_,_,_,e⟩:=Gs.us6 hl;subst e;rfl))
   case p8=>exact Gs.gj KX G (by k_is) (by k_is) (by k_is) (by k_is) (by k_is) (by k_is) (by k_is) (by k_is) (by k_is) (by k_is) (by k_is) (by k_is) (Gs.a9 (by k_is) (Gs.a9 (by k_is) (Gs.a9 (by k_is) Gs.kT))) (by intro _ _ _ _ _ _ us hl;first|(obtain⟨_,e⟩:=Gs.us1 hl;subst e;rfl)|(obtain⟨_,_,e⟩:=Gs.us2 hl;subst e;rfl)|(obtain⟨_,_,_,e⟩:=Gs.us3 hl;subst e;rfl)|(obtain⟨_,_,_,_,e⟩:=Gs.us4 hl;subst e;rfl)|(obtain⟨_,_,_,_,_,e⟩:=Gs.us5 hl;subst e;rfl)|(obtain⟨_,_,_,_,_,_,e⟩:=Gs.us6 hl;subst e;rfl))
   case ic|j5=>exact Gs.gj KX G (by k_is) (by k_is) (by k_is) (by k_is) (by k_is) (by k_is) (by k_is) (by k_is) (by k_is) (by k_is) (by k_is) (by k_is) (Gs.a9 (by k_is) (Gs.a9 (by k_is) Gs.kT)) (by intro _ _ _ _ _ _ us hl;first|(obtain⟨_,e⟩:=Gs.us1 hl;subst e;rfl)|(obtain⟨_,_,e⟩:=Gs.us2 hl;subst e;rfl)|(obtain⟨_,_,_,e⟩:=Gs.us3 hl;subst e;rfl)|(obtain⟨_,_,_,_,e⟩:=Gs.us4 hl;subst e;rfl)|(obtain⟨_,_,_,_,_,e⟩:=Gs.us5 hl;subst e;rfl)|(obtain⟨_,_,_,_,_,_,e⟩:=Gs.us6 hl;subst e;rfl))
   case aaq|jK|gO|vv|iC|kX|kY|kZ|jL=>exact Gs.ab0 KX G (by k_is) (by k_is) (by k_is) (by k_is) (by intro _ _ _ _ _ _ us hl;first|(obtain⟨_,e⟩:=Gs.us1 hl;subst e;rfl)|(obtain⟨_,_,e⟩:=Gs.us2 hl;subst e;rfl)|(obtain⟨_,_,_,e⟩:=Gs.us3 hl;subst e;rfl)|(obtain⟨_,_,_,_,e⟩:=Gs.us4 hl;subst e;rfl)|(obtain⟨_,_,_,_,_,e⟩:=Gs.us5 hl;subst e;rfl)|(obtain⟨_,_,_,_,_,_,e⟩:=Gs.us6 hl;subst e;rfl))
   case iD|jM|jN|jO=>exact Gs.aem (by k_is) (by k_is) (by k_is) (by k_is) (by k_is) (by intro _ _ _ _ _ _ us hl;first|(obtain⟨_,e⟩:=Gs.us1 hl;subst e;rfl)|(obtain⟨_,_,e⟩:=Gs.us2 hl;subst e;rfl)|(obtain⟨_,_,_,e⟩:=Gs.us3 hl;subst e;rfl)|(obtain⟨_,_,_,_,e⟩:=Gs.us4 hl;subst e;rfl)|(obtain⟨_,_,_,_,_,e⟩:=Gs.us5 hl;subst e;rfl)|(obtain⟨_,_,_,_,_,_,e⟩:=Gs.us6 hl;subst e;rfl))
   case gQ|gR|mX|iE|vw|oJ|d5|da|gS|d6|gT|jP|iF|jQ|iG|vx|jR|k6|jS|vy|dW|k7|fX|oK|jT|gU|fY|cj|gV|mY|k8|jU|iH|dA|aar|k9|jV|jW|jX|mZ|jY|lg|aas|gW|lh|jZ|m8|iI|gX|j6|oM=>exact Gs.ab0 KX G (by k_is) (by k_is) (by k_is) (by k_is) (by intro _ _ _ _ _ _ us hl;first|(obtain⟨_,e⟩:=Gs.us1 hl;subst e;rfl)|(obtain⟨_,_,e⟩:=Gs.us2 hl;subst e;rfl)|(obtain⟨_,_,_,e⟩:=Gs.us3 hl;subst e;rfl)|(obtain⟨_,_,_,_,e⟩:=Gs.us4 hl;subst e;rfl)|(obtain⟨_,_,_,_,_,e⟩:=Gs.us5 hl;subst e;rfl)|(obtain⟨_,_,_,_,_,_,e⟩:=Gs.us6 hl;subst e;rfl))
  case aeH|ug|jh|aeI|kM|aeJ|aeK|uh|aav|aaw=>exact PySem.W.mg_none_of KX G (by k_is)
  case bg|bL|bW|cq|cE|cY|bH|cF|cZ|cG=>exact Gs.ab4 KX G (by k_is)
  case aax|eO|nz=>exact PySem.W.mg_of KX G (by k_is)
  case aay=>exact Gs.rp (by k_is) (.cons ⟨_,rfl⟩ (.cons ⟨_,rfl⟩ (.cons ⟨_,rfl⟩ (.cons ⟨_,rfl⟩ .nil)))) (by decide)
  case ui=>exact Gs.rp (by k_is) (.cons rfl (.cons rfl (.cons rfl (.cons rfl (.cons rfl (.cons rfl .nil)))))) (by decide)
  case ah3|ah4|ah5|ah6|ah7|ah8=>exact Gs.rp (by k_is) (.cons ⟨_,rfl⟩ (.cons ⟨_,rfl⟩ (.cons ⟨_,rfl⟩ (.cons ⟨_,rfl⟩ .nil)))) (by decide)
  case aaz=>exact Gs.rp (by k_is) (.cons rfl (.cons rfl (.cons rfl (.cons rfl (.cons rfl (.cons rfl (.cons rfl (.cons rfl .nil)))))))) (by decide)
  case dU|fO|bO|cw=>exact Gs.ab4 KX G (by k_is)
  case eQ=>exact PySem.W.mg_of KX G (by k_is)
  case ah9=>exact Gs.rp (by k_is) (.cons ⟨_,rfl⟩ (.cons ⟨_,rfl⟩ (.cons ⟨_,rfl⟩ (.cons ⟨_,rfl⟩ .nil)))) (by decide)
  case fQ|gZ|eS|eU|fR|g9|jj|hG=>exact PySem.W.mg_of KX G (by k_is)
  (case a=>k_is);(case l=>k_is);(case c=>k_is);(case k=>k_is)
 case S =>
  intro K H xs a hO hwi hask hx;cases hx with
  | cons h1 h2 =>
  cases h2 with
  | cons h2 h3 =>
  cases h3 with
  | cons h3 h4 =>
  cases h4 with
  | cons h4 h5 =>
  cases h5
  cases h1
  cases h2 with
  | lst hs2 ha2 =>
  cases h3 with
  | lst hs3 ha3 =>
  cases h4 with
  | lst hs4 ha4 =>
   have e2:=L2.pI a.2.1 _ ha2;have e3:=L2.pI a.2.2.1 _ ha3;have e4:=L2.pI a.2.2.2.1 _ ha4;subst e2 e3 e4;obtain⟨m,b,shs,row,f1,f2,f3,f4⟩:=Gs.wB (show PyYqglea.cuts_asked a.1 a.2.1 a.2.2.1 a.2.2.2.1=true from hask);have q:(Codec.inInt 0 4294967295 a.1&&((Codec.inLen 0 100000 a.2.1&&a.2.1.all (Codec.inInt 0 255))&&((Codec.inLen 0 4200 a.2.2.1&&a.2.2.1.all (Codec.inInt 0 4294967295))&&((Codec.inLen 0 900 a.2.2.2.1&&a.2.2.2.1.all (Codec.inInt 0 4294967295))&&true))))=true:=hwi;simp only[Ar] at q;have hl:=(Codec.inNat_iff.mp q.2.2.2.1.1).2;rw[f2] at hs2;rw[f4] at hs4 hl;rw[Ab] at hl;refine⟨m,_,_,_,b,a.2.2.1,shs,row,by rw[← f1],hs2,hs3,f3,by rw[Gs.ab2,Gs.aah];exact hs4,by omega,fun H' l _ hl => ?_⟩;have ef:Codec.app PySem.Challenge.rw_glasssheets_s04_cuts.args PySem.Challenge.rw_glasssheets_s04_cuts.f a=PyYqglea.cuts a.1 a.2.1 a.2.2.1 a.2.2.2.1:=rfl;rw[ef,f1,f2,f4,Gs.aaa m b f3];exact .lst (L2.SqL.of hl) (L2.wL _)
end
