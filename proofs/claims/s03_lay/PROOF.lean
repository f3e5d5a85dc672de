import PyProof.Rows.All
import Wide.All
import OpenK.AllK
import Wide.FinOn
import PyProof.EqAt
import PyProof.EqKinds
import PyProof.TupleCall
import KE.BitLaws
import Open.SpecLaws
import KE.OsHead
import PySem.Challenge.RW_glasssheets_s03_lay
import KE.KSortTupG
import KE.OsGo
set_option Elab.async false
set_option linter.all false
set_option maxRecDepth 100000
set_option maxHeartbeats 4000000
abbrev Ar:=@if_neg
abbrev As:=@if_pos
abbrev A5:=@decide_eq_true_eq
abbrev AD:=@decide_eq_true
abbrev AR:=@decide_eq_false
abbrev AV:=@of_decide_eq_true
abbrev Ba:=@decide_eq_decide
abbrev B2:=@congrArg
abbrev BL:=@beq_iff_eq
abbrev BX:=@beq_eq_false_iff_ne
abbrev DP:=@decide_eq_false_iff_not
abbrev DY:=@decide_not
abbrev Eo:=@if_false
abbrev E3:=@beq_self_eq_true
abbrev G5:=@if_true
abbrev IG:=@of_decide_eq_false
abbrev JU:=@bne_iff_ne
abbrev Lf:=PySem.W.Frag
abbrev Lg:=PySem.Str->Option PySem.Value
open List renaming getElem?_eq_getElem->Aa,length_map->Ab,mem_cons_of_mem->Ac,mem_cons_self->Ad,getElem?_eq_some_iff->Aj,length_append->Al,mem_cons->Am,range->An,mem_singleton->Ao,mem_append_right->Au,getElem?_map->Av,getElem?_append_right->Aw,mem_map->Ax,map_append->Ay,getD_eq_getElem?_getD->Az,getElem?_append_left->A1,mem_append->A4,mem_range->A6,length_cons->A7,size_toArray->A9,map_cons->AA,mem_of_getElem?->AE,length_range->AG,mem_append_left->AM,length_take->AO,mem_iff_getElem->AQ,getElem_mem->AX,mem_flatMap->Bc,map_map->Bd,drop_eq_getElem_cons->Bh,nodup_append->Bm,mem_filter->Bw,nodup_cons->Bx,filter_cons_of_pos->Bz,getElem?_range->B8,take_of_length_le->BB,getElem?_take_of_lt->BC,filter_cons_of_neg->BF,take_length->BG,pairwise_cons->BH,flatMap_append->BJ,foldl_cons->BK,any_eq_true->BM,flatMap_cons->BN,append_assoc->BZ,find?_eq_none->Cc,range_succ->Ce,length_drop->Cf,lookup_cons->Cg,Nodup.length_le_of_subset->Ci,getElem?_eq_none->Co,find?_cons->Cr,getElem?_set_ne->Cv,filter_cons->Cz,getElem?_set_self->C1,pairwise_map->C4,append_nil->CB,drop_length->CI,range'->CN,drop_zero->CP,pairwise_lt_range->Dg,sum_cons->Dr,all_eq_true->Ds,getElem_map->Dt,not_mem_nil->Dv,getElem_range->D2,take_append_drop->D4,pairwise_iff_getElem->D6,length_set->D8,length_nil->D9,length_zip->DC,range_eq_range'->DF,map_congr_left->DM,getElem?_replicate->DN,range_succ_eq_map->DV,map_singleton->DW,of_mem_zip->DZ,foldr_cons->Ea,any_eq_false->Eh,mem_range'_1->Ej,foldl_append->El,lookup->Em,forIn_nil->Er,perm_ext_iff_of_nodup->Et,cons_append->E2,getElem?_zip_eq_some->E6,filterMap_cons->E7,filter_sublist->EA,Pairwise.imp_of_mem->EE,forIn_cons->EH,mem_filterMap->EK,filter_append->ER,replicate->EV,map_nil->EW,nodup_nil->EZ,drop_eq_nil_of_le->Ff,length_replicate->Fj,contains_iff_mem->Fm,length_filter_le->Fo,nodup_range->Fu,Nodup->Fv,zipIdx_cons->Fy,find?_eq_some_iff_getElem->Fz,ext_getElem->F0,map_take->F3,length->F7,mem_of_mem_take->FA,getElem?_zipIdx->FC,mem_zipIdx_iff_getElem?->FN,find?_some->FP,nil_append->FU,drop_succ_cons->FW,sum_append_nat->FX,zip_cons_cons->Gr,mem_of_find?_eq_some->Gz,getElem_take->G8,ext_getElem?->G9,map_drop->GH,all_cons->GN,pairwise_filterMap->GV,getElem_zip->Hc,getElem?_toArray->Hy,pairwise_flatMap->Hz,take_zero->HL,pairwise_append->HM,contains_eq_mem->HP,findSome?_cons->Ia,any_cons->Ie,mem_eraseDups->IC,reverse_cons->IY,Sublist.refl->Jc,getElem_inj->Jh,range'_succ->Jp,perm_middle->Js,map_id->J0,zipIdx_nil->J7,filter_map->JD,Perm.swap->JW,find?_map->JX,take_nil->Kh,map->KG
open PySem renaming W.Frag->Ae,wpAny_bind->Af,Addr->Ag,Value->Ai,Heap.get?_push_of_some->Ap,Shared->Aq,wpAny_pure->A2,Heap.lt_size->AF,Heap.get?_push_size->AH,Program->AI,PassesOwn.never->AJ,Str->AW,World->AZ,mem_of_lookup->Bb,Builtin.SmallTypes.nextOf->Bg,Value.ref->Bo,Builtin.Range.rangeSize->By,Heap->B1,Around->B7,Expr->B9,Obj.mapSeq->BD,Str.ofString->BR,W.findIn->BS,Heap.size_push->BU,W.keepIn->Cb,Builtin.SmallTypes.ownedTupleIsFree->Cp,W.fnOf->Cq,wpAny_Call_Name_kw->Cs,wpAny_field->Cy,wpAny_holding->C0,wpAny_mono->C2,W.emptyDict->C3,PyData.int->C5,wpAny_seqItems->C6,wpAny_nextOf_list_item->C7,Builtin.Range.small->CA,wpAny_setField_rec->CH,W.CodeHd->CS,W.instObj->CV,Heap.SameBut.update->CY,Heap.get?_update_other->Dc,Builtin.List.listExtendWith->Dj,wpAny_call_entry->Du,Value.type->Dx,NameKind->Dy,F.slot_tuple_iterator_next->D3,Obj->D5,wpAny_passesOwn->D7,codeAny_builtin->DB,wpAny_truthy_bool->DD,FuncData->DE,Around.under_plainId->DG,Value.none->DJ,IsPair->DK,AutoSeq1.wpAny_loadPart'->DL,W.codeIn->DO,W.kla_obj->Eb,W.mg_of->Ed,wpAny_nextOf_list_end->Ee,Heap.get?_update_self->Ef,Scope->Eg,Value.type.inj->Es,Value.int->Ey,Heap.SameBut->Ez,W.plainGet->E1,Builtin.SmallTypes.ownedTupleHandOut->E8,F.plain_extend_loop->E9,Builtin.List.listTooLong->EC,NameKind.free->ED,wpAny_pyIter_tuple->EJ,W.callWith_K->EL,F.plainAttrs_list->ES,W.hasDictIn->ET,codeAny_mono->EU,wpAny_pyIter_enum->Fc,ZipApart->Fg,W.tabObj->Fi,wpAny_rule->Fx,Paired.length->F1,plainId_quiet->F4,Stmt->F6,wpAny_updateSeq_pair->F9,wpAny_execs_nil->FF,pushCells_keeps->FG,W.WData.weightAll->FK,W.length_le_weightAllW->FL,F.slot_zip_next->FQ,wpAny_updateSeq->FR,F.args_tuple_iterator_next_1->FT,W.plainGet_of->FV,W.isFn->FZ,W.Codec.encAll->Gb,Builtin.Range.rangeFitsLong->Gd,F.entry_tuple_iterator_next->Ge,W.nsIn->Gi,Calls.Name_function_global->Gj,W.lookIn->Gk,Calls.spliced_cons->Gm,tupleKind_room_in1->Gn,wpAny_letOwnedTupleGo_enum->Gp,Value.isInt_shape->G0,W.methodObj->G1,sizeLine_eq->G2,W.plainOver->G3,Calls.spliced_nil->G4,wpAny_newObj_type->G6,wpAny_letGo->GA,NameKind.cell->GD,wpAny_standAt->GF,PyData.eqvAll->GG,wpAny_onRaise->GI,wpAny_attempt->GJ,Builtin.List.listSameRef->GK,W.tabIn->GR,wpAny_isInstance->GW,Builtin.Dict.updateFrom->GX,wpAny_pyNext_list_item->Hd,wpAny_pyNext_range_end->He,wpAny_pyIter_rangeiter->Hf,W.cellsFrom_some->Hg,Calls.callWith_builtin->Hi,SeqAt.shaped->Hj,Builtin.List.listItems->Hl,IsTupleKey->Hm,W.envX->Ho,W.takerIn->Hq,W.makesIn->Hr,W.Codec.denoteAll->Hs,PyData.depthAll->Ht,wpAny_isTrue_Compare1->Hu,wpAny_pyNext_list_end->Hv,W.methodCall_KW->Hw,builtinLookup_eq_fast->HA,F.slot_enumerate_next->HB,Value.isInt->HC,IsRangeIter->HD,Around.frames_deeper->HE,wpAny_pyIter_revIter->HF,boot_len->HI,wpAny_newTuple->HJ,codeAny_call_builtin->HK,Keyword->HW,F.entry_extend_loop->HZ,Env->Ib,wpAny_newList->Io,Value.bool->Ip,wpAny_pyIter_range->Iq,wpAny_call->Iu,call_meets->Iw,PyData->Iy,Params->IB,wpAny_tupleItemsOf->ID,Obj.data_mapFields->IE,Code.quiet_builtin->IF,Within->IJ,wpAny_assign_Name->IL,wpAny_pyIter_list->IM,Around.under->IP,Code.isFrame->IQ,PyData.canLayAll0->IU,PyData.depth->IV,F.args_zip_next_1->IW,wpAny_typeOf->IX,Value.str->Jf,Paired->Jg,wpAny_execs_cons->Ji,W.handedIn->Jj,Arguments->Jk,wpAny_Dict_empty->Jm,W.WRecords->Jo,F.entry_zip_next->Jr,W.Codec.app->Jv,Heap.DictOf.new->J4,F.slot_zip_iter->J8,typeLookup_type->J9,wpAny_specialOf->JB,F.slot_tuple_le->JC,BindsTo->JF,wpAny_Name->JG,Result->JH,typeIs_int->JI,numAt_eq->JJ,getD_mem->JK,Data.seq->JL,PyData.eqv->JO,PyData.canLay0->JP,isSubtype_stop->JQ,callType_codes->JR,wpAny_setField->JT,W.kla_fn->Kb,W.noTabs->Kc,Value.isStrOf->Kd,intBits_le_64->Ke,evalPart_none->Kf,nums_intItems->Kg,Model->Kk,Fin->Km,call_range_1->Ko,seqIndex_neg->Kp,IsEnum->Kr,Value.bytes->K0,Value.float->K1,Sem->K2,CmpOp->K3,CmpOp.NotIn->K4,Walks.range->K5,IsRange.new->K6,Code.frames->K8,seqIndex_of->K9,intItems_at->KA,Paired.snoc->KC,Heap.ExtBut->KH,wpAny_of_eq->KI,Tok->KN,wpAny_load->KO,PlainAttrs->KP,IsRange->KU,IsPart->KZ,Meets->Lc
open Option renaming some.inj->Ah,none->AK,map_eq_some_iff->C9,map_eq_none_iff->Di,isSome_iff_exists->EB,map_some->FJ,isSome_map->G7,getD_some->GY,isSome_some->Iz,getD_none->Jl
open Nat renaming le_refl->Ak,le_of_ble_eq_true->AL,zero_le->AN,lt_of_lt_of_le->AY,ne_of_lt->Bj,le_trans->Br,not_lt_zero->Bt,sub_self->BE,le_of_lt->BQ,lt_trichotomy->BY,lt_irrefl->Cd,ne_of_gt->CJ,lt_succ_iff_lt_or_eq->CL,min_eq_left->CW,le_of_eq->DT,sub_zero->DU,le_of_succ_le->EX,lt_succ_of_lt->EY,le_add_right->Ft,min_eq_right->Fw,min_self->Gf,lt_or_eq_of_le->Gq,lt_succ_self->GS,max_eq_right->GU,zero_lt_succ->GZ,lt_of_le_of_lt->I0,pos_of_ne_zero->II,add_comm->IT,succ_ne_self->Jn,strongRecOn->J5,max_eq_left->J6,not_lt->JN,lt_trans->Kq,zero_add->Ks,le_total->Kz
open Array renaming getD_eq_getD_getElem?->A3,getElem?_setIfInBounds_ne->Bq,length_toList->BI,size_setIfInBounds->BV,getElem?_setIfInBounds_self_of_lt->Ca,getElem?_eq_getElem->CD,size_replicate->CO,getElem?_replicate->EF,contains_iff_mem->Fe,forIn_toList->Gu,getElem?_toList->Hx,toList->IK,getElem_mem->IS,size_push->JA,Perm.refl->JE,size_map->JY,size_zip->Ka
open Bool renaming eq_false_iff->A8,and_eq_true->AB,false_ne_true->AS,false_and->Bp,noConfusion->Bu,not_eq_true->Bv,eq_iff_iff->B3,or_eq_false_iff->BO,true_and->BW,false_eq_true->Ct,or_eq_true->DA,or_true->DH,and_false->Ep,not_eq_false'->EO,false_or->F2,true_or->Ga,not_and->Gg,and_true->GL,and_eq_true_iff->HG,and_comm->Ih,or_false->Ii,not_true->Ij,true_eq_false->IH,not_false->JS
open Classical renaming byContradiction->AU,propDecidable->CT
open Int renaming mul_nonneg->Be,mul_pos->Bk,mul_comm->Bl,mul_le_mul_of_nonneg_left->Cn,mul_add->Cw,mul_neg_of_neg_of_pos->CC,zero_mul->CK,le_of_lt->Dd,mul_zero->Dh,neg_mul->Dk,mul_nonpos_of_nonpos_of_nonneg->Dz,not_lt->D0,mul_nonpos_of_nonneg_of_nonpos->D1,mul_sub->DQ,toNat_natCast->Ei,lt_trichotomy->Ek,sub_zero->E4,mul_eq_zero->EI,not_le->EM,mul_nonneg_of_nonpos_of_nonpos->EN,sub_self->Fd,le_refl->F8,neg_mul_neg->FO,mul_neg_of_pos_of_neg->Gx,mul_pos_of_neg_of_neg->Gy,lt_trans->Hk,lt_irrefl->Ig,ofNat.inj->Ik,zero_add->IZ,lt_asymm->Kt,le_total->Ku,mul_neg->KD
open Gla renaming num->Bs,putShelf->B4,parts->B5,putSheet->B6,Sheet->BP,taller->Cu,within->C8,turn->CF,tall->CG,firstAt->CQ,ways->CZ,twiceArea->Dn,judgePlan->Dq,noneSeen->DI,itemsOf->DR,firstBad->DX,inOrder->Eu,layAll->Ew,onSheet->Ex,clear->E5,markPlace->EG,span->Fh,crosses->FD,SMALLEST->Gh,spread->Gv,onShelf->GC,linePlace->GO,sheetNode->GP,isOn->Ha,twice->Hb,ptPlace->HQ,HEAD->HR,LARGEST->HS,putIn->HX,lineBelow->Il,shelfNode->Im,SIDE->Ja,Sheet.ok->Jb,layoutOf->Jd,Node.row->Je,numLe->Jq,chained->Jw,edgePts->Jx,between->Jy,touches->Jz,turnsOn->J1,Item->JV,markBelow->Ki,blankNode->Kj,MAGIC->Kn,seenFrom->Kv,insideOf->Kw,dx->Kx,dy->Ky,frameOk->KJ,onLines->KL,markOk->KR,POINTS->KS,LINES->KW,MARKS->KY,cuts->Ld
open PyProof renaming Rows.callWith_type1->BA,Rows.G.tupKeyC->Cj,Rows.G.tupKindC->CU,Rows.boot_min->Fp,Rows.boot_max->Fq,Rows.KeyKind->FE,Rows.KeysOf->FY,Rows.lexLt->Gw,Rows.listUpdate_at->GQ,Rows.subscriptTail_builtinR->Hh,Rows.lex_trans->Hn,Rows.AllBare->HV,Rows.SortedToK->HY,Rows.Constant_none->Ic,Rows.boot_range->Ir,Rows.Keyed->JZ,Rows.Call_->K7
open False renaming elim->Ck
open Sum renaming inl->Cm,inl.inj->F5,inr->HU
open Prod renaming mk.inj->CM,fst->HH,ext->JM,snd->La
open And renaming right->Ec
open True renaming intro->En
open ForInStep renaming yield->FH
open UInt8 renaming ofNat->GB
open Or renaming inl->IA,inr->KQ
open GlaSheets renaming answer->Jt,opened->Ju
open Iff renaming rfl->Le
noncomputable section
section
namespace L2
open PySem PySem.Spec PyProof.Rows
abbrev Key:=Sum Int AW
noncomputable def xU:Key->Ai->Bool
 | .inl k,v=>HC k v
 | .inr x,v=>Kd x v
noncomputable def ajG(w:AZ):Key->Int
 | .inl k=>hashInt k
 | .inr x=>hashStr w x
theorem bL:∀{k:Key}{v:Ai},xU k v=true->(∃i t,k=Cm i/\v=Ey i t)\/(∃x t,k=HU x/\v=Jf x t)
 | .inl i,v,h=>by
  obtain⟨t,e⟩:=G0 (k:=i) (v:=v) h;exact .inl ⟨i,t,rfl,e⟩
 | .inr x,v,h=>by
  obtain⟨t,e⟩:=Value.isStrOf_shape (x:=x) (v:=v) h;exact .inr ⟨x,t,rfl,e⟩
theorem yx(i:Int)(t:KN):xU (.inl i) (.int i t)=true:=by simp[xU,HC]
theorem aa3(x:AW)(t:KN):xU (.inr x) (.str x t)=true:=by simp[xU,Kd]
theorem agL(a b:Int):decide ((Cm a:Key)=Cm b)=(a==b):=by
 by_cases e:a=b
 ·subst e;simp
 ·have h:¬(Cm a:Key)=Cm b:=fun q=>e (F5 q)
  rw[AR h];exact(BX.mpr e).symm
theorem agq(a b:AW):decide ((HU a:Key)=HU b)=decide (a=b):=by
 by_cases e:a=b
 ·subst e;simp
 ·have h:¬(HU a:Key)=HU b:=fun q=>e (Sum.inr.inj q)
  rw[AR h,AR e]
theorem af6(a:Int)(b:AW):decide ((Cm a:Key)=HU b)=false:=AR (fun q=>nomatch q)
theorem ahq(a:AW)(b:Int):decide ((HU a:Key)=Cm b)=false:=AR (fun q=>nomatch q)
noncomputable def bO(prog:AI)(w:AZ):PySem.KeyKind prog w Key where
 is:=xU
 hash:=ajG w
 inj:=fun v a b f d=>by
  rcases bL f with⟨i,t,rfl,rfl⟩|⟨x,t,rfl,rfl⟩
  ·rcases bL d with⟨j,u,rfl,e⟩|⟨y,u,rfl,e⟩
   ·injection e with e1 _;rw[e1]
   ·exact nomatch e
  ·rcases bL d with⟨j,u,rfl,e⟩|⟨y,u,rfl,e⟩
   ·exact nomatch e
   ·injection e with e1 _;rw[e1]
 byValue:=fun k v h=>by
  rcases bL h with⟨i,t,rfl,rfl⟩|⟨x,t,rfl,rfl⟩ <;> rfl
 pyHash:=fun c h=>by
  rcases bL c with⟨i,t,rfl,rfl⟩|⟨x,t,rfl,rfl⟩
  ·exact wpAny_pyHash_int h
  ·exact wpAny_pyHash_str h
 eqBool:=fun g c h=>by
  rcases bL g with⟨i,t,rfl,rfl⟩|⟨x,t,rfl,rfl⟩
  ·rcases bL c with⟨j,u,rfl,rfl⟩|⟨y,u,rfl,rfl⟩
   ·rw[agL] at h;exact wpAny_eqBool_int h
   ·rw[af6] at h;exact SeqAt.EqAt.int_str i t y u _ _ _ _ h
  ·rcases bL c with⟨j,u,rfl,rfl⟩|⟨y,u,rfl,rfl⟩
   ·rw[ahq] at h;exact SeqAt.EqAt.str_int x t j u _ _ _ _ h
   ·rw[agq] at h;exact wpAny_eqBool_str h
 «strs» := fun k x t v h=>by
  rcases bL h with⟨i,u,rfl,e⟩|⟨y,u,rfl,e⟩
  ·exact nomatch e
  ·injection e with e1 _
   subst e1;cases v <;> rfl
theorem uB(prog:AI)(w:AZ)(i:Int)(t:KN):(bO prog w).is (.inl i) (.int i t)=true:=yx i t
theorem uJ(prog:AI)(w:AZ)(x:AW)(t:KN):(bO prog w).is (.inr x) (.str x t)=true:=aa3 x t
inductive V where
 | non|bl (b:Bool)|int (i:Int)|str (x:AW)|byt (b:Array UInt8)|flt (b:UInt64)|ref (a:Ag)|ty (n:String)
 deriving DecidableEq
def RelV:V->Ai->Prop
 | .non,u=>u=DJ
 | .bl b,u=>u=Ip b
 | .int i,u=>∃t,u=Ey i t
 | .str x,u=>∃t,u=Jf x t
 | .byt b,u=>∃t,u=K0 b t
 | .flt b,u=>∃t,u=K1 b t
 | .ref a,u=>u=Bo a
 | .ty n,u=>u=Dx n
abbrev Vals:List V->List Ai->Prop:=Jg RelV
theorem Vals.length{xs:List V}{us:List Ai}(r:Vals xs us):xs.length=us.length:=F1 r
theorem Vals.get:∀{xs:List V}{us:List Ai}{i:Nat}{x:V},Vals xs us->xs[i]? = some x->∃u,us[i]? = some u/\RelV x u
 | _,_,_,_,.nil,e=>by simp at e
 | _,_,0,_,.cons r _,e=>by simp at e;subst e;exact⟨_,rfl,r⟩
 | _,_,i+1,x,.cons _ t,e=>by
  obtain⟨u,a,b⟩:=Vals.get (i:=i) (x:=x) t (by simpa using e);exact⟨u,by simpa using a,b⟩
theorem Vals.append:∀{xs ys:List V}{us ws:List Ai},Vals xs us->Vals ys ws->Vals (xs++ys) (us++ws)
 | _,_,_,_,.nil,s=>s
 | _,_,_,_,.cons r t,s=>.cons r (Vals.append t s)
theorem Vals.take:∀{xs:List V}{us:List Ai}(n:Nat),Vals xs us->Vals (xs.take n) (us.take n)
 | _,_,0,_=>.nil
 | _,_,_+1,.nil=>.nil
 | _,_,n+1,.cons r t=>.cons r (Vals.take n t)
theorem Vals.drop:∀{xs:List V}{us:List Ai}(n:Nat),Vals xs us->Vals (xs.drop n) (us.drop n)
 | _,_,0,r=>r
 | _,_,_+1,.nil=>.nil
 | _,_,n+1,.cons _ t=>Vals.drop n t
def vc:Option V->Option Ai->Prop
 | some v,some u=>RelV v u
 | none,none=>True
 | _,_=>False
def KV{κ:Type}:List (κ×V)->List (κ×Ai)->Prop:=Jg fun(p:κ×V) (q:κ×Ai)=>p.1=q.1/\RelV p.2 q.2
noncomputable def kV:Key->V
 | .inl i=>.int i
 | .inr x=>.str x
inductive HO where
 | lst (xs:List V)
 | tup (xs:List V)
 | dK (kvs:List (Key×V))|dT (kvs:List (List Key×V))
 | set (S:Int->Bool) (n:Nat)
 | ins (C dx:Ag) (fs:List (AW×V))
 | own (x:Ag)
 | xd (fs:List (AW×V))
 | met (f x:Ag)
 | rng (lo hi:Int)
 | frz (o:D5) (u:HO)
 | tbl (ps:Array Ai)
 | ext (φ:B1->Prop)
abbrev Hp:=Ag->Option HO
noncomputable def upd(H:Hp)(a:Ag)(o:HO):Hp:=fun b=>if b=a then some o else H b
theorem ag{H:Hp}{a:Ag}{o:HO}:upd H a o a=some o:=by unfold upd;rw[As rfl]
theorem aw{H:Hp}{a b:Ag}{o:HO}(h:b≠a):upd H a o b=H b:=by unfold upd;rw[Ar h]
theorem bQ{H:Hp}{a:Ag}{o u:HO}:upd (upd H a o) a u=upd H a u:=by
 funext b;unfold upd;split <;> rfl
theorem tS{H:Hp}{a b:Ag}{o u:HO}(h:H a=some o)(h':H b=some u)(d:o≠u):a≠b:=by
 intro e;subst e;rw[h] at h';exact d (Ah h')
theorem aB{H:Hp}{a b:Ag}{o:HO}(h:H a=some o)(h':H b=none):a≠b:=by
 intro e;subst e;rw[h] at h';cases h'
section
variable(P:AI)(w:AZ)
def cf(H:Hp)(h:B1)(a:Ag):HO->Prop
 | .lst xs=>xs.length<=sizeLine/\∃(b:List Ai)(n:Nat),Vals xs b/\h.get? a=some { cls:=.type "list",data:=.seq b.toArray n }
 | .tup xs=>xs.length<=sizeLine/\∃b:List Ai,Vals xs b/\IsTup h a b.toArray
 | .dK c=>c.length<=sizeLine/\(a==sysModules)=false/\∃vs,KV c vs/\h.DictOf (bO P w) a vs
 | .dT c=>c.length<=sizeLine/\(a==sysModules)=false/\∃xs:List (List Key×Ag×Ai),
   Jg (fun(p:List Key×V) (q:List Key×Ag×Ai)=>p.1=q.1/\H q.2.1=some (.tup (p.1.map kV))/\RelV p.2 q.2.2) c xs /\
   ∃o g l,h.get? a=some o/\o.ExactDict/\o.data=.dict g l/\g.toList=xs.map (entryOfKey (tupleKind (bO P w)))/\(xs.map (·.1)).Nodup
 | .set S n=>h.SetOf (intKind P w) a S n
 | .ins C dx e=>H dx=some (.own a)/\e.length<=1000/\dx≠a/\h.get? a=some (CV C dx) /\
   ∃d,h.Ns1 dx d/\(∀f,vc (e.lookup f) (d f))/\IJ d (e.map (·.1))
 | .own _=>∃o,h.get? a=some o
 | .xd e=>∃d,h.Ns1 a d/\∀f,vc (e.lookup f) (d f)
 | .rng lo m=>∃t u v,h.get? a=some { cls:=.type "range",data:=.fields #[.int lo t,.int m u,.int 1 v] }
 | .frz o u=>h.get? a=some o/\cf H h a u
 | .tbl ps=>h.get? a=some { cls:=.none,data:=.fields ps }
 | .met f x=>h.get? a=some (G1 (.ref f) (.ref x))
 | .ext φ=>φ h/\(∃o,h.get? a=some o)/\∀i j:B1,φ i->(∀o,i.get? a=some o->j.get? a=some o)->φ j
def HOk(H:Hp)(h:B1):Prop:=∀a o,H a=some o->cf P w H h a o
end
section
variable{P:AI}{w:AZ}{H H':Hp}{h h':B1}{a:Ag}{o:HO}
theorem cf.lt(x:cf P w H h a o):a<h.objs.size:=by
 cases o with
 | lst xs=>obtain⟨_,_,_,_,e⟩:=x;exact AF e
 | tup xs=>obtain⟨_,_,_,p⟩:=x;exact p.lt
 | dK b=>obtain⟨_,_,_,_,o,_,_,e,_⟩:=x;exact AF e
 | dT b=>obtain⟨_,_,_,_,o,_,_,e,_⟩:=x;exact AF e
 | set S n=>obtain⟨o,_,_,_,e,_⟩:=x;exact AF e
 | ins C dx c=>obtain⟨_,_,_,e,_⟩:=x;exact AF e
 | own y=>obtain⟨_,e⟩:=x;exact AF e
 | xd c=>obtain⟨_,⟨_,_,_,e,_⟩,_⟩:=x;exact AF e
 | rng lo d=>obtain⟨_,_,_,e⟩:=x;exact AF e
 | frz ob u=>obtain⟨e,_⟩:=x;exact AF e
 | tbl ps=>exact AF (show h.get? a=some _ from x)
 | met f y=>exact AF (show h.get? a=some _ from x)
 | ext φ=>obtain⟨_,⟨_,e⟩,_⟩:=x;exact AF e
theorem Paired.aiz{α β:Type}{F G:α->β->Prop}:∀{c:List α}{l₂:List β},Jg F c l₂->(∀a b,F a b->G a b)->Jg G c l₂
 | _,_,.nil,_=>.nil
 | _,_,.cons r t,f=>.cons (f _ _ r) (Paired.aiz t f)
theorem cf.x5(x:cf P w H h a o)(k:∀b u,(b=a\/H b=some (.own a))->h.get? b=some u->h'.get? b=some u)(A:∀b,H b=some (.own a)->H' b=some (.own a))(B:∀b xs,H b=some (.tup xs)->H' b=some (.tup xs)):cf P w H' h' a o:=by
 induction o with
 | lst xs=>obtain⟨z,j,n,r,e⟩:=x;exact⟨z,j,n,r,k _ _ (.inl rfl) e⟩
 | tup xs=>obtain⟨z,j,r,ob,e,c⟩:=x;exact⟨z,j,r,ob,k _ _ (.inl rfl) e,c⟩
 | dK l=>obtain⟨z,y,vs,r,ob,g,i,e,c⟩:=x;exact⟨z,y,vs,r,ob,g,i,k _ _ (.inl rfl) e,c⟩
 | dT l =>
  obtain⟨z,y,xs,r,ob,g,i,e,c⟩:=x;exact⟨z,y,xs,Paired.aiz r fun p q z=>⟨z.1,B _ _ z.2.1,z.2.2⟩,ob,g,i,k _ _ (.inl rfl) e,c⟩
 | set S n=>obtain⟨ob,g,i,t,e,c⟩:=x;exact⟨ob,g,i,t,k _ _ (.inl rfl) e,c⟩
 | ins C dx E =>
  obtain⟨d,z,G,e,m,⟨s,g,i,I,c⟩,r⟩:=x;exact⟨A _ d,z,G,k _ _ (.inl rfl) e,m,⟨s,g,i,k _ _ (.inr d) I,c⟩,r⟩
 | own y=>obtain⟨ob,e⟩:=x;exact⟨ob,k _ _ (.inl rfl) e⟩
 | xd E=>obtain⟨m,⟨s,g,i,e,c⟩,r⟩:=x;exact⟨m,⟨s,g,i,k _ _ (.inl rfl) e,c⟩,r⟩
 | rng lo M=>obtain⟨t,u,v,e⟩:=x;exact⟨t,u,v,k _ _ (.inl rfl) e⟩
 | frz ob u J=>obtain⟨e,q⟩:=x;exact⟨k _ _ (.inl rfl) e,J q⟩
 | tbl ps =>
  have e:h.get? a=some { cls:=.none,data:=.fields ps }:=x;show h'.get? a=some { cls:=.none,data:=.fields ps };exact k a _ (.inl rfl) e
 | met f y =>
  have e:h.get? a=some (G1 (.ref f) (.ref y)):=x;show h'.get? a=some (G1 (.ref f) (.ref y));exact k a _ (.inl rfl) e
 | ext φ=>obtain⟨p,⟨o,e⟩,st⟩:=x;exact⟨st _ _ p fun o q=>k _ _ (.inl rfl) q,⟨o,k _ _ (.inl rfl) e⟩,st⟩
theorem HOk.lt(x:HOk P w H h)(e:H a=some o):a<h.objs.size:=(x a o e).lt
theorem HOk.fresh(x:HOk P w H h)(e:h.objs.size<=a):H a=none:=by
 cases q:H a with
 | none=>rfl
 | some u=>exact absurd (AY (x.lt q) e) (Cd _)
theorem HOk.kept(x:HOk P w H h)(k:∀b u,h.get? b=some u->h'.get? b=some u):HOk P w H h':=fun a o e =>
 (x a o e).x5 (fun b u _ q=>k b u q) (fun _ q=>q) fun _ _ q=>q
theorem HOk.laid(x:HOk P w H h)(k:∀b u,h.get? b=some u->h'.get? b=some u)(g:h.objs.size<=a)(d:cf P w (upd H a o) h' a o):HOk P w (upd H a o) h':=fun b u e=>by
 have f:=x.fresh g
 by_cases hb:b=a
 ·subst hb;rw[ag] at e;cases e;exact d
 ·rw[aw hb] at e
  exact(x b u e).x5 (fun c v _ q=>k c v q) (fun c q=>by rw[aw (aB q f)];exact q) fun c xs q=>by rw[aw (aB q f)];exact q
end
def Rd(H:Hp)(a:Ag)(u:HO):Prop:=H a=some u\/∃o,H a=some (.frz o u)
theorem Rd.ok{P:AI}{w:AZ}{H:Hp}{h:B1}{a:Ag}{u:HO}(r:Rd H a u)(x:HOk P w H h):cf P w H h a u:=by
 rcases r with r|⟨o,r⟩
 ·exact x a u r
 ·obtain⟨_,q⟩:=x a _ r
  exact q
def Mut:Option HO->Prop
 | some (.lst _)=>True
 | some (.dK _)=>True
 | some (.dT _)=>True
 | some (.set _ _)=>True
 | some (.ins _ _ _)=>True
 | some (.ext _)=>True
 | _=>False
section
variable{P:AI}{w:AZ}{H:Hp}{h h':B1}{x e:Ag}{o':HO}
theorem HOk.write(ok:HOk P w H h)(f:Mut (H x))(he:e=x\/H e=some (.own x))(k:∀b u,b≠e->h.get? b=some u->h'.get? b=some u)(i:∃u,h'.get? e=some u)(j:cf P w (upd H x o') h' x o'):HOk P w (upd H x o') h':=fun b u q=>by
 have a:∀c y,H c=some (.own y)->c≠x:=fun c y r z=>by subst z;rw[r] at f;exact f
 have d:∀c xs,H c=some (.tup xs)->c≠x:=fun c xs r z=>by subst z;rw[r] at f;exact f
 by_cases hb:b=x
 ·subst hb;rw[ag] at q;cases q;exact j
 ·rw[aw hb] at q
  by_cases hbe:b=e
  ·have l:H b=some (.own x):=by
    rcases he with z|z
    ·exact absurd (hbe.trans z) hb
    ·rw[hbe];exact z
   rw[q] at l;cases l;obtain⟨v,m⟩:=i;exact⟨v,by rw[hbe];exact m⟩
  ·refine(ok b u q).x5 (fun c v g r=>k c v ?_ r) (fun c r=>by rw[aw (a c b r)];exact r) fun c xs r=>by rw[aw (d c xs r)];exact r
   rcases g with rfl|g
   ·exact hbe
   ·rintro rfl
    rcases he with z|z
    ·exact a c b g z
    ·rw[g] at z;cases z;exact hb rfl
end
structure Un(fs ex:List Ag)(H H':Hp)(h h':B1):Prop where
 keep:∀b o,h.get? b=some o->H b=none->b ∉ fs->b ∉ ex->h'.get? b=some o
 slot:∀b o,h.get? b=some o->H b=none->b∈fs->b ∉ ex->∃sl,h'.get? b=some { o with slots:=sl }
 free:∀b o,h.get? b=some o->H b=none->b ∉ ex->H' b=none
 there:∀b o,h.get? b=some o->b ∉ ex->∃o',h'.get? b=some o'
 tups:∀b xs,H b=some (.tup xs)->H' b=some (.tup xs)
 frzs:∀b o u,H b=some (.frz o u)->H' b=some (.frz o u)
 tbls:∀b ps,H b=some (.tbl ps)->∃more,H' b=some (.tbl (ps++more))
section
variable{fs fs' ex ex':List Ag}{H H1 H2:Hp}{h h1 h2 h':B1}{a x e:Ag}{o:HO}
theorem Un.any(u:Un fs ex H H1 h h1){b:Ag}{ob:D5}(q:h.get? b=some ob)(n:H b=none)(c:b ∉ ex):∃sl,h1.get? b=some { ob with slots:=sl }:=by
 by_cases hb:b∈fs
 ·exact u.slot b ob q n hb c
 ·exact⟨ob.slots,u.keep b ob q n hb c⟩
theorem Un.kept(k:∀b u,h.get? b=some u->h'.get? b=some u):Un fs ex H H h h' :=
 ⟨fun b ob q _ _ _=>k b ob q,fun b ob q _ _ _=>⟨ob.slots,k b ob q⟩,fun _ _ _ n _=>n,fun b ob q _=>⟨ob,k b ob q⟩,fun _ _ q=>q,fun _ _ _ q=>q,fun _ ps q=>⟨#[],by rw[q];simp⟩⟩
theorem Un.refl:Un fs ex H H h h:=Un.kept fun _ _ q=>q
theorem Un.laid(k:∀b u,h.get? b=some u->h'.get? b=some u)(d:h.objs.size<=a)(c:H a=none):Un fs ex H (upd H a o) h h' where
 keep:=fun b u q _ _ _=>k b u q
 slot:=fun b u q _ _ _=>⟨u.slots,k b u q⟩
 free:=fun b u q n _=>by rw[aw (Bj (AY (AF q) d))];exact n
 there:=fun b u q _=>⟨u,k b u q⟩
 tups:=fun b xs q=>by rw[aw (aB q c)];exact q
 frzs:=fun b u xs q=>by rw[aw (aB q c)];exact q
 tbls:=fun b ps q=>⟨#[],by rw[aw (aB q c),q];simp⟩
theorem Un.write(c:Mut (H x))(he:e=x\/H e=some (.own x))(k:∀b u,b≠e->h.get? b=some u->h'.get? b=some u)(d:∃u,h'.get? e=some u):Un fs ex H (upd H x o) h h':=by
 have g:∀b,H b=none->b≠x:=fun b n z=>by subst z;rw[n] at c;exact c
 have i:∀b,H b=none->b≠e:=fun b n z=>by
  subst z;rcases he with r|r
  ·exact g b n r
  ·rw[n] at r;cases r
 have f:∀b u,H b=some u->¬Mut (some u)->b≠x:=fun b u q j z=>by subst z;rw[q] at c;exact j c
 refine⟨fun b u q n _ _=>k b u (i b n) q,fun b u q n _ _=>⟨u.slots,k b u (i b n) q⟩,fun b u q n _=>by rw[aw (g b n)];exact n,fun b u q _ => ?_,
  fun b xs q=>by rw[aw (f b _ q fun z=>z)];exact q,fun b u xs q=>by rw[aw (f b _ q fun z=>z)];exact q,fun b ps q=>⟨#[],by rw[aw (f b _ q fun z=>z),q];simp⟩⟩
 by_cases hbe:b=e
 ·subst hbe;exact d
 ·exact⟨u,k b u hbe q⟩
end
noncomputable def trk(h:B1)(H:Hp):List Addr:=(An h.objs.size).filter fun a=>(H a).isSome
noncomputable def yd(h:B1)(H:Hp):Heap:=PySem.W.hideAll h (trk h H)
theorem aao(h:B1)(H:Hp):(yd h H).objs.size=h.objs.size:=PySem.W.hideAll_size _ _
theorem acE{h:B1}{H:Hp}{b:Ag}{o:D5}(e:h.get? b=some o)(n:H b=none):(yd h H).get? b=some o :=
 PySem.W.hideAll_get _ e fun a=>by
  have q:(H b).isSome=true:=(Bw.mp a).2;rw[n] at q;simp at q
theorem aeP{h:B1}{H:Hp}{b:Ag}{o:D5}(e:(yd h H).get? b=some o):h.get? b=some o/\H b=none:=by
 have a:h.get? b=some o:=PySem.W.of_hideAll (trk h H) e;refine⟨a,?_⟩;cases q:H b with
 | none=>rfl
 | some x =>
  have c:b∈trk h H:=Bw.mpr ⟨A6.mpr (AF a),by simp[q]⟩;have z:(yd h H).get? b=none:=PySem.W.hideAll_none (trk h H) c;rw[z] at e;cases e
structure Mod(K:Lf)(mg:Lg)(base:B1):Prop where
 kin:K.In base
 glob:base.Ns mainGlobals mg
 blt:∃mb,base.Ns builtinsNs mb/\∀x:AW,x ≠ "__name__" -> mb x=bootBuiltins x
 nolimit:base.NoLimit
structure Cx where
 prog:AI
 w:AZ
 K:Ae
 mg:AW->Option Ai
 base:B1
 A:B7
 N:List AW
 s_0:Aq
 H_0:Hp
 env:Ib
 outer:List Ib
 stack:List Ib
 ex:List Ag
 fn:AW->Bool
 calm:Bool
 pn:List (Ag×D5)
 xe:Ai->Aq->Prop
noncomputable def frs(l:List Ib):List Addr:=l.filterMap (·.frame)
noncomputable abbrev Cx.fs(X:Cx):List Addr:=frs X.outer
def Vis(a:Eg)(x:AW):Prop:=a.names.lookup x=some .local\/a.names.lookup x=some .cell\/a.names.lookup x=some .free
def Loc(a:Eg)(x:AW):Prop:=a.names.lookup x=some .local\/a.names.lookup x=some .cell
def Look(a:Ib)(h:B1)(m:AW->Option Ai)(x:AW)(u:Ai):Prop :=
 (a.kindOf x=some .local/\m x=some u)\/((a.kindOf x=some .cell\/a.kindOf x=some .free)/\∃c,a.cells.lookup x=some c/\h.IsCell c (some u))
structure Cx.Ok(X:Cx):Prop where
 mod:Mod X.K X.mg X.base
 kind:X.env.scope.kind=.function
 glob:X.env.globals=mainGlobals
 blt:X.env.builtins=builtinsNs
 above:X.s_0.heap.objs.size<=X.env.locals
 inj:∀x y c,X.env.cells.lookup x=some c->X.env.cells.lookup y=some c->x=y
 has:∀x,(X.env.kindOf x=some .cell\/X.env.kindOf x=some .free)->∃c,X.env.cells.lookup x=some c
 cab:∀x c,X.fn x=true->X.env.cells.lookup x=some c->X.s_0.heap.objs.size<=c
 hd:X.calm=true->X.A.handled=none
 frames:X.A.frames=some X.stack
 stk:X.stack=X.outer\/(X.stack=X.env::X.outer/\X.env.frame=some X.env.locals)
 exf:∀b∈X.ex,b≠X.env.locals/\∀x c,X.env.cells.lookup x=some c->c≠b
 bs:∀b o,X.base.get? b=some o->X.s_0.heap.get? b=some o/\X.H_0 b=none
 bsz:X.base.objs.size<=X.s_0.heap.objs.size
 noex:∀b o,X.base.get? b=some o->b ∉ X.ex
 exfs:∀b∈X.ex,b ∉ X.fs
 xW:X.s_0.heap.FunFrames X.base X.outer
 frf:∀b∈X.fs,X.H_0 b=none
structure Inv(X:Cx)(pins:List (Ag×D5))(σ:List (Option V))(H:Hp)(s:Aq):Prop where
 ok:X.Ok
 os:s.os=X.s_0.os
 bare:HV s.gens
 base:Un X.fs X.ex X.H_0 H X.s_0.heap s.heap
 loc:∃m,s.heap.Ns X.env.locals m/\∀(i:Nat)(x:AW)(v:V),X.N[i]? = some x->σ[i]? = some (some v)->Vis X.env.scope x->∃u,RelV v u/\Look X.env s.heap m x u
 cell:∀x c,X.env.cells.lookup x=some c->∃v,s.heap.IsCell c v
 free:H X.env.locals=none
 freeC:∀x c,X.env.cells.lookup x=some c->H c=none
 pin:∀p∈X.pn++pins,s.heap.get? p.1=some p.2/\H p.1=none/\p.1≠X.env.locals/\p.1 ∉ X.fs/\∀v,p.2.data≠.cell v
 hok:HOk X.prog X.w H s.heap
 len:σ.length=X.N.length
section
variable{X:Cx}{pins:List (Ag×D5)}{σ:List (Option V)}{H H':Hp}{s:Aq}{h':B1}
theorem Cx.Ok.ajE(ok:X.Ok){b:Ag}{o:D5}(e:X.base.get? b=some o):b ∉ X.fs:=fun a=>by
 have:=(ok.xW.mem a).1;rw[e] at this;cases this
theorem Inv.bs(I:Inv X pins σ H s):∀b o,X.base.get? b=some o->s.heap.get? b=some o/\H b=none:=fun b o e =>
 ⟨I.base.keep b o (I.ok.bs b o e).1 (I.ok.bs b o e).2 (I.ok.ajE e) (I.ok.noex b o e),I.base.free b o (I.ok.bs b o e).1 (I.ok.bs b o e).2 (I.ok.noex b o e)⟩
theorem Inv.bk(I:Inv X pins σ H s):∀b o,X.base.get? b=some o->s.heap.get? b=some o:=fun b o e=>(I.bs b o e).1
theorem Inv.mod(I:Inv X pins σ H s):Mod X.K X.mg X.base:=I.ok.mod
theorem Inv.kIn(I:Inv X pins σ H s):X.K.In s.heap:=I.ok.mod.kin.keeps I.bk
theorem Inv.nolimit(I:Inv X pins σ H s):s.heap.NoLimit:=I.ok.mod.nolimit.keeps I.bk
theorem Inv.lt(I:Inv X pins σ H s):X.env.locals<s.heap.objs.size:=let ⟨_,hn,_⟩:=I.loc;hn.lt
theorem Inv.sz(I:Inv X pins σ H s):X.s_0.heap.objs.size<=s.heap.objs.size:=Br I.ok.above (BQ I.lt)
theorem Inv.aju(I:Inv X pins σ H s){a:Ag}(h:s.heap.objs.size<=a):a ∉ X.fs:=fun b=>by
 obtain⟨_,o,c,_⟩:=I.ok.xW.mem b;exact absurd (AY (AF c) (Br I.sz h)) (Cd _)
theorem Inv.cne(I:Inv X pins σ H s):∀x c,X.env.cells.lookup x=some c->c≠X.env.locals:=fun x c e z=>by
 obtain⟨v,o,d,f⟩:=I.cell x c e;obtain⟨m,⟨g,i,j,a,b,_⟩,_⟩:=I.loc;rw[z,a] at d;cases d;rw[b] at f;cases f
theorem Inv.xW(I:Inv X pins σ H s):s.heap.FunFrames X.base X.outer:=by
 have a:∀(l:List Ib),(∀b∈frs l,b∈X.fs)->X.s_0.heap.FunFrames X.base l->s.heap.FunFrames X.base l:=by
  intro l
  induction l with
  | nil=>intro _ _;trivial
  | cons g r i =>
   intro f j;obtain⟨m,⟨L,o,hf,n,p,q⟩,u⟩:=j;have c:L∈X.fs:=f L (by unfold frs;rw[E7,hf];exact Ad);obtain⟨sl,e⟩:=I.base.slot L o p (I.ok.frf L c) c fun z=>I.ok.exfs L z c;exact⟨m,⟨L,_,hf,n,e,q⟩,i (fun b d=>f b (by unfold frs;rw[E7,hf];exact Ac _ d)) u⟩
 exact a X.outer (fun _ d=>d) I.ok.xW
theorem Inv.stack(I:Inv X pins σ H s):s.heap.FunFrames X.base X.stack:=by
 rcases I.ok.stk with e|⟨e,hf⟩
 ·rw[e];exact I.xW
 ·rw[e]
  obtain⟨m,a,_⟩:=I.loc;refine .cons (by rw[I.ok.kind];decide) hf a ?_ I.xW;exact Heap.get?_none_of_le (Br I.ok.bsz I.ok.above)
theorem Inv.x8(I:Inv X pins σ H s):∀b∈frs X.stack,b∈X.env.locals::X.fs:=fun b a=>by
 rcases I.ok.stk with e|⟨e,hf⟩
 ·rw[e] at a;exact Ac _ a
 ·rw[e] at a
  unfold frs at a;rw[E7,hf] at a;exact a
theorem Inv.sY(I:Inv X pins σ H s):∀b∈frs X.stack,H b=none:=fun b a=>by
 rcases Am.mp (I.x8 b a) with e|a
 ·rw[e];exact I.free
 ·obtain⟨_,o,c,_⟩:=I.ok.xW.mem a
  exact I.base.free b o c (I.ok.frf b a) fun z=>I.ok.exfs b z a
theorem Inv.step{g':Array GenState}{t':Nat}{d':Drawn}{ch:List Ag}(I:Inv X pins σ H s)(f:∀b∈ch,(b∈X.ex\/X.s_0.heap.objs.size<=b)/\b≠X.env.locals/\(∀x c,X.env.cells.lookup x=some c->c≠b)/\∀p∈X.pn++pins,p.1≠b)(g:∀b o,b≠X.env.locals->b ∉ X.fs->b ∉ ch->s.heap.get? b=some o->H b=none->h'.get? b=some o)(B:∀b o,b≠X.env.locals->b∈X.fs->b ∉ ch->s.heap.get? b=some o->H b=none->∃sl,h'.get? b=some { o with slots:=sl })(free:∀b o,b ∉ ch->s.heap.get? b=some o->H b=none->H' b=none)(C:∀b o,b ∉ ch->s.heap.get? b=some o->∃J,h'.get? b=some J)(M:∀b xs,H b=some (.tup xs)->H' b=some (.tup xs))(O:∀b o u,H b=some (.frz o u)->H' b=some (.frz o u))(P:∀b ps,H b=some (.tbl ps)->∃R,H' b=some (.tbl (ps++R)))(ns:∀m,s.heap.Ns X.env.locals m->h'.Ns X.env.locals m)(W:HOk X.prog X.w H' h')(hg:HV g'):
  Inv X pins σ H' { s with heap:=h',gens:=g',drawn:=d',toks:=t' }:=by
 have S:∀b o,X.s_0.heap.get? b=some o->b≠X.env.locals:=fun b o e=>Bj (AY (AF e) I.ok.above);have A:∀b o,X.s_0.heap.get? b=some o->b ∉ X.ex->b ∉ ch:=fun b o e a E=>by
  rcases(f b E).1 with z|z
  ·exact a z
  ·exact absurd (AY (AF e) z) (Cd _)
 have j:∀x c,X.env.cells.lookup x=some c->∀v,s.heap.IsCell c v->h'.IsCell c v:=fun x c e v ⟨o,G,Y⟩=>by
  have y:c ∉ ch:=fun z=>(f c z).2.2.1 x c e rfl
  by_cases hc:c∈X.fs
  ·obtain⟨sl,q⟩:=B c o (I.cne x c e) hc y G (I.freeC x c e)
   exact⟨_,q,Y⟩
  ·exact⟨o,g c o (I.cne x c e) hc y G (I.freeC x c e),Y⟩
 refine⟨I.ok,I.os,hg,⟨fun b o e n E a => ?_,fun b o e n E a => ?_,fun b o e n a => ?_,fun b o e a => ?_,fun b xs e=>M b xs (I.base.tups b xs e),fun b o xs e=>O b o xs (I.base.frzs b o xs e),fun b ps e => ?_⟩,?_,fun x c e => ?_,?_,fun x c e => ?_,fun p hp => ?_,W,I.len⟩
 ·exact g b o (S b o e) E (A b o e a) (I.base.keep b o e n E a) (I.base.free b o e n a)
 ·obtain⟨sl,e1⟩:=I.base.slot b o e n E a
  obtain⟨Z,T⟩:=B b _ (S b o e) E (A b o e a) e1 (I.base.free b o e n a);exact⟨Z,T⟩
 ·obtain⟨J,e1⟩:=I.base.there b o e a
  exact free b J (A b o e a) e1 (I.base.free b o e n a)
 ·obtain⟨J,e1⟩:=I.base.there b o e a
  exact C b J (A b o e a) e1
 ·obtain⟨m1,e1⟩:=I.base.tbls b ps e
  obtain⟨m2,T⟩:=P b _ e1;exact⟨m1++m2,by rw[T,Array.append_assoc]⟩
 ·obtain⟨m,hn,hl⟩:=I.loc
  refine⟨m,ns m hn,fun i x v e1 T e3 => ?_⟩;obtain⟨u,r,l⟩:=hl i x v e1 T e3;refine⟨u,r,?_⟩;rcases l with l|⟨k,c,e,z⟩
  ·exact .inl l
  ·exact .inr ⟨k,c,e,j x c e _ z⟩
 ·obtain⟨v,z⟩:=I.cell x c e
  exact⟨v,j x c e v z⟩
 ·obtain⟨m,⟨o,_,_,G,_⟩,_⟩:=I.loc
  exact free _ o (fun z=>(f _ z).2.1 rfl) G I.free
 ·obtain⟨v,o,G,Y⟩:=I.cell x c e
  exact free c o (fun z=>(f c z).2.2.1 x c e rfl) G (I.freeC x c e)
 ·obtain⟨e,n,ne,nf,d⟩:=I.pin p hp
  have y:p.1 ∉ ch:=fun z=>(f p.1 z).2.2.2 p hp rfl;exact⟨g p.1 p.2 ne nf y e n,free p.1 p.2 y e n,ne,nf,d⟩
theorem Inv.un{t':Nat}(I:Inv X pins σ H s)(u:Un X.fs [] H H' s.heap h')(c:HOk X.prog X.w H' h'):Inv X pins σ H' { s with heap:=h',toks:=t' }:=by
 obtain⟨m,⟨o,q,v,i,r⟩,_⟩:=id I.loc;obtain⟨sl,j⟩:=u.any i I.free (by simp);exact I.step (g':=s.gens) (d':=s.drawn) (ch := []) (fun _ z=>nomatch z) (fun b o _ d _ e n=>u.keep b o e n d (by simp)) (fun b o _ d _ e n=>u.slot b o e n d (by simp)) (fun b o _ e n=>u.free b o e n (by simp)) (fun b o _ e=>u.there b o e (by simp)) u.tups u.frzs u.tbls (fun y l=>by
  obtain⟨A,f,g,a,p⟩:=l;rw[i] at a;cases a;exact⟨_,f,g,j,p⟩) c I.bare
theorem Inv.call{g':Array GenState}{t':Nat}{d':Drawn}{ch:List Ag}(I:Inv X pins σ H s)(u:Un (frs X.stack) ch H H' s.heap h')(g:HOk X.prog X.w H' h')(v:HV g')(d:∀b∈ch,(b∈X.ex\/X.s_0.heap.objs.size<=b)/\b≠X.env.locals/\(∀x c,X.env.cells.lookup x=some c->c≠b)/\∀p∈X.pn++pins,p.1≠b):
  Inv X pins σ H' { s with heap:=h',gens:=g',drawn:=d',toks:=t' }:=by
 obtain⟨m,⟨o,C,E,q,r⟩,_⟩:=id I.loc;obtain⟨sl,i⟩:=u.any q I.free fun z=>(d _ z).2.1 rfl;exact I.step (ch:=ch) d (fun b o i y a e n=>u.keep b o e n (fun z=>(Am.mp (I.x8 b z)).elim i y) a) (fun b o _ _ a e n=>u.any e n a) (fun b o a e n=>u.free b o e n a) (fun b o a e=>u.there b o e a) u.tups u.frzs u.tbls (fun G A=>by
  obtain⟨J,j,l,f,B⟩:=A;rw[q] at f;cases f;exact⟨_,j,l,i,B⟩) g v
theorem Inv.turned{t':Nat}{it:Ag}(I:Inv X pins σ H s)(k:∀b o,b≠it->s.heap.get? b=some o->h'.get? b=some o)(g:H it=none)(f:it≠X.env.locals)(i:it∈X.ex\/X.s_0.heap.objs.size<=it)(j:∀x c,X.env.cells.lookup x=some c->c≠it)(l:∀p∈X.pn++pins,p.1≠it):Inv X pins σ H { s with heap:=h',toks:=t' }:=by
 have d:∀b u,H b=some u->b≠it:=fun b u e z=>by rw[z,g] at e;cases e
 refine I.step (g':=s.gens) (d':=s.drawn) (ch := [it]) (fun b w => ?_) (fun b o _ _ a e _=>k b o (fun z=>a (by simp[z])) e) (fun b o _ _ a e _=>⟨o.slots,k b o (fun z=>a (by simp[z])) e⟩) (fun _ _ _ _ n=>n)
  (fun b o a e=>⟨o,k b o (fun z=>a (by simp[z])) e⟩) (fun _ _ e=>e) (fun _ _ _ e=>e) (fun b ps e=>⟨#[],by rw[e];simp⟩) (fun m y => ?_) (fun b u e => ?_) I.bare
 ·have e:b=it:=by simpa using w
  subst e;exact⟨i,f,j,l⟩
 ·obtain⟨o,A,B,C,r⟩:=y
  exact⟨o,A,B,k _ o (Ne.symm f) C,r⟩
 ·refine(I.hok b u e).x5 (fun c v a q=>k c v ?_ q) (fun _ q=>q) fun _ _ q=>q
  rcases a with z|z
  ·rw[z];exact d b u e
  ·exact d c _ z
theorem Inv.tok(I:Inv X pins σ H s)(t:Nat):Inv X pins σ H { s with toks:=t }:=I.un (h':=s.heap) (t':=t) Un.refl I.hok
theorem Inv.kept{t':Nat}(I:Inv X pins σ H s)(k:∀b u,s.heap.get? b=some u->h'.get? b=some u):Inv X pins σ H { s with heap:=h',toks:=t' }:=I.un (Un.kept k) (I.hok.kept k)
theorem Inv.laid{a:Ag}{o:HO}{t':Nat}(I:Inv X pins σ H s)(k:∀b u,s.heap.get? b=some u->h'.get? b=some u)(c:s.heap.objs.size<=a)(d:cf X.prog X.w (upd H a o) h' a o):
  Inv X pins σ (upd H a o) { s with heap:=h',toks:=t' }:=I.un (Un.laid k c (I.hok.fresh c)) (I.hok.laid k c d)
theorem Inv.write{x e:Ag}{o:HO}{t':Nat}(I:Inv X pins σ H s)(d:Mut (H x))(he:e=x\/H e=some (.own x))(k:∀b u,b≠e->s.heap.get? b=some u->h'.get? b=some u)(a:∃u,h'.get? e=some u)(c:cf X.prog X.w (upd H x o) h' x o):Inv X pins σ (upd H x o) { s with heap:=h',toks:=t' }:=I.un (Un.write d he k a) (I.hok.write d he k a c)
theorem Inv.weak{a:List (Option V)}(I:Inv X pins σ H s)(b:a.length=σ.length)(w:∀(i:Nat) v,a[i]? = some (some v)->σ[i]? = some (some v)):Inv X pins a H s :=
 ⟨I.ok,I.os,I.bare,I.base,let ⟨m,hn,hl'⟩:=I.loc;⟨m,hn,fun i x v e1 c d=>hl' i x v e1 (w i v c) d⟩,I.cell,I.free,I.freeC,I.pin,I.hok,b.trans I.len⟩
theorem Inv.ki{a:List (Ag×D5)}(I:Inv X pins σ H s)(h:∀p∈a,s.heap.get? p.1=some p.2/\H p.1=none/\p.1≠X.env.locals/\p.1 ∉ X.fs/\∀v,p.2.data≠.cell v):Inv X a σ H s :=
 ⟨I.ok,I.os,I.bare,I.base,I.loc,I.cell,I.free,I.freeC,fun p b=>(A4.mp b).elim (fun z=>I.pin p (AM _ z)) (h p),I.hok,I.len⟩
theorem qB{N:List AW}(c:N.Nodup){i j:Nat}{x:AW}(a:N[i]? = some x)(b:N[j]? = some x):i=j:=by
 obtain⟨e,e1⟩:=Aj.mp a;obtain⟨f,d⟩:=Aj.mp b;exact(Jh c).mp (e1.trans d.symm)
theorem rX{M:Kk}{A:B7}{E:Ai->Aq->Prop}{i:Nat}{x:AW}{v:V}{u:Ai}{Q:Unit->Aq->Prop}(I:Inv X pins σ H s)(hN:X.N.Nodup)(S:X.N[i]? = some x)(B:Loc X.env.scope x)(r:RelV v u)(h:∀s',Inv X pins (σ.set i (some v)) H s'->(∃a,Ez a s.heap s'.heap/\(a=X.env.locals\/X.env.cells.lookup x=some a))->Q () s')(hf:X.fn x=true\/X.env.scope.names.lookup x=some .local:=by first|exact .inl rfl|exact .inr rfl|assumption):wpAny M A (storeName X.env x u) Q E s:=by
 obtain⟨m,hn,hl⟩:=id I.loc;have T:(X.env.scope.kind==.class||(X.env.scope.kind==.module&&X.env.locals != X.env.globals))=false:=by rw[I.ok.kind];rfl
 have W:i<σ.length:=by rw[I.len];exact(Aj.mp S).1
 have O:=I.cne;have g:∀{a:Ag}{h':B1},(∃o,s.heap.get? a=some o/\H a=none)->Ez a s.heap h'->HOk X.prog X.w H h':=fun{a h'} ha f b ob e=>by
  obtain⟨_,_,C⟩:=ha;refine(I.hok b ob e).x5 (fun c w' l q=>(f.2 c ?_).trans q) (fun _ q=>q) fun _ _ q=>q;rintro rfl;rcases l with rfl|l
  ·rw[C] at e;cases e
  ·rw[C] at l;cases l
 rcases B with J|J
 ·refine wpAny_storeName_local J hn (fun h' a3 f => ?_) T
  obtain⟨oL,_,_,a4,_⟩:=id hn;refine h _ ⟨I.ok,I.os,I.bare,⟨fun b o e n P B => ?_,fun b o e n P B => ?_,I.base.free,fun b o e B => ?_,I.base.tups,I.base.frzs,I.base.tbls⟩,⟨_,a3,fun j y v' e1 G e3 => ?_⟩,fun y c e => ?_,I.free,I.freeC,fun p hp => ?_,g ⟨oL,a4,I.free⟩ f,by simpa using I.len⟩ ⟨_,f,.inl rfl⟩
  ·exact(f.2 b (Bj (AY (AF e) I.ok.above))).trans (I.base.keep b o e n P B)
  ·obtain⟨sl,e1⟩:=I.base.slot b o e n P B
   exact⟨sl,(f.2 b (Bj (AY (AF e) I.ok.above))).trans e1⟩
  ·obtain⟨o',e1⟩:=I.base.there b o e B
   exact⟨o',(f.2 b (Bj (AY (AF e) I.ok.above))).trans e1⟩
  ·by_cases hj:j=i
   ·subst hj
    rw[S] at e1;cases e1;rw[C1 W] at G;cases G
    exact⟨u,r,.inl ⟨J,by simp⟩⟩
   ·rw[Cv (Ne.symm hj)] at G
    obtain⟨u',r',q⟩:=hl j y v' e1 G e3;refine⟨u',r',?_⟩;rcases q with⟨k,e⟩|⟨k,c,e,z⟩
    ·refine .inl ⟨k,?_⟩
     have:y≠x:=fun e=>hj (qB hN e1 (e▸S));simp[this,e]
    ·exact .inr ⟨k,c,e,z.sameBut f (O y c e)⟩
  ·obtain⟨w',z⟩:=I.cell y c e
   exact⟨w',z.sameBut f (O y c e)⟩
  ·obtain⟨e,n,ne,nf,d⟩:=I.pin p hp
   exact⟨(f.2 p.1 ne).trans e,n,ne,nf,d⟩
 ·have R:X.fn x=true:=by
   rcases hf with z|z
   ·exact z
   ·rw[z] at J;cases J
  obtain⟨c,l⟩:=I.ok.has x (.inl J);obtain⟨w',z⟩:=I.cell x c l;refine wpAny_storeName_cell I.ok.kind J l z (fun h' Y f => ?_);obtain⟨oc,Z,a0⟩:=id z;refine h { s with heap:=h' } ⟨I.ok,I.os,I.bare,⟨fun b o e n P B => ?_,fun b o e n P B => ?_,I.base.free,fun b o e B => ?_,I.base.tups,I.base.frzs,I.base.tbls⟩,⟨m,hn.sameBut f (Ne.symm (O x c l)),fun j y v' e1 G e3 => ?_⟩,fun y c' e => ?_,I.free,I.freeC,fun p hp => ?_,g ⟨oc,Z,I.freeC x c l⟩ f,by simpa using I.len⟩ ⟨c,f,.inr l⟩
  ·exact(f.2 b (Bj (AY (AF e) (I.ok.cab x c R l)))).trans (I.base.keep b o e n P B)
  ·obtain⟨sl,e1⟩:=I.base.slot b o e n P B
   exact⟨sl,(f.2 b (Bj (AY (AF e) (I.ok.cab x c R l)))).trans e1⟩
  ·obtain⟨o',e1⟩:=I.base.there b o e B
   exact⟨o',(f.2 b (Bj (AY (AF e) (I.ok.cab x c R l)))).trans e1⟩
  ·by_cases hj:j=i
   ·subst hj
    rw[S] at e1;cases e1;rw[C1 W] at G;cases G
    exact⟨u,r,.inr ⟨.inl J,c,l,Y⟩⟩
   ·rw[Cv (Ne.symm hj)] at G
    obtain⟨u',r',q⟩:=hl j y v' e1 G e3;refine⟨u',r',?_⟩;rcases q with q|⟨k,c',e,z'⟩
    ·exact .inl q
    ·refine .inr ⟨k,c',e,z'.sameBut f ?_⟩
     rintro rfl;exact hj (qB hN e1 (I.ok.inj _ _ _ e l▸S))
  ·by_cases hcc:c'=c
   ·subst hcc;exact⟨_,Y⟩
   ·obtain⟨w2,z2⟩:=I.cell y c' e
    exact⟨w2,z2.sameBut f hcc⟩
  ·obtain⟨e,n,ne,nf,d⟩:=I.pin p hp
   refine⟨(f.2 p.1 ?_).trans e,n,ne,nf,d⟩;intro q;rw[q,Z] at e;have q':oc=p.2:=Ah e;exact d w' (by rw[<- q'];exact a0)
theorem vJ{M:Kk}{A:B7}{E:Ai->Aq->Prop}{i:Nat}{x:AW}{v:V}{u:Ai}{Q:Unit->Aq->Prop}(I:Inv X pins σ H s)(b:X.N.Nodup)(c:X.N[i]? = some x)(d:Loc X.env.scope x)(r:RelV v u)(h:∀a,Inv X pins (σ.set i (some v)) H a->Q () a)(hf:X.fn x=true\/X.env.scope.names.lookup x=some .local:=by first|exact .inl rfl|exact .inr rfl|assumption):wpAny M A (storeName X.env x u) Q E s :=
 rX I b c d r (fun a e _=>h a e) hf
theorem Inv.aiv{a:Aq}{ch:List Ag}(I:Inv X pins σ H s)(g:a.os=s.os)(u:Un (frs X.stack) ch H H' s.heap a.heap)(d:HOk X.prog X.w H' a.heap)(i:HV a.gens)(f:∀b∈ch,(b∈X.ex\/X.s_0.heap.objs.size<=b)/\b≠X.env.locals/\(∀x c,X.env.cells.lookup x=some c->c≠b)/\∀p∈X.pn++pins,p.1≠b):Inv X pins σ H' a:=by
 obtain⟨h',g',d',t',j⟩:=a;have e:j=s.os:=g;subst e;exact I.call (g':=g') (t':=t') (d':=d') u d i f
end
abbrev XK:=Ai->Option Ag->Hp->Prop
abbrev St:=List (Option V)
abbrev VK:=V->Hp->Prop
abbrev TE:=St->Hp->VK->Prop
abbrev TT:=St->Hp->(Bool->Hp->Prop)->Prop
abbrev TA:=St->Hp->(List V->Hp->Prop)->Prop
structure Ends where
 nx:St->Hp->Prop
 rt:VK
 bk:St->Hp->Prop:=fun _ _=>False
 ct:St->Hp->Prop:=fun _ _=>False
abbrev TS:=Ends->St->Hp->Prop
def EP(X:Cx)(pins:List (Ag×D5))(σ:St)(Q:VK)(u:Ai)(b:Aq):Prop:=∃v a,Inv X pins σ a b/\RelV v u/\Q v a
def TP(X:Cx)(pins:List (Ag×D5))(σ:St)(Q:Bool->Hp->Prop)(b:Bool)(c:Aq):Prop:=∃a,Inv X pins σ a c/\Q b a
def AP(X:Cx)(pins:List (Ag×D5))(σ:St)(Q:List V->Hp->Prop)(us:List Ai)(b:Aq):Prop:=∃vs a,Inv X pins σ a b/\Vals vs us/\Q vs a
def SP(X:Cx)(pins:List (Ag×D5))(D:Ends)(f:Flow)(c:Aq):Prop :=
 match f with
 | .next=>∃b a,Inv X pins b a c/\D.nx b a
 | .brk=>∃b a,Inv X pins b a c/\D.bk b a
 | .cont=>∃b a,Inv X pins b a c/\D.ct b a
 | .ret u=>∃v b a,Inv X pins b a c/\RelV v u/\D.rt v a
def PE(X:Cx)(e:B9)(t:TE):Prop :=
 ∀(pins:List (Ag×D5))(s:Aq)(σ:St)(H:Hp)(Q:VK),Inv X pins σ H s->t σ H Q->wpAny (model X.prog X.w) X.A (eval e X.env) (EP X pins σ Q) X.xe s
def PT(X:Cx)(e:B9)(t:TT):Prop :=
 ∀(pins:List (Ag×D5))(s:Aq)(σ:St)(H:Hp)(Q:Bool->Hp->Prop),Inv X pins σ H s->t σ H Q->wpAny (model X.prog X.w) X.A (isTrue e X.env (eval e X.env)) (TP X pins σ Q) X.xe s
def PW(X:Cx)(e:B9)(t:TT):Prop :=
 ∀(a:K2 Ai)(pins:List (Ag×D5))(s:Aq)(σ:St)(H:Hp)(Q:Bool->Hp->Prop),Inv X pins σ H s->t σ H Q->wpAny (model X.prog X.w) X.A (isTrue e X.env a) (TP X pins σ Q) X.xe s
theorem PW.pt{X:Cx}{e:B9}{t:TT}(h:PW X e t):PT X e t:=h _
def PA(X:Cx)(a:List B9)(t:TA):Prop :=
 ∀(pos:Pos)(pins:List (Ag×D5))(s:Aq)(σ:St)(H:Hp)(Q:List V->Hp->Prop),Inv X pins σ H s->t σ H Q->wpAny (model X.prog X.w) X.A (spliced (backTo pos (starEach a X.env))) (AP X pins σ Q) X.xe s
def PS(X:Cx)(st:F6)(t:TS):Prop :=
 ∀(pins:List (Ag×D5))(s:Aq)(σ:St)(H:Hp)(D:Ends),Inv X pins σ H s->t D σ H->wpAny (model X.prog X.w) X.A (exec st X.env) (SP X pins D) X.xe s
def PSs(X:Cx)(st:List F6)(t:TS):Prop :=
 ∀(pins:List (Ag×D5))(s:Aq)(σ:St)(H:Hp)(D:Ends),Inv X pins σ H s->t D σ H->wpAny (model X.prog X.w) X.A (execs st X.env) (SP X pins D) X.xe s
theorem thn{α:Type}{t:K2 α}{Q b:α->Aq->Prop}{M:Kk}{A:B7}{E:Ai->Aq->Prop}{s:Aq}(h:wpAny M A t Q E s)(c:∀a s,Q a s->b a s):wpAny M A t b E s:=C2 h c fun _ _ x=>x
section
variable{X:Cx}
inductive aja(i:Nat)(σ:St)(H:Hp)(Q:VK):Prop
 | mk (v:V)(h:σ[i]? = some (some v))(q:Q v H)
def qd(i:Nat):TE:=fun σ H Q=>aja i σ H Q
def tC(v:V):TE:=fun _ H Q=>Q v H
theorem ahA{i:Nat}{x:AW}{pos:Pos}(n:X.N[i]? = some x)(o:Vis X.env.scope x)(f:(x==("__debug__" : AW))=false:=by decide)(g:(x==("__classdict__" : AW))=false:=by decide):PE X (.Name x pos) (qd i):=by
 intro pins s σ H Q I h;obtain⟨v,e,h⟩:=h;obtain⟨m,p,q⟩:=I.loc;obtain⟨u,r,l⟩:=q i x v n e o;have b:EP X pins σ Q u s:=⟨v,H,I,r,h⟩;rcases l with⟨d,w⟩|⟨d,c,j,a⟩
 ·exact JG (wpAny_loadName_local I.ok.kind d p w b) f
 ·rcases d with d|d
  ·exact JG (wpAny_loadName_cell I.ok.kind d j a b) f
  ·exact JG (wpAny_loadName_free I.ok.kind d j a b g) f
theorem aq{i j pos}:PE X (.Constant (.int i) j pos) (tC (.int i)):=fun _ _ _ H _ I h=>wpAny_Constant_int ⟨.int i,H,I.tok _,⟨_,rfl⟩,h⟩
theorem iF{b j pos}:PE X (.Constant (.bool b) j pos) (tC (.bl b)):=fun _ _ _ H _ I h=>Constant_bool ⟨.bl b,H,I,rfl,h⟩
theorem eI{j pos}:PE X (.Constant .none j pos) (tC .non):=fun _ _ _ H _ I h=>Ic ⟨.non,H,I,rfl,h⟩
def Gl(X:Cx)(x:AW):Prop:=X.env.kindOf x=some .globalImplicit
theorem tD{E:Ai->Aq->Prop}{pins:List (Ag×D5)}{s:Aq}{σ:St}{H:Hp}{x:AW}{u:Ai}{pos:Pos}{Q:Ai->Aq->Prop}(I:Inv X pins σ H s)(a:Gl X x)(b:X.mg x=some u)(h:Q u s)(c:(x==("__debug__" : AW))=false:=by decide):wpAny (model X.prog X.w) X.A (eval (.Name x pos) X.env) Q E s :=
 Gj I.ok.kind a (Calls.loadGlobal_global (by rw[I.ok.glob];exact I.mod.glob.keeps I.bk) b h) c
theorem gw{E:Ai->Aq->Prop}{pins:List (Ag×D5)}{s:Aq}{σ:St}{H:Hp}{x:AW}{u:Ai}{pos:Pos}{Q:Ai->Aq->Prop}(I:Inv X pins σ H s)(a:Gl X x)(b:X.mg x=none)(c:bootBuiltins x=some u)(h:Q u s)(d:x ≠ "__name__" := by decide)(e:(x==("__debug__" : AW))=false:=by decide):wpAny (model X.prog X.w) X.A (eval (.Name x pos) X.env) Q E s:=by
 obtain⟨i,f,g⟩:=I.mod.blt;exact Gj I.ok.kind a (Calls.loadGlobal_builtin (by rw[I.ok.glob];exact I.mod.glob.keeps I.bk) b (by rw[I.ok.blt];exact f.keeps I.bk) ((g x d).trans c) h) e
theorem aaV{x:AW}{v:V}{u:Ai}{pos:Pos}(a:Gl X x)(b:X.mg x=some u)(r:RelV v u)(c:(x==("__debug__" : AW))=false:=by decide):PE X (.Name x pos) (tC v) :=
 fun _ _ _ H _ I h=>tD I a b ⟨v,H,I,r,h⟩ c
variable{a b:B9}{ta tb:TE}{pos:Pos}
def PC(X:Cx)(op:K3)(a b:B9)(t:TE):Prop :=
 ∀(pins:List (Ag×D5))(s:Aq)(σ:St)(H:Hp)(Q:VK),Inv X pins σ H s->t σ H Q ->
  wpAny (model X.prog X.w) X.A (eval a X.env) (fun v c=>wpAny (model X.prog X.w) X.A (eval b X.env) (fun u d=>wpAny (model X.prog X.w) X.A (compareOp op v u) (EP X pins σ Q) X.xe d) X.xe c) X.xe s
theorem ab2(b:B9){op:K3}(h:op≠.In)(c:op≠.NotIn):behindInMarks op b=false:=by
 have e1:(op==CmpOp.In)=false:=by cases op <;> first|rfl|exact absurd rfl h
 have d:(op==K4)=false:=by cases op <;> first|rfl|exact absurd rfl c
 cases b <;> simp[behindInMarks,e1,d]
def ajU(ta:TE):TE:=fun σ H Q=>ta σ H fun x H1=>Q (.bl (decide (x=.non))) H1
def aih(ta:TE):TE:=fun σ H Q=>ta σ H fun x H1=>Q (.bl (!decide (x=.non))) H1
theorem RelV.vF{x:V}{v:Ai}(r:RelV x v):(v==DJ)=decide (x=.non):=by
 cases x with
 | non=>cases r;rfl
 | bl _=>cases r;rfl
 | int _=>obtain⟨t,rfl⟩:=r;rfl
 | str _=>obtain⟨t,rfl⟩:=r;rfl
 | byt _=>obtain⟨t,rfl⟩:=r;rfl
 | flt _=>obtain⟨t,rfl⟩:=r;rfl
 | ref _=>cases r;rfl
 | ty _=>cases r;rfl
theorem afS{j pos'}(c:PE X a ta):PC X .Is a (.Constant .none j pos') (ajU ta):=by
 intro pins s σ H Q I h;refine thn (c pins s σ H _ I h) fun v g ⟨x,H1,d,e,f⟩ => ?_;exact Ic (is_none_gen ⟨.bl _,H1,d,by rw[e.vF];rfl,f⟩)
theorem mC{j pos'}(c:PE X a ta):PC X .IsNot a (.Constant .none j pos') (aih ta):=by
 intro pins s σ H Q I h;refine thn (c pins s σ H _ I h) fun v g ⟨x,H1,d,e,f⟩ => ?_;exact Ic (isnot_none_gen ⟨.bl _,H1,d,by rw[e.vF];rfl,f⟩)
inductive TBl(x:V)(H:Hp)(Q:Bool->Hp->Prop):Prop
 | mk (c:Bool)(h:x=.bl c)(q:Q c H)
def tB(t:TE):TT:=fun σ H Q=>t σ H fun x H1=>TBl x H1 Q
theorem gg{op:K3}{t:TE}(h:PC X op a b t)(e:behindInMarks op b=false:=by first|exact ab2 _ (by decide) (by decide)|rfl):PT X (.Compare a [op] [b] pos) (tB t):=by
 intro pins s σ H Q I f;refine Hu (thn (h pins s σ H _ I f) fun v m e=>thn e fun u n g=>thn g fun c o ⟨x,H1,i,j,l⟩ => ?_) e;obtain⟨d,rfl,q⟩:=l;cases j
 exact DD ⟨H1,i,q⟩
variable{tA tB':TT}{rest:List B9}
def ajz(t u:TT):TT:=fun σ H Q=>t σ H fun c H1=>if c=true then u σ H1 Q else Q false H1
def tOr(t u:TT):TT:=fun σ H Q=>t σ H fun c H1=>if c=true then Q true H1 else u σ H1 Q
def ajL(t:TT):TT:=fun σ H Q=>t σ H fun c H1=>Q (!c) H1
theorem gD(d:PT X a tA):PW X (.BoolOp .And [a] pos) tA:=by
 intro f pins s σ H Q I h;refine isTrue_and (thn (d pins s σ H Q I h) fun c g e => ?_);cases c with
 | true=>exact isTrue_and_nil e
 | false=>exact e
theorem jv(d:PT X a tA):PW X (.BoolOp .Or [a] pos) tA:=by
 intro f pins s σ H Q I h;refine isTrue_or (thn (d pins s σ H Q I h) fun c g e => ?_);cases c with
 | false=>exact isTrue_or_nil e
 | true=>exact e
theorem k9(f:PT X a tA)(g:PW X (.BoolOp .And (b::rest) pos) tB'):PW X (.BoolOp .And (a::b::rest) pos) (ajz tA tB'):=by
 intro i pins s σ H Q I h;refine isTrue_and (thn (f pins s σ H _ I h) fun c j ⟨H1,d,e⟩ => ?_);cases c with
 | true=>exact g i pins j σ H1 Q d e
 | false=>exact⟨H1,d,e⟩
theorem qr(f:PT X a tA)(g:PW X (.BoolOp .Or (b::rest) pos) tB'):PW X (.BoolOp .Or (a::b::rest) pos) (tOr tA tB'):=by
 intro i pins s σ H Q I h;refine isTrue_or (thn (f pins s σ H _ I h) fun c j ⟨H1,d,e⟩ => ?_);cases c with
 | true=>exact⟨H1,d,e⟩
 | false=>exact g i pins j σ H1 Q d e
theorem oN(d:PT X a tA):PT X (.UnaryOp .Not a pos) (ajL tA):=by
 intro pins s σ H Q I h;exact isTrue_not (d pins s σ H (fun c H1=>Q (!c) H1) I h)
def ahW(ta tb:TE):TE:=fun σ H Q=>ta σ H fun x H1=>TBl x H1 fun c H1=>if c=true then tb σ H1 Q else Q (.bl false) H1
def ajN(ta tb:TE):TE:=fun σ H Q=>ta σ H fun x H1=>∃c,x=.bl c/\if c=true then Q (.bl true) H1 else tb σ H1 Q
def ahZ(ta:TE):TE:=fun σ H Q=>ta σ H fun x H1=>∃c,x=.bl c/\Q (.bl (!c)) H1
theorem gv{op}{t:TE}(h:PE X a t):PE X (.BoolOp op [a] pos) t:=fun pins s σ H Q I c=>BoolOp_one (h pins s σ H Q I c)
theorem gI(f:PE X a ta)(g:PE X (.BoolOp .And (b::rest) pos) tb):PE X (.BoolOp .And (a::b::rest) pos) (ahW ta tb):=by
 intro pins s σ H Q I h;refine BoolOp_and (thn (f pins s σ H _ I h) fun v i ⟨x,H1,e,j,d⟩ => ?_);obtain⟨c,rfl,d⟩:=d;cases j
 refine DD ?_;cases c with
 | true=>exact g pins i σ H1 Q e d
 | false=>exact⟨.bl false,H1,e,rfl,d⟩
theorem aeK(f:PE X a ta)(g:PE X (.BoolOp .Or (b::rest) pos) tb):PE X (.BoolOp .Or (a::b::rest) pos) (ajN ta tb):=by
 intro pins s σ H Q I h;refine BoolOp_or (thn (f pins s σ H _ I h) fun v i ⟨x,H1,e,j,d⟩ => ?_);obtain⟨c,rfl,d⟩:=d;cases j
 refine DD ?_;cases c with
 | false=>exact g pins i σ H1 Q e d
 | true=>exact⟨.bl true,H1,e,rfl,d⟩
theorem afO(e:PE X a ta):PE X (.UnaryOp .Not a pos) (ahZ ta):=by
 intro pins s σ H Q I h;refine UnaryOp_ (thn (e pins s σ H _ I h) fun v i ⟨x,H1,f,g,d⟩ => ?_);obtain⟨c,rfl,d⟩:=d;cases g
 exact not_of (DD ⟨.bl (!c),H1,f,rfl,d⟩)
def tIf(t:TT)(ta tb:TE):TE:=fun σ H Q=>t σ H fun c H1=>if c=true then ta σ H1 Q else tb σ H1 Q
theorem abQ{c:B9}(i:PT X c tA)(j:PE X a ta)(l:PE X b tb):PE X (.IfExp c a b pos) (tIf tA ta tb):=by
 intro pins s σ H Q I h;refine wpAny_IfExp (thn (i pins s σ H _ I h) fun d e ⟨H1,f,g⟩ => ?_);cases d with
 | true=>exact j pins e σ H1 Q f g
 | false=>exact l pins e σ H1 Q f g
end
def SqL(K:Lf)(H:Hp)(a:Ag)(xs:List V):Prop :=
 Rd H a (.lst xs) \/
  ∃(o:D5)(b:Array Ai)(n:Nat),K.lookup a=some o/\o.cls=.type "list" /\ o.dict=none/\o.data=.seq b n/\b.size<=sizeLine/\Vals xs b.toList
def SqT(K:Lf)(H:Hp)(a:Ag)(xs:List V):Prop :=
 Rd H a (.tup xs) \/
  ∃(o:D5)(b:Array Ai)(n:Nat),K.lookup a=some o/\o.cls=.type "tuple" /\ o.data=.seq b n/\b.size<=sizeLine/\Vals xs b.toList
noncomputable def ajA:Ai->Option V
 | .none=>some .non
 | .bool b=>some (.bl b)
 | .int i _=>some (.int i)
 | .str x _=>some (.str x)
 | .bytes b _=>some (.byt b)
 | .float b _=>some (.flt b)
 | .ref a=>some (.ref a)
 | .type n=>some (.ty n)
 | _=>none
theorem RelV.abs{x:V}{u:Ai}(r:RelV x u):ajA u=some x:=by
 cases x with
 | non=>cases r;rfl
 | bl _=>cases r;rfl
 | int _=>obtain⟨t,rfl⟩:=r;rfl
 | str _=>obtain⟨t,rfl⟩:=r;rfl
 | byt _=>obtain⟨t,rfl⟩:=r;rfl
 | flt _=>obtain⟨t,rfl⟩:=r;rfl
 | ref _=>cases r;rfl
 | ty _=>cases r;rfl
theorem RelV.inj{x y:V}{u:Ai}(r:RelV x u)(q:RelV y u):x=y:=Ah (r.abs.symm.trans q.abs)
theorem Vals.inj:∀{xs ys:List V}{us:List Ai},Vals xs us->Vals ys us->xs=ys
 | _,_,_,.nil,.nil=>rfl
 | _,_,_,.cons r t,.cons r' t'=>by rw[r.inj r',Vals.inj t t']
section
variable{X:Cx}{pins:List (Ag×D5)}{σ:St}{H:Hp}{s:Aq}{a:Ag}{xs ys:List V}
theorem SqL.of{K:Lf}(h:H a=some (.lst xs)):SqL K H a xs:=.inl (.inl h)
theorem SqT.of{K:Lf}(h:H a=some (.tup xs)):SqT K H a xs:=.inl (.inl h)
theorem Inv.list(I:Inv X pins σ H s)(h:SqL X.K H a xs):∃b:List Ai,Vals xs b/\PlainL s.heap a b.toArray/\xs.length<=sizeLine:=by
 rcases h with h|⟨o,b,n,c,d,f,g,hz,r⟩
 ·obtain⟨z,b,n,r,e⟩:=h.ok I.hok
  exact⟨b,r,⟨_,n,e,rfl,rfl,rfl⟩,z⟩
 ·refine⟨b.toList,r,⟨o,n,I.kIn a o c,d,f,by simpa using g⟩,?_⟩
  have e:=r.length;simp only[BI] at e;omega
theorem Inv.tuple(I:Inv X pins σ H s)(h:SqT X.K H a xs):∃b:List Ai,Vals xs b/\IsTup s.heap a b.toArray/\xs.length<=sizeLine:=by
 rcases h with h|⟨o,b,n,c,d,f,hz,r⟩
 ·obtain⟨z,b,r,p⟩:=h.ok I.hok
  exact⟨b,r,p,z⟩
 ·refine⟨b.toList,r,⟨o,I.kIn a o c,d,n,by simpa using f⟩,?_⟩
  have e:=r.length;simp only[BI] at e;omega
theorem Inv.jF(I:Inv X pins σ H s)(h:SqL X.K H a xs)(h':SqL X.K H a ys):xs=ys:=by
 obtain⟨b,r,⟨o,n,e,_,_,d⟩,_⟩:=I.list h;obtain⟨its',f,⟨g,i,c,_,_,d'⟩,_⟩:=I.list h';rw[e] at c;cases c;rw[d] at d';injection d' with d1 _
 have:b=its':=by simpa using B2 IK d1
 subst this;exact r.inj f
theorem Inv.rL(I:Inv X pins σ H s)(h:SqT X.K H a xs)(h':SqT X.K H a ys):xs=ys:=by
 obtain⟨b,r,⟨o,e,_,n,d⟩,_⟩:=I.tuple h;obtain⟨its',f,⟨g,c,_,i,d'⟩,_⟩:=I.tuple h';rw[e] at c;cases c;rw[d] at d';injection d' with d1 _
 have:b=its':=by simpa using B2 IK d1
 subst this;exact r.inj f
end
noncomputable abbrev Cx.abm(X:Cx)(E:Ai->Aq->Prop):Cx:={ X with xe:=E }
noncomputable abbrev Cx.nox(X:Cx):Cx:=X.abm fun _ _=>False
theorem Cx.Ok.abm{X:Cx}(ok:X.Ok)(E:Ai->Aq->Prop):(X.abm E).Ok :=
 ⟨ok.mod,ok.kind,ok.glob,ok.blt,ok.above,ok.inj,ok.has,ok.cab,ok.hd,ok.frames,ok.stk,ok.exf,ok.bs,ok.bsz,ok.noex,ok.exfs,ok.xW,ok.frf⟩
theorem Cx.Ok.kZ{X:Cx}{E:Ai->Aq->Prop}(ok:(X.abm E).Ok):X.Ok :=
 ⟨ok.mod,ok.kind,ok.glob,ok.blt,ok.above,ok.inj,ok.has,ok.cab,ok.hd,ok.frames,ok.stk,ok.exf,ok.bs,ok.bsz,ok.noex,ok.exfs,ok.xW,ok.frf⟩
section
variable{X:Cx}{pins:List (Ag×D5)}{σ:St}{H:Hp}{s:Aq}{E:Ai->Aq->Prop}
theorem Inv.abm(I:Inv X pins σ H s)(E:Ai->Aq->Prop):Inv (X.abm E) pins σ H s:=⟨I.ok.abm E,I.os,I.bare,I.base,I.loc,I.cell,I.free,I.freeC,I.pin,I.hok,I.len⟩
theorem Inv.kZ(I:Inv (X.abm E) pins σ H s):Inv X pins σ H s:=⟨I.ok.kZ,I.os,I.bare,I.base,I.loc,I.cell,I.free,I.freeC,I.pin,I.hok,I.len⟩
theorem SP.kZ{D:Ends}{f:Flow}{c:Aq}(h:SP (X.abm E) pins D f c):SP X pins D f c:=by
 cases f with
 | next=>obtain⟨a,b,I,q⟩:=h;exact⟨a,b,I.kZ,q⟩
 | brk=>obtain⟨a,b,I,q⟩:=h;exact⟨a,b,I.kZ,q⟩
 | cont=>obtain⟨a,b,I,q⟩:=h;exact⟨a,b,I.kZ,q⟩
 | ret u=>obtain⟨v,a,b,I,r,q⟩:=h;exact⟨v,a,b,I.kZ,r,q⟩
theorem PSs.nox{st:List F6}{t:TS}(h:PSs X.nox st t):PSs X st t:=fun pins s σ H D I a =>
 C2 (h pins s σ H D (I.abm _) a) (fun _ _ q=>q.kZ) fun _ _ z=>Ck z
end
section
variable{X:Cx}{st:F6}{rest:List F6}{t u:TS}{e:B9}{te:TE}{pos:Pos}
def ahl:TS:=fun D σ H=>D.nx σ H
def afs(t u:TS):TS:=fun D σ H=>t { D with nx:=u D } σ H
theorem aR:PSs X [] ahl:=fun _ _ σ H _ I h=>FF ⟨σ,H,I,h⟩
theorem az(a:PS X st t)(b:PSs X rest u):PSs X (st::rest) (afs t u):=by
 intro pins s σ H D I h;refine Ji (thn (a pins s σ H { D with nx:=u D } I h) fun f c q => ?_);cases f with
 | next =>
  obtain⟨d,g,i,q⟩:=q;exact b pins c d g D i q
 | ret v=>exact q
 | brk=>exact q
 | cont=>exact q
theorem aE(a:PS X st t):PSs X [st] t:=by
 intro pins s σ H D I h;refine Ji (thn (a pins s σ H D I h) fun f b q => ?_);cases f with
 | next=>exact FF q
 | ret v=>exact q
 | brk=>exact q
 | cont=>exact q
theorem Inv.quiet{pins:List (Ag×D5)}{σ:St}{H:Hp}{s:Aq}(I:Inv X pins σ H s):interactive X.env=false:=by simp[interactive,I.ok.kind]
def acv(te:TE):TS:=fun D σ H=>te σ H fun _ H1=>D.nx σ H1
theorem cS(he:PE X e te)(a:swapsWith e none pos.line X.env=pure false:=by rfl):PS X (.Expr e pos) (acv te):=by
 intro pins s σ H D I h;exact wpAny_Expr_any (thn (he pins s σ H _ I h) fun v d ⟨x,H1,b,f,c⟩=>⟨σ,H1,b,c⟩) I.quiet a
def aio(te:TE):TS:=fun D σ H=>te σ H D.rt
theorem agG(he:PE X e te):PS X (.Return (some e) pos) (aio te):=by
 intro pins s σ H D I h;exact wpAny_Return_some (thn (he pins s σ H _ I h) fun v d ⟨x,H1,a,b,c⟩=>⟨x,σ,H1,a,b,c⟩)
def ai5(c:TT)(t u:TS):TS:=fun D σ H=>c σ H fun b H1=>if b=true then t D σ H1 else u D σ H1
theorem cg{c:B9}{a b:List F6}{f:TT}(l:PT X c f)(m:PSs X a t)(n:PSs X b u):PS X (.If c a b pos) (ai5 f t u):=by
 intro pins s σ H D I h;refine wpAny_If (thn (l pins s σ H _ I h) fun d g ⟨H1,i,j⟩ => ?_);cases d with
 | true=>exact m pins g σ H1 D i j
 | false=>exact n pins g σ H1 D i j
end
abbrev TG:=V->St->Hp->(St->Hp->Prop)->Prop
abbrev TGs:=List V->St->Hp->(St->Hp->Prop)->Prop
def PG(X:Cx)(a:B9)(t:TG):Prop :=
 ∀(pins:List (Ag×D5))(s:Aq)(σ:St)(H:Hp)(v:V)(u:Ai)(Q:St->Hp->Prop),Inv X pins σ H s->RelV v u->t v σ H Q ->
  wpAny (model X.prog X.w) X.A (assign a X.env u) (fun _ d=>∃b c,Inv X pins b c d/\Q b c) X.xe s
def PGs(X:Cx)(c:List B9)(t:TGs):Prop :=
 ∀(pins:List (Ag×D5))(s:Aq)(σ:St)(H:Hp)(vs:List V)(us:List Ai)(Q:St->Hp->Prop),Inv X pins σ H s->Vals vs us->t vs σ H Q ->
  wpAny (model X.prog X.w) X.A (assignInOrder ((assignEach c X.env).map (·.2)) us) (fun _ d=>∃a b,Inv X pins a b d/\Q a b) X.xe s
section
variable{X:Cx}{pos:Pos}
def rF(i:Nat):TG:=fun v σ H Q=>Q (σ.set i (some v)) H
theorem aes{i:Nat}{x:AW}(a:X.N.Nodup)(b:X.N[i]? = some x)(c:Loc X.env.scope x)(hf:X.fn x=true\/X.env.scope.names.lookup x=some .local:=by first|exact .inl rfl|exact .inr rfl|assumption):PG X (.Name x pos) (rF i):=by
 intro pins s σ H v u Q I r h;exact IL (vJ I a b c r (fun e d=>⟨_,H,d,h⟩) hf)
def ajR:TGs:=fun vs σ H Q=>vs=[]/\Q σ H
def aij(t:TG)(u:TGs):TGs:=fun vs σ H Q=>∃v r,vs=v::r/\t v σ H fun a b=>u r a b Q
theorem cj:PGs X [] ajR:=by
 intro pins s σ H vs us Q I r h;obtain⟨e,h⟩:=h;subst e;cases r
 exact assignInOrder_nil ⟨σ,H,I,h⟩
theorem aL{e:B9}{a:List B9}{t:TG}{u:TGs}(b:PG X e t)(c:PGs X a u)(d:(assignEach (e::a) X.env).map (·.2)=assign e X.env::(assignEach a X.env).map (·.2):=by rfl):PGs X (e::a) (aij t u):=by
 intro pins s σ H vs us Q I r h;obtain⟨v,m,e1,h⟩:=h;subst e1;cases r with
 | cons r f =>
  rw[d];refine assignInOrder_cons (thn (b pins s σ H _ _ _ I r h) fun _ g ⟨i,H1,j,l⟩ => ?_);exact c pins g i H1 _ _ Q j f l
inductive aji(K:Lf)(n:Nat)(v:V)(H:Hp)(q:List V->Prop):Prop
 | mk (a:Ag)(xs:List V)(h1:v=.ref a)(h2:SqT K H a xs)(h3:xs.length=n)(h4:q xs)
def ajf(K:Lf)(n:Nat)(t:TGs):TG:=fun v σ H Q=>aji K n v H fun xs=>t xs σ H Q
theorem dQ{c:List B9}{k:Nat}{t:TGs}{n:Nat}(i:X.calm=true)(h:PGs X c t)(j:(assignEach c X.env).length=n:=by rfl)(d:(assignEach c X.env).findIdx? (·.1)=none:=by rfl):PG X (.Tuple c k pos) (ajf X.K n t):=by
 intro pins s σ H v u Q I r f;obtain⟨a,xs,e1,l,m,f⟩:=f;subst e1;cases r
 obtain⟨p,g,q,hz⟩:=I.tuple l;refine assign_Tuple_tuple (I.ok.hd i) q (by simp[j,<- m,g.length]) d fun h' w => ?_;have y:Inv X pins σ H { s with heap:=h' }:=I.kept (t':=s.toks) fun b o e=>w b o (Bj (AF e)) e;exact h pins _ σ H xs _ Q y (by simpa using g) f
def aiL(a:TE)(g:TG):TS:=fun D σ H=>a σ H fun x H1=>g x σ H1 D.nx
theorem oW{i:Nat}{x:AW}{e:B9}{b:TE}{a:Pos}(c:X.N.Nodup)(d:X.N[i]? = some x)(f:Loc X.env.scope x)(he:PE X e b)(g:swapsWith e (some (.Name x a)) pos.line X.env=pure false:=by rfl)(hf:X.fn x=true\/X.env.scope.names.lookup x=some .local:=by first|exact .inl rfl|exact .inr rfl|assumption):
  PS X (.Assign [.Name x a] e pos) (aiL b (rF i)):=by
 intro pins s σ H D I h;refine wpAny_Assign_Name (thn (he pins s σ H _ I h) fun v o ⟨y,H1,j,l,m⟩ => ?_) g;exact vJ j c d f l (fun p n=>⟨_,H1,n,m⟩) hf
def acY(c:TT)(tb:TS):TS:=fun D σ H=>∃W:Nat->St->Hp->Prop,(∃m,W m σ H)/\∀m σ H,W m σ H ->
 c σ H fun b H1=>if b=true then ∃N:St->Hp->Prop,(∀a d,N a d->∃e,e<m/\W e a d)/\tb { D with nx:=N,ct:=N,bk:=D.nx } σ H1 else D.nx σ H1
theorem vG{c:B9}{a:List F6}{u:TT}{tb:TS}(y:PassesOwn (model X.prog X.w) X.A X.env X.xe)(J:PT X c u)(M:PSs X a tb):PS X (.While c a [] pos) (acY u tb):=by
 intro pins s σ H D I h;obtain⟨W,⟨m0,O⟩,d⟩:=h;refine wpAny_While (codeAny_whileLoop (fun n P=>∃z B,Inv X pins z B P/\W n z B) ?_ m0 ⟨σ,H,I,O⟩);rintro n R ⟨i,H1,S,T⟩;refine D7 y (thn (J pins R i H1 _ S (d n i H1 T)) fun b Y ⟨C,E,j⟩ => ?_);cases b with
 | true =>
  obtain⟨N,G,j⟩:=j;rw[As rfl];refine D7 y (thn (M pins Y i C _ E j) fun f Z l => ?_);cases f with
  | next =>
   obtain⟨e,g,m,o⟩:=l;obtain⟨p,q,r⟩:=G e g o;exact⟨p,q,e,g,m,r⟩
  | cont =>
   obtain⟨e,g,m,o⟩:=l;obtain⟨p,q,r⟩:=G e g o;exact⟨p,q,e,g,m,r⟩
  | brk=>exact l
  | ret v=>exact l
 | false =>
  rw[Ar AS];exact FF ⟨i,C,E,j⟩
end
structure It where
 go:Nat->Hp->Prop
 yld:Nat->Hp->V->Hp->Prop
 stop:Nat->Hp->Prop
def oU(X:Cx)(pins:List (Ag×D5))(H:Hp)(b:Ag):Prop :=
 H b=none/\b≠X.env.locals/\b ∉ X.fs/\(b∈X.ex\/X.s_0.heap.objs.size<=b)/\(∀x c,X.env.cells.lookup x=some c->c≠b)/\∀p∈X.pn++pins,p.1≠b
theorem Inv.abo{X:Cx}{pins:List (Ag×D5)}{σ:St}{H d:Hp}{s:Aq}{b:Ag}(I:Inv X pins σ H s)(a:s.heap.objs.size<=b)(f:d b=none):oU X pins d b:=by
 refine⟨f,CJ (AY I.lt a),I.aju a,.inr (Br I.sz a),fun x c e z => ?_,fun p g z => ?_⟩
 ·obtain⟨v,q⟩:=I.cell x c e
  exact absurd (AY q.lt (by rw[z];exact a)) (Cd _)
 ·exact absurd (AY (AF (I.pin p g).1) (by rw[z];exact a)) (Cd _)
structure Turn(P:AI)(w:AZ)(K:Lf)(tg:B9)(J:It)(fp:List Ag)(it:Ag)(tn:Nat->B1->Prop):Prop where
 mem:it∈fp
 obj:∀i h,tn i h->∀b∈fp,∃o,h.get? b=some o/\∀v,o.data≠.cell v
 keep:∀i h h',tn i h->(∀b∈fp,∀o,h.get? b=some o->h'.get? b=some o)->tn i h'
 item:∀(X:Cx),X.prog=P->X.w=w->X.K=K->X.calm=true->∀(i:Nat)(pins:List (Ag×D5))(s:Aq)(σ:St)(H:Hp)(E:Ai->Aq->Prop),Inv X pins σ H s->(∀b∈fp,oU X pins H b)->tn i s.heap->J.go i H ->
  wpAny (model P w) X.A (pyNext (.ref it)) (fun r s1=>∃u,r=some u /\
   wpAny (model P w) X.A (letOwnedTupleGo tg (.ref it) u) (fun _ s2=>∃x H',Inv X pins σ H' s2/\RelV x u/\J.yld i H x H'/\tn (i+1) s2.heap/\∀b∈fp,H' b=none) E s1) E s
 done:∀(X:Cx),X.prog=P->X.w=w->X.K=K->X.calm=true->∀(i:Nat)(pins:List (Ag×D5))(s:Aq)(σ:St)(H:Hp)(E:Ai->Aq->Prop),Inv X pins σ H s->(∀b∈fp,oU X pins H b)->tn i s.heap->J.stop i H ->
  wpAny (model P w) X.A (pyNext (.ref it)) (fun r s1=>r=none/\Inv X pins σ H s1) E s
 self:∀(A:B7)(i:Nat)(s:Aq)(Q:Ai->Aq->Prop)(E:Ai->Aq->Prop),tn i s.heap->Q (.ref it) s->wpAny (model P w) A (pyIter (.ref it)) Q E s
abbrev TI:=St->Hp->(It->Hp->Prop)->Prop
def PIE(X:Cx)(pins:List (Ag×D5))(σ:St)(f:B9)(R:It->Hp->Prop)(a:Ai)(d:Aq):Prop :=
 ∃(it:Ag)(e:List Ag)(tn:Nat->B1->Prop)(J:It)(c:Hp),a=.ref it/\Inv X pins σ c d/\Turn X.prog X.w X.K f J e it tn/\tn 0 d.heap/\(∀b∈e,oU X pins c b)/\R J c
def PI(X:Cx)(b a:B9)(c:TI):Prop :=
 ∀(pins:List (Ag×D5))(s:Aq)(σ:St)(H:Hp)(R:It->Hp->Prop),Inv X pins σ H s->c σ H R ->
  wpAny (model X.prog X.w) X.A (eval a X.env) (fun v d=>wpAny (model X.prog X.w) X.A (pyIter v) (PIE X pins σ b R) X.xe d) X.xe s
theorem yR{M:Kk}{A:B7}{E:Ai->Aq->Prop}{s:Aq}{b:B9}{it:Ag}{u:Ai}{o:D5}{n:String}{vs:Array Ai}{Q:Unit->Aq->Prop}(c:s.heap.get? it=some o)(d:o.cls=.type n)(e:o.data=.fields vs)(f:["enumerate","zip","dict_itemiterator","dict_reverseitemiterator","odict_iterator","itertools.zip_longest","itertools.pairwise"].contains n=false)(a:Q () s):wpAny M A (letOwnedTupleGo b (.ref it) u) Q E s:=by
  unfold letOwnedTupleGo;cases b <;> first
    | exact A2 a
    | (cases u <;> first
        | exact A2 a
        | (refine Af (KO c ?_)
           rw[d,e];show wpAny M A (if (["enumerate","zip","dict_itemiterator","dict_reverseitemiterator","odict_iterator","itertools.zip_longest","itertools.pairwise"].contains n&&vs[0]? == some (rawInt _))=true then _ else _) Q E s;rw[Ar (by intro h;rw[f,Bp] at h;cases h)];exact A2 a))
noncomputable def Itl(K:Lf)(a:Ag):It :=
 ⟨fun i H=>∃xs x,SqL K H a xs/\xs[i]? = some x,fun i H x b=>b=H/\∀xs,SqL K H a xs->xs[i]? = some x,fun i H=>∃xs,SqL K H a xs/\xs.length<=i⟩
noncomputable def Itt(K:Lf)(a:Ag):It :=
 ⟨fun i H=>∃xs x,SqT K H a xs/\xs[i]? = some x,fun i H x b=>b=H/\∀xs,SqT K H a xs->xs[i]? = some x,fun i H=>∃xs,SqT K H a xs/\xs.length<=i⟩
noncomputable def Itr(lo:Int)(n:Nat):It:=⟨fun i _=>i<n,fun i H x a=>a=H/\x=.int (lo+i),fun i _=>n<=i⟩
theorem aaY{P:AI}{w:AZ}{K:Lf}{R:B9}(a it:Ag):Turn P w K R (Itl K a) [it] it (fun i h=>h.IsListIter it a i) where
 mem:=by simp
 obj:=fun i h st b f=>by
  have e:b=it:=by simpa using f
  subst e;obtain⟨o,e,c,d⟩:=st;exact⟨o,e,fun v z=>by rw[d] at z;cases z⟩
 keep:=fun i h h' st k=>st.at fun o e=>k it (by simp) o e
 item:=by
  intro X l m n O i pins s σ H E I hf st q;subst l m n;obtain⟨xs,x,j,r⟩:=q;obtain⟨y,A,p,hz⟩:=I.list j;obtain⟨u,S,T⟩:=A.get r;obtain⟨B,C,W,G,J,M⟩:=hf it (by simp);refine Hd st p.isList (x:=u) (by simpa using S) fun h' g Y => ?_;have Z:Inv X pins σ H { s with heap:=h' }:=I.turned (t':=s.toks) (fun b o f e=>(Y.2 b f).trans e) B C G J M;obtain⟨o,e,c,d⟩:=id g;exact⟨u,rfl,yR (s:={ s with heap:=h' }) e c d (by decide) ⟨x,H,Z,T,⟨rfl,fun ys hy=>by rw[I.jF hy j];exact r⟩,g,fun b f=>(hf b f).1⟩⟩
 done:=by
  intro X l m n O i pins s σ H E I hf st q;subst l m n;obtain⟨xs,j,r⟩:=q;obtain⟨y,A,p,hz⟩:=I.list j;obtain⟨B,C,W,G,J,M⟩:=hf it (by simp);have hl:=A.length;exact Hv (I.ok.hd O) st p.isList (by simp;omega) fun h' eb=>⟨rfl,I.turned (t':=s.toks) (fun b o f e=>eb b o f e) B C G J M⟩
 self:=fun _ _ _ _ _ st h=>wpAny_pyIter_listiter st h
theorem xQ{P:AI}{w:AZ}{K:Lf}{R:B9}(a it:Ag):Turn P w K R (Itt K a) [it] it (fun i h=>h.IsTupleIter it a i) where
 mem:=by simp
 obj:=fun i h st b f=>by
  have e:b=it:=by simpa using f
  subst e;obtain⟨o,e,c,d⟩:=st;exact⟨o,e,fun v z=>by rw[d] at z;cases z⟩
 keep:=fun i h h' st k=>st.at fun o e=>k it (by simp) o e
 item:=by
  intro X m n q O i pins s σ H E I hf st r;subst m n q;obtain⟨xs,x,l,y⟩:=r;obtain⟨g,A,p,hz⟩:=I.tuple l;obtain⟨u,S,T⟩:=A.get y;obtain⟨B,C,W,G,J,M⟩:=hf it (by simp);refine wpAny_pyNext_tuple_item st (show s.heap.IsTuple a g.toArray from p) (x:=u) (by simpa using S) fun h' j Y => ?_;have Z:Inv X pins σ H { s with heap:=h' }:=I.turned (t':=s.toks) (fun b o f e=>(Y.2 b f).trans e) B C G J M;obtain⟨o,e,c,d⟩:=id j;exact⟨u,rfl,yR (s:={ s with heap:=h' }) e c d (by decide) ⟨x,H,Z,T,⟨rfl,fun ys hy=>by rw[I.rL hy l];exact y⟩,j,fun b f=>(hf b f).1⟩⟩
 done:=by
  intro X m n q O i pins s σ H E I hf st r;subst m n q;obtain⟨xs,l,y⟩:=r;obtain⟨g,A,p,hz⟩:=I.tuple l;obtain⟨B,C,W,G,J,M⟩:=hf it (by simp);have hl:=A.length;exact wpAny_pyNext_tuple_end (I.ok.hd O) st (show s.heap.IsTuple a g.toArray from p) (by simp;omega) fun h' eb=>⟨rfl,I.turned (t':=s.toks) (fun b o f e=>eb b o f e) B C G J M⟩
 self:=fun _ _ _ _ _ st h=>wpAny_pyIter_tupleiter st h
theorem xt{P:AI}{w:AZ}{K:Lf}{y:B9}(it:Ag)(lo:Int)(n:Nat):Turn P w K y (Itr lo n) [it] it (fun i h=>HD h it (lo+(i:Nat)*1) ((n:Int)-(i:Nat)) 1) where
 mem:=by simp
 obj:=fun i h st b a=>by
  have e:b=it:=by simpa using a
  subst e;exact⟨_,st,fun v z=>by
   have A:Data.fields _=Data.cell v:=z;cases A⟩
 keep:=fun i h h' st k=>k it (by simp) _ st
 item:=by
  intro X d f g j i pins s σ H E I hf st l;subst d f g;obtain⟨m,p,B,q,r,u⟩:=hf it (by simp);have W:=K5 (prog:=X.prog) (w:=X.w) (I.ok.hd j) it lo 1 n;refine W.item i s _ _ l st fun v h' tk C c G => ?_;obtain⟨t,rfl⟩:=C;have J:Inv X pins σ H { s with heap:=h',toks:=tk }:=I.turned (fun b o a e=>G b o (by simpa using a) e) m p q r u;refine⟨_,rfl,yR (s:={ s with heap:=h',toks:=tk }) (n := "range_iterator") c rfl rfl (by decide) ⟨.int (lo+i),H,J,⟨t,?_⟩,⟨rfl,rfl⟩,c,fun b a=>(hf b a).1⟩⟩;rw[Int.mul_one]
 done:=by
  intro X d f g j i pins s σ H E I hf st l;subst d f g;obtain⟨m,p,B,q,r,u⟩:=hf it (by simp);exact He (I.ok.hd j) st (by have:n<=i:=l;omega) fun h' M=>⟨rfl,I.turned (t':=s.toks) (fun b o a e=>M b o a e) m p q r u⟩
 self:=fun _ _ _ _ _ st h=>Hf st h
section
variable{X:Cx}{tg:B9}
inductive ai4(K:Lf)(x:V)(H:Hp)(R:It->Hp->Prop):Prop
 | mk (a:Ag)(h1:x=.ref a)(h2:∃xs,SqL K H a xs)(q:R (Itl K a) H)
def ahV(K:Lf)(a:TE):TI:=fun σ H R=>a σ H fun x H1=>ai4 K x H1 R
def ajB(K:Lf)(b:TE):TI:=fun σ H R=>b σ H fun x H1=>∃a,x=.ref a/\(∃xs,SqT K H1 a xs)/\R (Itt K a) H1
theorem aY{l:B9}{f:TE}(g:PE X l f):PI X tg l (ahV X.K f):=by
 intro pins s σ H R I h;refine thn (g pins s σ H _ I h) fun v c ⟨x,H1,d,i,j⟩ => ?_;obtain⟨a,e,⟨xs,m⟩,q⟩:=j;subst e;cases i
 obtain⟨n,u,p,hz⟩:=d.list m;refine IM p.isList ?_;refine⟨c.heap.objs.size,[c.heap.objs.size],_,_,H1,rfl,d.kept (t':=c.toks) fun b o e=>Ap _ e,aaY a _,⟨_,AH _ rfl,rfl,rfl⟩,fun b r => ?_,q⟩;have e:b=c.heap.objs.size:=by simpa using r
 subst e;exact d.abo (Ak _) (d.hok.fresh (Ak _))
theorem yV{l:B9}{g:TE}(i:PE X l g):PI X tg l (ajB X.K g):=by
 intro pins s σ H R I h;refine thn (i pins s σ H _ I h) fun v c ⟨x,H1,d,j,m⟩ => ?_;obtain⟨a,e,⟨xs,n⟩,q⟩:=m;subst e;cases j
 obtain⟨f,u,p,hz⟩:=d.tuple n;refine EJ (show c.heap.IsTuple a f.toArray from p) ?_;refine⟨c.heap.objs.size,[c.heap.objs.size],_,_,H1,rfl,d.kept (t':=c.toks) fun b o e=>Ap _ e,xQ a _,⟨_,AH _ rfl,rfl,rfl⟩,fun b r => ?_,q⟩;have e:b=c.heap.objs.size:=by simpa using r
 subst e;exact d.abo (Ak _) (d.hok.fresh (Ak _))
theorem wF{pins:List (Ag×D5)}{σ:St}{H:Hp}{s:Aq}{R:It->Hp->Prop}{E:Ai->Aq->Prop}{lo a:Int}{t u v:KN}{tk:Nat}(I:Inv X pins σ H s)(d : -(2 ^ 62)<=lo)(f:lo<2 ^ 62)(g : -(2 ^ 62)<=a)(i:a<2 ^ 62)(q:R (Itr lo (a-lo).toNat) H):wpAny (model X.prog X.w) X.A (pyIter (.ref s.heap.objs.size)) (PIE X pins σ tg R) E { s with heap:=s.heap.push { cls:=.type "range",data:=.fields #[.int lo t,.int a u,.int 1 v] },toks:=tk }:=by
 refine Iq (K6 ..) (small_one d f g i) ?_;have c:Inv X pins σ H { s with heap:=s.heap.push { cls:=.type "range",data:=.fields #[.int lo t,.int a u,.int 1 v] },toks:=tk }:=I.kept fun b o e=>Ap _ e;refine⟨(s.heap.push { cls:=.type "range",data:=.fields #[.int lo t,.int a u,.int 1 v] }).objs.size,[(s.heap.push { cls:=.type "range",data:=.fields #[.int lo t,.int a u,.int 1 v] }).objs.size],_,_,H,rfl,
  c.kept (t':=tk) fun b o e=>Ap _ e,xt _ lo (a-lo).toNat,?_,fun b j => ?_,q⟩
 ·have e1:lo+((0:Nat):Int)*1=lo:=by simp
  have l:(((a-lo).toNat:Nat):Int)-((0:Nat):Int)=By lo a 1:=by rw[rangeSize_one];split <;> omega
  show HD _ _ (lo+((0:Nat):Int)*1) ((((a-lo).toNat:Nat):Int)-((0:Nat):Int)) 1;rw[e1,l];exact AH _ rfl
 ·have e:b=(s.heap.push { cls:=.type "range",data:=.fields #[.int lo t,.int a u,.int 1 v] }).objs.size:=by simpa using j
  subst e;exact c.abo (Ak _) (c.hok.fresh (Ak _))
def ais(a:TA):TI:=fun σ H R=>a σ H fun vs H1=>∃j:Int,vs=[.int j] /\ -(2 ^ 62)<=j/\j<2 ^ 62/\R (Itr 0 j.toNat) H1
def aif(a:TA):TI:=fun σ H R=>a σ H fun vs H1=>∃i j:Int,vs=[.int i,.int j]/\(-(2 ^ 62)<=i/\i<2 ^ 62 /\ -(2 ^ 62)<=j/\j<2 ^ 62)/\R (Itr i (j-i).toNat) H1
theorem rD{a:B9}{c:TA}{p pos:Pos}(d:Gl X "range")(f:X.mg "range" = none)(g:PA X [a] c)(i:starEach [a] X.env=[(false,eval a X.env)]:=by rfl):PI X tg (.Call (.Name "range" p) [a] [] pos) (ais c):=by
 intro pins s σ H R I h;refine K7 (gw I d f Ir (BA (thn (g pos pins s σ H _ I h) fun us u ⟨vs,H1,l,m,b⟩ => ?_) i rfl));obtain⟨j,e,b,n,q⟩:=b;subst e;cases m with
 | cons r o =>
  cases o
  obtain⟨t,rfl⟩:=r;exact Ko (wF l (by omega) (by omega) b n (by simpa using q))
theorem y9{a b:B9}{g:TA}{p pos:Pos}(l:Gl X "range")(m:X.mg "range" = none)(n:PA X [a,b] g)(o:starEach [a,b] X.env=[(false,eval a X.env),(false,eval b X.env)]:=by rfl)(c:starEach [b] X.env=[(false,eval b X.env)]:=by rfl):
  PI X tg (.Call (.Name "range" p) [a,b] [] pos) (aif g):=by
 intro pins s σ H R I h;refine K7 (gw I l m Ir (BA (thn (n pos pins s σ H _ I h) fun us B ⟨vs,H1,u,v,d⟩ => ?_) (by rw[o,c]) (by rw[c];rfl)));obtain⟨i,j,e,⟨d,w,y,z⟩,q⟩:=d;subst e;cases v with
 | cons r f =>
  cases f with
  | cons A f =>
   cases f
   obtain⟨t,rfl⟩:=r;obtain⟨t',rfl⟩:=A;exact call_range_2 (wF u d w y z q)
def aj3(d:TI)(g:TG)(tb:TS):TS:=fun D σ H=>d σ H fun J H1=>∃W:Nat->Nat->St->Hp->Prop,(∃m,W 0 m σ H1)/\∀i m σ H,W i m σ H ->
 (J.stop i H/\D.nx σ H)\/(J.go i H/\∃N:St->Hp->Prop,(∀b a,N b a->∃c,c<m/\W (i+1) c b a)/\∀x a,J.yld i H x a->g x σ a fun e f=>tb { D with nx:=N,ct:=N,bk:=D.nx } e f)
noncomputable def su(a:List Ag)(h:B1):List (Ag×D5):=a.filterMap fun b=>(h.get? b).map fun o=>(b,o)
theorem kE{a:List Ag}{h:B1}{b:Ag}{o:D5}(c:b∈a)(e:h.get? b=some o):(b,o)∈su a h:=EK.mpr ⟨b,c,by rw[e];rfl⟩
theorem zH{a:List Ag}{h:B1}{p:Ag×D5}(c:p∈su a h):p.1∈a/\h.get? p.1=some p.2:=by
 obtain⟨b,d,e⟩:=EK.mp c;cases q:h.get? b with
 | none=>rw[q] at e;cases e
 | some o =>
  rw[q] at e;have f:(b,o)=p:=Ah e;subst f;exact⟨d,q⟩
theorem Inv.pinned{pins:List (Ag×D5)}{σ:St}{H:Hp}{s:Aq}{a:List Ag}(I:Inv X pins σ H s)(hf:∀b∈a,oU X pins H b)(g:∀b∈a,∃o,s.heap.get? b=some o/\∀v,o.data≠.cell v):Inv X (pins++su a s.heap) σ H s :=
 I.ki fun p i=>(A4.mp i).elim (fun z=>I.pin p (Au _ z)) fun z=>by
  obtain⟨c,e⟩:=zH z;obtain⟨j,l,m,_⟩:=hf p.1 c;obtain⟨o,f,d⟩:=g p.1 c;rw[e] at f;cases f;exact⟨e,j,l,m,d⟩
theorem Inv.lO{pins pl:List (Ag×D5)}{σ:St}{H:Hp}{s:Aq}(I:Inv X (pins++pl) σ H s):Inv X pins σ H s:=I.ki fun p a=>I.pin p (Au _ (AM _ a))
theorem a8{a:B9}{B:List F6}{wi:TI}{g:TG}{tb:TS}{pos:Pos}(G:PassesOwn (model X.prog X.w) X.A X.env X.xe)(hc:X.calm=true)(hi:PI X tg a wi)(hg:PG X tg g)(c:PSs X B tb)(hs:∀x,foldedSetIterable a X.env x=pure x:=by intro _;rfl):PS X (.For tg a B [] pos) (aj3 wi g tb):=by
 intro pins s σ H D I h;refine wpAny_For (thn (hi pins s σ H _ I h) fun v s1 h1=>thn h1 fun a6 s2 h2 => ?_) hs;obtain⟨it,M,tn,J,H2,e,I2,T,a3,f2,W,⟨m0,w0⟩,O⟩:=h2;subst e;have j:∀{z:Hp},(∀b∈M,z b=none)->∀b∈M,oU X pins z b:=fun hn b c=>⟨hn b c,(f2 b c).2⟩;refine codeAny_forLoop_any (fun n s'=>∃i P z,Inv X pins P z s'/\tn i s'.heap/\(∀b∈M,z b=none)/\W i n P z) ?_ m0 ⟨0,σ,H2,I2,a3,fun b c=>(f2 b c).1,w0⟩;rintro n s3 ⟨i,R,H3,I3,S,Y,w3⟩;rcases O i n R H3 w3 with⟨Z,qn⟩|⟨go,N,hN,a0⟩
 ·refine D7 G (thn (T.done X rfl rfl rfl hc i pins s3 R H3 X.xe I3 (j Y) S Z) fun r s4 ⟨hr,I4⟩ => ?_)
  subst hr;exact FF ⟨R,H3,I4,qn⟩
 ·refine D7 G (thn (T.item X rfl rfl rfl hc i pins s3 R H3 X.xe I3 (j Y) S go) fun r s4 ⟨u,hr,h4⟩ => ?_)
  subst hr;refine D7 G (thn h4 fun _ s5 ⟨x,H5,I5,r5,y5,E,a4⟩ => ?_);have a5:=I5.pinned (j a4) (T.obj _ _ E);refine D7 G (thn (hg _ s5 R H5 x u _ a5 r5 (a0 x H5 y5)) fun _ s6 ⟨σ6,H6,I6,q6⟩ => ?_);refine D7 G (thn (c _ s6 σ6 H6 _ I6 q6) fun f s7 C => ?_);have l:∀{p:St}{q:Hp},Inv X (pins++su M s5.heap) p q s7->N p q->∃m,m<n/\∃i P z,Inv X pins P z s7/\tn i s7.heap/\(∀b∈M,z b=none)/\W i m P z:=fun{p q} y n7=>by
   obtain⟨m',hm,w7⟩:=hN p q n7;refine⟨m',hm,i+1,p,q,y.lO,T.keep _ _ _ E fun b c o e=>(y.pin (b,o) (Au _ (Au _ (kE c e)))).1,fun b c => ?_,w7⟩;obtain⟨o,e,d⟩:=T.obj _ _ E b c;exact(y.pin (b,o) (Au _ (Au _ (kE c e)))).2.1
  cases f with
  | next=>obtain⟨p,q,y,n7⟩:=C;exact l y n7
  | cont=>obtain⟨p,q,y,n7⟩:=C;exact l y n7
  | brk=>obtain⟨p,q,y,C⟩:=C;exact⟨p,q,y.lO,C⟩
  | ret v=>obtain⟨x7,p,q,y,r7,C⟩:=C;exact⟨x7,p,q,y.lO,r7,C⟩
end
theorem bB{K:Lf}{a:Ag}{xs:List V}{g:TG}{tb:TS}{D:Ends}{σ:St}{H:Hp}(b:Nat->St->Hp->Prop)(n:b 0 σ H)(o:∀i σ H,i<=xs.length->b i σ H->SqL K H a xs)(r:∀i x σ H,xs[i]? = some x->b i σ H->g x σ H fun d f=>tb { D with nx:=b (i+1),ct:=b (i+1),bk:=D.nx } d f)(s:∀σ H,b xs.length σ H->D.nx σ H):
  ∃W:Nat->Nat->St->Hp->Prop,(∃m,W 0 m σ H)/\∀i m σ H,W i m σ H ->
   ((Itl K a).stop i H/\D.nx σ H)\/((Itl K a).go i H/\∃N:St->Hp->Prop,(∀j c,N j c->∃l,l<m/\W (i+1) l j c)/\∀x c,(Itl K a).yld i H x c->g x σ c fun d f=>tb { D with nx:=N,ct:=N,bk:=D.nx } d f):=by
 refine⟨fun i m σ H=>m=xs.length-i/\i<=xs.length/\b i σ H,⟨xs.length,by simp,AN _,n⟩,?_⟩;rintro i m σ H ⟨rfl,u,p⟩;have q:=o i σ H u p
 by_cases hlt:i<xs.length
 ·refine .inr ⟨⟨xs,xs[i],q,by simp[hlt]⟩,b (i+1),fun j c v=>⟨xs.length-(i+1),by omega,rfl,hlt,v⟩,fun x c y => ?_⟩
  obtain⟨e,y⟩:=y;subst e;exact r i x σ _ (y xs q) p
 ·have e:i=xs.length:=by omega
  subst e;exact .inl ⟨⟨xs,q,Ak _⟩,s σ H p⟩
theorem uy{K:Lf}{a:Ag}{xs:List V}{g:TG}{tb:TS}{D:Ends}{σ:St}{H:Hp}(b:Nat->St->Hp->Prop)(n:b 0 σ H)(o:∀i σ H,i<=xs.length->b i σ H->SqT K H a xs)(r:∀i x σ H,xs[i]? = some x->b i σ H->g x σ H fun d f=>tb { D with nx:=b (i+1),ct:=b (i+1),bk:=D.nx } d f)(s:∀σ H,b xs.length σ H->D.nx σ H):
  ∃W:Nat->Nat->St->Hp->Prop,(∃m,W 0 m σ H)/\∀i m σ H,W i m σ H ->
   ((Itt K a).stop i H/\D.nx σ H)\/((Itt K a).go i H/\∃N:St->Hp->Prop,(∀j c,N j c->∃l,l<m/\W (i+1) l j c)/\∀x c,(Itt K a).yld i H x c->g x σ c fun d f=>tb { D with nx:=N,ct:=N,bk:=D.nx } d f):=by
 refine⟨fun i m σ H=>m=xs.length-i/\i<=xs.length/\b i σ H,⟨xs.length,by simp,AN _,n⟩,?_⟩;rintro i m σ H ⟨rfl,u,p⟩;have q:=o i σ H u p
 by_cases hlt:i<xs.length
 ·refine .inr ⟨⟨xs,xs[i],q,by simp[hlt]⟩,b (i+1),fun j c v=>⟨xs.length-(i+1),by omega,rfl,hlt,v⟩,fun x c y => ?_⟩
  obtain⟨e,y⟩:=y;subst e;exact r i x σ _ (y xs q) p
 ·have e:i=xs.length:=by omega
  subst e;exact .inl ⟨⟨xs,q,Ak _⟩,s σ H p⟩
theorem mP{lo:Int}{n:Nat}{g:TG}{tb:TS}{D:Ends}{σ:St}{H:Hp}(a:Nat->St->Hp->Prop)(l:a 0 σ H)(o:∀i σ H,i<n->a i σ H->g (.int (lo+i)) σ H fun c d=>tb { D with nx:=a (i+1),ct:=a (i+1),bk:=D.nx } c d)(q:∀σ H,a n σ H->D.nx σ H):
  ∃W:Nat->Nat->St->Hp->Prop,(∃m,W 0 m σ H)/\∀i m σ H,W i m σ H ->
   ((Itr lo n).stop i H/\D.nx σ H)\/((Itr lo n).go i H/\∃N:St->Hp->Prop,(∀f b,N f b->∃j,j<m/\W (i+1) j f b)/\∀x b,(Itr lo n).yld i H x b->g x σ b fun c d=>tb { D with nx:=N,ct:=N,bk:=D.nx } c d):=by
 refine⟨fun i m σ H=>m=n-i/\i<=n/\a i σ H,⟨n,by simp,AN _,l⟩,?_⟩;rintro i m σ H ⟨rfl,s,p⟩
 by_cases hlt:i<n
 ·refine .inr ⟨hlt,a (i+1),fun f b r=>⟨n-(i+1),by omega,rfl,hlt,r⟩,fun x b y => ?_⟩
  obtain⟨e,y⟩:=y;subst e y;exact o i σ _ hlt p
 ·have e:i=n:=by omega
  subst e;exact .inl ⟨Ak _,q σ H p⟩
theorem vq{c:TT}{tb:TS}{D:Ends}{σ:St}{H:Hp}(e:St->Hp->Prop)(μ:St->Hp->Nat)(i:e σ H)(j:∀σ H,e σ H->c σ H fun b H1=>if b=true then tb { D with nx:=fun a d=>e a d/\μ a d<μ σ H,ct:=fun a d=>e a d/\μ a d<μ σ H,bk:=D.nx } σ H1 else D.nx σ H1)(f:∀σ H Q g,(∀b H1,Q b H1->g b H1)->c σ H Q->c σ H g):acY c tb D σ H:=by
 refine⟨fun m σ H=>m=μ σ H/\e σ H,⟨_,rfl,i⟩,?_⟩;rintro m σ H ⟨rfl,p⟩;refine f σ H _ _ (fun b H1 q => ?_) (j σ H p);cases b with
 | true=>exact⟨_,fun a d ⟨n,l⟩=>⟨_,l,rfl,n⟩,q⟩
 | false=>exact q
abbrev R2:=V->V->Hp->VK->Prop
def OpR(X:Cx)(f:Ai->Ai->K2 Ai)(r:R2):Prop :=
 ∀(pins:List (Ag×D5))(s:Aq)(σ:St)(H:Hp)(x y:V)(v u:Ai)(Q:VK),Inv X pins σ H s->RelV x v->RelV y u->r x y H Q ->
  wpAny (model X.prog X.w) X.A (f v u) (EP X pins σ Q) X.xe s
def UnR(X:Cx)(f:Ai->K2 Ai)(r:V->Hp->VK->Prop):Prop :=
 ∀(pins:List (Ag×D5))(s:Aq)(σ:St)(H:Hp)(x:V)(v:Ai)(Q:VK),Inv X pins σ H s->RelV x v->r x H Q ->
  wpAny (model X.prog X.w) X.A (f v) (EP X pins σ Q) X.xe s
def nO(X:Cx)(f:Ai)(r:List V->Hp->VK->Prop):Prop :=
 ∀(pins:List (Ag×D5))(s:Aq)(σ:St)(H:Hp)(xs:List V)(us:List Ai)(Q:VK),Inv X pins σ H s->Vals xs us->r xs H Q ->
  wpAny (model X.prog X.w) X.A (call f us) (EP X pins σ Q) X.xe s
def ajP(X:Cx)(r:V->Hp->(Bool->Hp->Prop)->Prop):Prop :=
 ∀(pins:List (Ag×D5))(s:Aq)(σ:St)(H:Hp)(x:V)(v:Ai)(Q:Bool->Hp->Prop),Inv X pins σ H s->RelV x v->r x H Q ->
  wpAny (model X.prog X.w) X.A (truthy v) (TP X pins σ Q) X.xe s
def tOp(r:R2)(a tb:TE):TE:=fun σ H Q=>a σ H fun x H1=>tb σ H1 fun y b=>r x y b Q
def tUn(r:V->Hp->VK->Prop)(a:TE):TE:=fun σ H Q=>a σ H fun x H1=>r x H1 Q
inductive RI1(C:Int->Int->Prop)(g:Int->Int->V)(x y:V)(H:Hp)(Q:VK):Prop
 | mk (i j:Int)(h1:x=.int i)(h2:y=.int j)(h3:C i j)(q:Q (g i j) H)
def rI(C:Int->Int->Prop)(g:Int->Int->V):R2:=fun x y H Q=>RI1 C g x y H Q
inductive RI2(g:Int->Int->V)(x y:V)(H:Hp)(Q:VK):Prop
 | mk (i j:Int)(h1:x=.int i)(h2:y=.int j)(q:Q (g i j) H)
def rI0(g:Int->Int->V):R2:=fun x y H Q=>RI2 g x y H Q
inductive rU(g:Int->V):V->Hp->VK->Prop
 | mk {x H Q} (i:Int) (h:x=.int i) (q:Q (g i) H):rU g x H Q
section
variable{X:Cx}{a b c:B9}{ta tb tc:TE}{pos:Pos}
theorem ah6(g:PE X a ta)(i:PE X b tb){pins:List (Ag×D5)}{s:Aq}{σ:St}{H:Hp}{R:V->V->Hp->Prop}(I:Inv X pins σ H s)(h:ta σ H fun x H1=>tb σ H1 fun y d=>R x y d){Q:Ai->Aq->Prop}{f:Ai->Ai->K2 Ai}(hf:∀v u e x y d,Inv X pins σ d e->RelV x v->RelV y u->R x y d->wpAny (model X.prog X.w) X.A (f v u) Q X.xe e):
  wpAny (model X.prog X.w) X.A (eval a X.env) (fun v j=>wpAny (model X.prog X.w) X.A (eval b X.env) (fun u l=>wpAny (model X.prog X.w) X.A (f v u) Q X.xe l) X.xe j) X.xe s:=by
 refine thn (g pins s σ H _ I h) fun v m ⟨x,H1,n,o,p⟩ => ?_;refine thn (i pins m σ H1 _ n p) fun u e ⟨y,d,q,r,z⟩ => ?_;exact hf v u e x y d q o r z
theorem aV{op:Operator}{r:R2}(d:OpR X (binaryOp op) r)(e:PE X a ta)(f:PE X b tb):PE X (.BinOp a op b pos) (tOp r ta tb):=by
 intro pins s σ H Q I h;exact wpAny_BinOp (ah6 e f I h fun v u g x y i j l m q=>d pins g σ i x y v u Q j l m q)
theorem uE{op:UnaryOp}{r:V->Hp->VK->Prop}(d:UnR X (unaryOp op) r)(e:PE X a ta):PE X (.UnaryOp op a pos) (tUn r ta):=by
 intro pins s σ H Q I h;exact UnaryOp_ (thn (e pins s σ H _ I h) fun v f ⟨x,H1,g,i,j⟩=>d pins f σ H1 x v Q g i j)
theorem opI{f:Ai->Ai->K2 Ai}{C:Int->Int->Prop}{g:Int->Int->Int}(d:∀(i j:Int) (t u:KN) (s:Aq) (Q:Ai->Aq->Prop) (E:Ai->Aq->Prop),C i j->Q (.int (g i j) s.toks) { s with toks:=s.toks+1 }->wpAny (model X.prog X.w) X.A (f (.int i t) (.int j u)) Q E s):
  OpR X f (rI C fun i j=>.int (g i j)):=by
 intro pins s σ H x y v u Q I e l h;obtain⟨i,j,rfl,rfl,m,q⟩:=h;obtain⟨t,rfl⟩:=e;obtain⟨t',rfl⟩:=l;exact d i j t t' s _ _ m ⟨.int (g i j),H,I.tok _,⟨_,rfl⟩,q⟩
theorem ajl{f:Ai->Ai->K2 Ai}{g:Int->Int->Int}(d:∀(i j:Int) (t u:KN) (s:Aq) (Q:Ai->Aq->Prop) (E:Ai->Aq->Prop),Q (.int (g i j) s.toks) { s with toks:=s.toks+1 }->wpAny (model X.prog X.w) X.A (f (.int i t) (.int j u)) Q E s):
  OpR X f (rI0 fun i j=>.int (g i j)):=by
 intro pins s σ H x y v u Q I e l h;obtain⟨i,j,rfl,rfl,q⟩:=h;obtain⟨t,rfl⟩:=e;obtain⟨t',rfl⟩:=l;exact d i j t t' s _ _ ⟨.int (g i j),H,I.tok _,⟨_,rfl⟩,q⟩
theorem ahL{f:Ai->Ai->K2 Ai}{g:Int->Int->Bool}(d:∀(i j:Int) (t u:KN) (s:Aq) (Q:Ai->Aq->Prop) (E:Ai->Aq->Prop),Q (.bool (g i j)) s->wpAny (model X.prog X.w) X.A (f (.int i t) (.int j u)) Q E s):
  OpR X f (rI0 fun i j=>.bl (g i j)):=by
 intro pins s σ H x y v u Q I e l h;obtain⟨i,j,rfl,rfl,q⟩:=h;obtain⟨t,rfl⟩:=e;obtain⟨t',rfl⟩:=l;exact d i j t t' s _ _ ⟨.bl (g i j),H,I,rfl,q⟩
def x3(i j:Int):Prop:=(-(2 ^ 64)<i/\i<2 ^ 64)\/(-(2 ^ 64)<j/\j<2 ^ 64)
theorem x3.ok{i j:Int}(h:x3 i j):IntMulOk i j:=by
 rcases h with⟨d,e⟩|⟨d,e⟩
 ·exact .of_left (Ke d e)
 ·exact .of_right (Ke d e)
theorem cw:OpR X (binaryOp .Add) (rI0 fun i j=>.int (i+j)):=ajl fun _ _ _ _ _ _ _ q=>add_int q
theorem dE:OpR X (binaryOp .Sub) (rI0 fun i j=>.int (i-j)):=ajl fun _ _ _ _ _ _ _ q=>sub_int q
theorem dF:OpR X (binaryOp .Mult) (rI x3 fun i j=>.int (i*j)):=opI fun _ _ _ _ _ _ _ d q=>mul_int q d.ok
theorem unI{f:Ai->K2 Ai}{g:Int->Int}(d:∀(i:Int) (t:KN) (s:Aq) (Q:Ai->Aq->Prop) (E:Ai->Aq->Prop),Q (.int (g i) s.toks) { s with toks:=s.toks+1 }->wpAny (model X.prog X.w) X.A (f (.int i t)) Q E s):
  UnR X f (rU fun i=>.int (g i)):=by
 intro pins s σ H x v Q I e h;obtain⟨i,rfl,q⟩:=h;obtain⟨t,rfl⟩:=e;exact d i t s _ _ ⟨.int (g i),H,I.tok _,⟨_,rfl⟩,q⟩
theorem mh:UnR X (unaryOp .USub) (rU fun i=>.int (-i)):=unI fun _ _ _ _ _ q=>neg_int q
end
noncomputable def ai3:V->V->Bool
 | .non,.non=>true|.non,.int _=>true|.int _,.non=>true|.non,.bl _=>true|.bl _,.non=>true|.non,.str _=>true|.str _,.non=>true
 | .int _,.int _=>true|.bl _,.bl _=>true|.str _,.str _=>true|.byt _,.byt _=>true
 | .int _,.str _=>true|.str _,.int _=>true|.bl _,.str _=>true|.str _,.bl _=>true
 | _,_=>false
def rEq:R2:=fun x y H Q=>ai3 x y=true/\Q (.bl (decide (x=y))) H
def rNe:R2:=fun x y H Q=>ai3 x y=true/\Q (.bl (!decide (x=y))) H
theorem kJ{i j:Int}:decide (V.int i=V.int j)=(i==j):=by
 rw[B3];simp
theorem yF{i j:Bool}:decide (V.bl i=V.bl j)=(i==j):=by
 rw[B3];simp
theorem zm{i j:AW}:decide (V.str i=V.str j)=(i==j):=by
 rw[B3];simp
theorem yH{i j:Array UInt8}:decide (V.byt i=V.byt j)=(i.toList==j.toList):=by
 rw[B3];cases i
 cases j
 simp
section
variable{X:Cx}{a b c:B9}{ta tb tc:TE}{pos:Pos}
theorem bt{pins:List (Ag×D5)}{σ:St}{H:Hp}{s:Aq}{Q:VK}{k d:Bool}(I:Inv X pins σ H s)(q:Q (.bl k) H)(e:k=d):EP X pins σ Q (.bool d) s:=by
 subst e;exact⟨.bl k,H,I,rfl,q⟩
theorem aeZ:OpR X (compareOp .Eq) rEq:=by
 intro pins s σ H x y v u Q I f d h;obtain⟨e,q⟩:=h;cases x with
 | non =>
  cases f
  cases y with
  | non=>cases d;exact PySem.EqNone.eq_none_none (bt I q (by simp))
  | bl j=>cases d;exact PySem.EqNone.eq_none_bool (bt I q (by simp))
  | int j=>obtain⟨t',rfl⟩:=d;exact PySem.EqNone.eq_none_int (bt I q (by simp))
  | str j=>obtain⟨t',rfl⟩:=d;exact PySem.EqNone.eq_none_str (bt I q (by simp))
  | _=>exact absurd (show false=true from e) AS
 | bl i =>
  cases f
  cases y with
  | non=>cases d;exact PySem.EqNone.eq_bool_none (bt I q (by simp))
  | bl j=>cases d;exact eq_bool (bt I q yF)
  | str j=>obtain⟨t',rfl⟩:=d;exact PySem.EqMixed.eq_bool_str (bt I q (by simp))
  | _=>exact absurd (show false=true from e) AS
 | int i =>
  obtain⟨t,rfl⟩:=f;cases y with
  | non=>cases d;exact PySem.EqNone.eq_int_none (bt I q (by simp))
  | int j=>obtain⟨t',rfl⟩:=d;exact eq_int (bt I q kJ)
  | str j=>obtain⟨t',rfl⟩:=d;exact PySem.EqMixed.eq_int_str (bt I q (by simp))
  | _=>exact absurd (show false=true from e) AS
 | str i =>
  obtain⟨t,rfl⟩:=f;cases y with
  | non=>cases d;exact PySem.EqNone.eq_str_none (bt I q (by simp))
  | bl j=>cases d;exact PySem.EqMixed.eq_str_bool (bt I q (by simp))
  | int j=>obtain⟨t',rfl⟩:=d;exact PySem.EqMixed.eq_str_int (bt I q (by simp))
  | str j=>obtain⟨t',rfl⟩:=d;exact eq_str (bt I q zm)
  | _=>exact absurd (show false=true from e) AS
 | byt i =>
  obtain⟨t,rfl⟩:=f;cases y with
  | byt j=>obtain⟨t',rfl⟩:=d;exact PySem.W.eq_bytes (bt I q yH)
  | _=>exact absurd (show false=true from e) AS
 | _=>cases y <;> exact absurd (show false=true from e) AS
theorem aix:OpR X (compareOp .NotEq) rNe:=by
 intro pins s σ H x y v u Q I f d h;obtain⟨e,q⟩:=h;cases x with
 | non =>
  cases f
  cases y with
  | non=>cases d;exact PySem.EqNone.ne_none_none (bt I q (by simp))
  | bl j=>cases d;exact PySem.EqNone.ne_none_bool (bt I q (by simp))
  | int j=>obtain⟨t',rfl⟩:=d;exact PySem.EqNone.ne_none_int (bt I q (by simp))
  | str j=>obtain⟨t',rfl⟩:=d;exact PySem.EqNone.ne_none_str (bt I q (by simp))
  | _=>exact absurd (show false=true from e) AS
 | bl i =>
  cases f
  cases y with
  | non=>cases d;exact PySem.EqNone.ne_bool_none (bt I q (by simp))
  | bl j=>cases d;exact ne_bool (bt I q (B2 not yF))
  | str j=>obtain⟨t',rfl⟩:=d;exact PySem.EqMixed.ne_bool_str (bt I q (by simp))
  | _=>exact absurd (show false=true from e) AS
 | int i =>
  obtain⟨t,rfl⟩:=f;cases y with
  | non=>cases d;exact PySem.EqNone.ne_int_none (bt I q (by simp))
  | int j=>obtain⟨t',rfl⟩:=d;exact ne_int (bt I q (B2 not kJ))
  | str j=>obtain⟨t',rfl⟩:=d;exact PySem.EqMixed.ne_int_str (bt I q (by simp))
  | _=>exact absurd (show false=true from e) AS
 | str i =>
  obtain⟨t,rfl⟩:=f;cases y with
  | non=>cases d;exact PySem.EqNone.ne_str_none (bt I q (by simp))
  | bl j=>cases d;exact PySem.EqMixed.ne_str_bool (bt I q (by simp))
  | int j=>obtain⟨t',rfl⟩:=d;exact PySem.EqMixed.ne_str_int (bt I q (by simp))
  | str j=>obtain⟨t',rfl⟩:=d;exact ne_str (bt I q (B2 not zm))
  | _=>exact absurd (show false=true from e) AS
 | byt i =>
  obtain⟨t,rfl⟩:=f;cases y with
  | byt j=>obtain⟨t',rfl⟩:=d;exact PySem.W.ne_bytes (bt I q (B2 not yH))
  | _=>exact absurd (show false=true from e) AS
 | _=>cases y <;> exact absurd (show false=true from e) AS
theorem xH:OpR X (compareOp .Lt) (rI0 fun i j=>.bl (decide (i<j))):=ahL fun _ _ _ _ _ _ _ q=>lt_int q
theorem wZ:OpR X (compareOp .LtE) (rI0 fun i j=>.bl (decide (i<=j))):=ahL fun _ _ _ _ _ _ _ q=>le_int q
theorem lJ:OpR X (compareOp .Gt) (rI0 fun i j=>.bl (decide (j<i))):=ahL fun _ _ _ _ _ _ _ q=>gt_int q
theorem agu:OpR X (compareOp .GtE) (rI0 fun i j=>.bl (decide (j<=i))):=ahL fun _ _ _ _ _ _ _ q=>ge_int q
theorem bj(b:B9){op:K3}(h:op≠.In:=by decide)(d:op≠.NotIn:=by decide):behindInMarks op b=false:=by
 have e1:(op==CmpOp.In)=false:=by cases op <;> first|rfl|exact absurd rfl h
 have e:(op==K4)=false:=by cases op <;> first|rfl|exact absurd rfl d
 cases b <;> simp[behindInMarks,e1,e]
theorem bg{op:K3}{r:R2}(d:OpR X (compareOp op) r)(e:PE X a ta)(f:PE X b tb)(g:behindInMarks op b=false):PE X (.Compare a [op] [b] pos) (tOp r ta tb):=by
 intro pins s σ H Q I h;exact wpAny_Compare1 (ah6 e f I h fun v u i x y j l m n q=>d pins i σ j x y v u Q l m n q) g
def tM(t:TE):TT:=fun σ H Q=>t σ H fun x d=>TBl x d Q
theorem fV{op:K3}{r:R2}(d:OpR X (compareOp op) r)(f:PE X a ta)(g:PE X b tb)(i:behindInMarks op b=false):PT X (.Compare a [op] [b] pos) (tM (tOp r ta tb)):=by
 intro pins s σ H Q I h;refine Hu (thn (f pins s σ H _ I h) fun v j ⟨x,H1,l,m,n⟩=>thn (g pins j σ H1 _ l n) fun u o ⟨y,p,q,w,A⟩ =>
  thn (d pins o σ p x y v u _ q m w A) fun c J ⟨z,B,C,E,k,e,G⟩ => ?_) i
 subst e;cases E
 exact DD ⟨B,C,G⟩
def aj0(K:Lf)(x:V)(H:Hp)(k:Bool):Prop :=
 match x with
 | .non=>k=false
 | .bl b=>k=b
 | .int i=>k=(i != 0)
 | .str y=>y.length<=sizeLine/\k=((y.length:Int) != 0)
 | .byt y=>y.size<=sizeLine/\k=((y.size:Int) != 0)
 | .ref p=>(∃xs,SqL K H p xs/\k = !xs.isEmpty)\/(∃xs,SqT K H p xs/\k = !xs.isEmpty)\/∃d,H p=some (.dK d)/\k = !d.isEmpty
 | _=>False
theorem xO{κ:Type}{d:List (κ×V)}{vs:List (κ×Ai)}(r:KV d vs):(!vs.isEmpty) = !d.isEmpty:=by
 cases r <;> rfl
theorem pB{xs:List V}{d:List Ai}(r:Vals xs d):(!d.toArray.isEmpty) = !xs.isEmpty:=by
 cases r <;> simp
theorem vf:(sizeLine:Nat)<2 ^ 63:=by rw[G2];decide
inductive ah5(K:Lf)(x:V)(H:Hp)(Q:Bool->Hp->Prop):Prop
 | mk (k:Bool)(h:aj0 K x H k)(q:Q k H)
theorem aht:ajP X (fun x H Q=>ah5 X.K x H Q):=by
 intro pins s σ H x v Q I j h;obtain⟨k,e,q⟩:=h;have z:=vf;have A:sizeLine=16777216:=G2;cases x with
 | non =>
  cases j
  have d:k=false:=e;subst d;exact truthy_none ⟨H,I,q⟩
 | bl b =>
  cases j
  have d:k=b:=e;subst d;exact DD ⟨H,I,q⟩
 | int i =>
  obtain⟨t,rfl⟩:=j;have d:k=(i != 0):=e;subst d;exact PySem.P.truthy_int ⟨H,I,q⟩
 | str y =>
  obtain⟨t,rfl⟩:=j;obtain⟨o,d⟩:y.length<=sizeLine/\k=((y.length:Int) != 0):=e;subst d;exact PySem.P.truthy_str (by omega) ⟨H,I.tok _,q⟩
 | byt y =>
  obtain⟨t,rfl⟩:=j;obtain⟨o,d⟩:y.size<=sizeLine/\k=((y.size:Int) != 0):=e;subst d;exact PySem.W.truthy_bytes (by omega) ⟨H,I.tok _,q⟩
 | ref p =>
  cases j
  have d:(∃xs,SqL X.K H p xs/\k = !xs.isEmpty)\/(∃xs,SqT X.K H p xs/\k = !xs.isEmpty)\/∃f,H p=some (.dK f)/\k = !f.isEmpty:=e;rcases d with⟨xs,l,d⟩|⟨xs,l,d⟩|⟨f,l,d⟩
  ·subst d
   obtain⟨n,r,pl,hz⟩:=I.list l;have g:=r.length;exact wpAny_truthy_list pl.isList (by simp only[A9];omega) ⟨H,I.tok _,by rw[pB r];exact q⟩
  ·subst d
   obtain⟨n,r,pl,hz⟩:=I.tuple l;have g:=r.length;exact truthy_tuple pl (by simp only[A9];omega) ⟨H,I.tok _,by rw[pB r];exact q⟩
  ·subst d
   obtain⟨hz,u,vs,r,m⟩:f.length<=sizeLine/\(p==sysModules)=false/\∃vs,KV f vs/\s.heap.DictOf (bO X.prog X.w) p vs:=I.hok p _ l;have g:f.length=vs.length:=F1 r;exact wpAny_truthy_dict u m (by omega) ⟨H,I.tok _,by rw[xO r];exact q⟩
 | _=>exact(show False from e).elim
theorem aX(e:PE X a ta)(he:∀d,isTrue a X.env d=(do let v <- d;standAt a.pos;holding [v] (truthy v))):
  PT X a (fun σ H Q=>ta σ H fun x f=>ah5 X.K x f Q):=by
 intro pins s σ H Q I h;exact isTrue_plain (thn (e pins s σ H _ I h) fun v g ⟨x,H1,i,j,l⟩=>aht pins g σ H1 x v Q i j l) (he _)
theorem vals1{x:V}{us:List Ai}(r:Vals [x] us):∃u,us=[u]/\RelV x u:=by
 cases r with
 | cons d e=>cases e;exact⟨_,rfl,d⟩
theorem vals2{x y:V}{us:List Ai}(r:Vals [x,y] us):∃u d,us=[u,d]/\RelV x u/\RelV y d:=by
 cases r with
 | cons e f =>
  cases f with
  | cons g i=>cases i;exact⟨_,_,rfl,e,g⟩
theorem ye(d:X.calm=true):nO X (.builtin "max") (fun xs H Q=>∃i j,xs=[.int i,.int j]/\Q (.int (if j>i then j else i)) H):=by
 intro pins s σ H xs us Q I r h;obtain⟨i,j,rfl,q⟩:=h;obtain⟨u,e,rfl,⟨t,rfl⟩,⟨t',rfl⟩⟩:=vals2 r;refine max_two_ints (I.ok.hd d) fun h' tk k=>⟨_,H,I.kept k,?_,q⟩
 by_cases hj:j>i
 ·rw[As hj,As hj];exact⟨_,rfl⟩
 ·rw[Ar hj,Ar hj];exact⟨_,rfl⟩
theorem yZ(d:X.calm=true):nO X (.builtin "min") (fun xs H Q=>∃i j,xs=[.int i,.int j]/\Q (.int (if j<i then j else i)) H):=by
 intro pins s σ H xs us Q I r h;obtain⟨i,j,rfl,q⟩:=h;obtain⟨u,e,rfl,⟨t,rfl⟩,⟨t',rfl⟩⟩:=vals2 r;refine min_two_ints (I.ok.hd d) fun h' tk k=>⟨_,H,I.kept k,?_,q⟩
 by_cases hj:j<i
 ·rw[As hj,As hj];exact⟨_,rfl⟩
 ·rw[Ar hj,Ar hj];exact⟨_,rfl⟩
end
structure aek(h:B1)(x dx C:Ag)(mA:AW->Option Ai):Prop where
 obj:h.get? x=some (CV C dx)
 ns:h.Ns1 dx mA
 ne:dx≠x
theorem zY{h:B1}{dx:Ag}{c:AW->Option Ai}(n:h.Ns1 dx c):∃d,h.get? dx=some d/\∀name,Gk name d=some (c name):=by
 obtain⟨o,f,p,g,i,j,_,l⟩:=n;refine⟨o,g,fun name => ?_⟩;have e:=l name;unfold nsFind findBy at e;rw[<- Array.find?_toList] at e;unfold Gk;rw[i];dsimp only
 split
 ·rename_i y q
  rw[q] at e;exact B2 some e
 ·rename_i q
  rw[q] at e;have a:f.toList.any (·.refKey)=false:=by
   rw[Eh];intro y m;obtain⟨z,t,b⟩:=j y (Array.mem_toList_iff.mp m);simp[DictEntry.refKey,b]
  have a':¬f.toList.any (·.refKey)=true:=by rw[a];exact AS
  rw[Ar a'];exact B2 some e
theorem aek.look{h:B1}{x dx C:Ag}{b:AW->Option Ai}(I:aek h x dx C b):∃a,PySem.W.InstAt h x (CV C dx) C (some a)/\∀name,Gk name a=some (b name) :=
 let ⟨a,ho,hl⟩:=zY I.ns
 ⟨a,⟨I.obj,rfl,rfl,ho⟩,hl⟩
section
variable{prog:AI}{w:AZ}{A:B7}{E:Ai->Aq->Prop}{s:Aq}{K:Lf}{x dx C f:Ag}{mA:AW->Option Ai}{name:AW}{v:Ai}
theorem get_map{a:Bool}{Q:Ai->Aq->Prop}(X:K.In s.heap)(I:aek s.heap x dx C mA)(c:E1 K C name=true)(hh:ET K C=true)(d:BS K (.ref C) name=some none)(e:mA name=some v)(b:Jj v=true)(h:Q v { s with toks:=s.toks+1 }):
  wpAny (model prog w) A (getAttr (.ref x) name a) Q E s:=by
 obtain⟨i,J,g⟩:=I.look;exact PySem.W.get_value X J (FV c).1 (PySem.W.findObj_own hh d rfl (by rw[g,e])) b h
theorem ach{pl:K2 Bool}{Q:Ai×List Ai->Aq->Prop}(X:K.In s.heap)(I:aek s.heap x dx C mA)(a:E1 K C name=true)(hf:BS K (.ref C) name=some (some (.ref f)))(b:FZ K (.ref f)=true)(c:mA name=none)(h:Q (.ref f,[.ref x]) s):
  wpAny (model prog w) A (getMethod (.ref x) name pl) Q E s:=by
 obtain⟨d,J,e⟩:=I.look;exact PySem.W.method_fn X J (FV a).1 (FV a).2 hf (BL.mp b) (by show(Gk name d).map (·.isSome)=some false;rw[e,c];rfl) h
theorem ae7{l:List AW}{Q:Unit->Aq->Prop}(X:K.In s.heap)(I:aek s.heap x dx C mA)(m:BS K (.ref C) "__setattr__" = some (some (.builtin "object.__setattr__")))(n:G3 K C=true)(o:Hq K C name=some none)(hh:ET K C=true)(p:IJ mA l)(hsz:l.length<=sizeLine)(h:∀h',aek h' x dx C (fun y=>if y=name then some v else mA y)->Ez dx s.heap h'->Q () { s with heap:=h',toks:=s.toks+2 }):
  wpAny (model prog w) A (setAttr (.ref x) name v) Q E s:=by
 obtain⟨G,J,H⟩:=I.look;refine PySem.W.set_plain X J m (PySem.W.osa_open (s:={ s with toks:=s.toks+1 }) (r:=none) X J n o fun b => ?_);obtain⟨M,q,e⟩:=PySem.W.any_some hh;have u:s.heap.get? x=some ⟨.ref C,some dx,.plain,#[]⟩:=I.obj;refine Af (A2 (Af (Af (wpAny_loadPart u (Af (PySem.W.Looks.here (s:={ s with toks:=s.toks+1 }) (PySem.W.looks_clsIn X q) ?_))))));rw[e];refine A2 (a:=some dx) (Af (A2 (Af ?_)));refine wpAny_nsSet1 (s:={ s with toks:=s.toks+1 }) I.ns fun h' c d => ?_;obtain⟨O,z,B,g,i,j⟩:=c.count (PySem.Within.cons name v p);refine Af (wpAny_lookBehind g (by rw[i];exact pastItsLine_dict (Br j (by rw[A7];omega))) ?_);exact A2 (h _ ⟨(d.2 _ (Ne.symm I.ne)).trans I.obj,c,I.ne⟩ d)
theorem acz{R:JH->Aq->Prop}{vs:List Ai}{b:List (AW×Ai)}(X:K.In s.heap)(c:Hr K C=true)(e:BS K (.ref C) "__init__" = some (some (.ref f)))(hf:PySem.W.typeIn K (.ref f)=some (.type "function"))(h:codeAny (model prog w) (A.under (.builtin "type.__call__" ⟨.ref C::vs,b⟩)) (.call (.ref f) ⟨.ref (s.heap.objs.size+1)::vs,b⟩) (PySem.W.InitBack (s.heap.objs.size+1) R)
   { s with heap:=(s.heap.push C3).push (CV C s.heap.objs.size) }):
  codeAny (model prog w) A (.call (.ref C) ⟨vs,b⟩) R s:=by
 obtain⟨hh,g,d,t,i⟩:=s;exact PySem.W.make_core (PySem.W.makes_of X c) (PySem.W.looks_findIn X e) (fun a=>PySem.W.bind_fn X a hf) (.inl rfl) h
end
noncomputable def sT(f:AW)(v:V):List (AW×V)->List (AW×V)
 | []=>[(f,v)]
 | (g,x)::r=>if g=f then (g,v)::r else (g,x)::sT f v r
theorem mU(f g:AW)(v:V):∀b:List (AW×V),(sT f v b).lookup g=if g=f then some v else b.lookup g
 | []=>by
  show Em g [(f,v)]=_
  by_cases h:g=f
  ·have a:(g==f)=true:=BL.mpr h
   simp only[Em,a,As h]
  ·have a:(g==f)=false:=BX.mpr h
   simp only[Em,a,Ar h]
 | (k,x)::r=>by
  have c:=mU f g v r;rw[show sT f v ((k,x)::r)=(if k=f then (k,v)::r else (k,x)::sT f v r) from rfl]
  by_cases hk:k=f
  ·rw[As hk]
   by_cases h:g=k
   ·have a:(g==k)=true:=BL.mpr h
    simp only[Em,a,As (h.trans hk)]
   ·have a:(g==k)=false:=BX.mpr h
    simp only[Em,a,Ar (fun e:g=f=>h (e.trans hk.symm))]
  ·rw[Ar hk]
   by_cases h:g=k
   ·have a:(g==k)=true:=BL.mpr h
    simp only[Em,a,Ar (fun e:g=f=>hk (h.symm.trans e))]
   ·have a:(g==k)=false:=BX.mpr h
    simp only[Em,a];exact c
theorem mr(f:AW)(v:V):∀a:List (AW×V),f∈(sT f v a).map (·.1)/\∀g,g∈a.map (·.1)->g∈(sT f v a).map (·.1)
 | []=>⟨by simp[sT],fun g h=>by simp at h⟩
 | (k,x)::r=>by
  obtain⟨b,c⟩:=mr f v r;rw[show sT f v ((k,x)::r)=(if k=f then (k,v)::r else (k,x)::sT f v r) from rfl]
  by_cases hk:k=f
  ·rw[As hk]
   subst hk;exact⟨by simp,fun g h=>by simpa using h⟩
  ·rw[Ar hk]
   refine⟨?_,fun g h => ?_⟩
   ·rw[AA]
    exact Ac _ b
   ·rw[AA] at h ⊢
    rcases Am.mp h with e|e
    ·exact Am.mpr (.inl e)
    ·exact Ac _ (c g e)
theorem mH(f:AW)(v:V):∀a:List (AW×V),(sT f v a).length<=a.length+1
 | []=>by simp[sT]
 | (k,x)::r=>by
  have b:=mH f v r;rw[show sT f v ((k,x)::r)=(if k=f then (k,v)::r else (k,x)::sT f v r) from rfl]
  by_cases hk:k=f
  ·rw[As hk,A7,A7];omega
  ·rw[Ar hk,A7,A7];omega
theorem vc.some_of{v:V}{o:Option Ai}(r:vc (some v) o):∃u,o=some u/\RelV v u:=by
 cases o with
 | none=>exact(show False from r).elim
 | some u=>exact⟨u,rfl,r⟩
theorem vc.none_of{o:Option Ai}(r:vc none o):o=none:=by
 cases o with
 | none=>rfl
 | some u=>exact(show False from r).elim
theorem aaX{v:V}{u:Ai}(r:RelV v u):Jj u=true:=by
 cases v with
 | non=>cases(show u=DJ from r);rfl
 | bl b=>cases(show u=Ip b from r);rfl
 | int i=>obtain⟨t,e⟩:=(show ∃t,u=Ey i t from r);cases e;rfl
 | str x=>obtain⟨t,e⟩:=(show ∃t,u=Jf x t from r);cases e;rfl
 | byt b=>obtain⟨t,e⟩:=(show ∃t,u=K0 b t from r);cases e;rfl
 | flt b=>obtain⟨t,e⟩:=(show ∃t,u=K1 b t from r);cases e;rfl
 | ref a=>cases(show u=Bo a from r);rfl
 | ty n=>cases(show u=Dx n from r);rfl
section
variable{P:AI}{w:AZ}{H H':Hp}{h h':B1}{a C dx:Ag}{fs fs':List (AW×V)}
theorem ub(c:HOk P w H h)(e:H a=some (.ins C dx fs)):∃b,aek h a dx C b/\(∀f,vc (fs.lookup f) (b f))/\IJ b (fs.map (·.1))/\fs.length<=1000/\H dx=some (.own a):=by
 obtain⟨d,z,g,ob,b,n,r,q⟩:=(show cf P w H h a (.ins C dx fs) from c a _ e);exact⟨b,⟨ob,n,g⟩,r,q,z,d⟩
end
structure Cls(K:Lf)(C:Ag):Prop where
 pg:E1 K C Str.empty=true
 hd:ET K C=true
 po:G3 K C=true
 sa:BS K (.ref C) "__setattr__" = some (some (.builtin "object.__setattr__"))
theorem Cls.get{K:Lf}{C:Ag}(c:Cls K C)(f:AW):E1 K C f=true:=c.pg
def fJ(K:Lf)(C:Ag)(f:AW):Prop:=BS K (.ref C) f=some none
theorem fJ.aiA{K:Lf}{C:Ag}{f:AW}(n:fJ K C f):Hq K C f=some none:=by
 unfold Hq;rw[show BS K (.ref C) f=some none from n];rfl
structure Meth(K:Lf)(C:Ag)(m:AW)(f:Ag):Prop where
 at_:BS K (.ref C) m=some (some (.ref f))
 fn:FZ K (.ref f)=true
 kp:Cb K (.ref f)=true
section
variable{X:Cx}{pins:List (Ag×D5)}{σ:St}{H:Hp}{s:Aq}{a C dx:Ag}{fs:List (AW×V)}{f:AW}{v:V}{A:B7}{E:Ai->Aq->Prop}
theorem xD{b:Bool}{Q:Ai->Aq->Prop}(I:Inv X pins σ H s)(e:H a=some (.ins C dx fs))(c:Cls X.K C)(n:fJ X.K C f)(l:fs.lookup f=some v)(h:∀u d,Inv X pins σ H d->RelV v u->Q u d):wpAny (model X.prog X.w) A (getAttr (.ref a) f b) Q E s:=by
 obtain⟨i,O,r,_,_,_⟩:=ub I.hok e;obtain⟨u,j,g⟩:=vc.some_of (v:=v) (o:=i f) (by rw[<- l];exact r f);exact get_map I.kIn O (c.get f) c.hd n j (aaX g) (h u _ (I.tok _) g)
theorem oK{m:AW}{g:Ag}{pl:K2 Bool}{Q:Ai×List Ai->Aq->Prop}(I:Inv X pins σ H s)(e:H a=some (.ins C dx fs))(c:Cls X.K C)(k:Meth X.K C m g)(l:fs.lookup m=none)(h:Q (.ref g,[.ref a]) s):wpAny (model X.prog X.w) A (getMethod (.ref a) m pl) Q E s:=by
 obtain⟨b,O,r,_,_,_⟩:=ub I.hok e;have d:b m=none:=vc.none_of (by rw[<- l];exact r m);exact ach I.kIn O (c.get m) k.at_ k.fn d h
theorem xM{y:V}{u:Ai}{Q:Unit->Aq->Prop}(I:Inv X pins σ H s)(e:H a=some (.ins C dx fs))(c:Cls X.K C)(n:fJ X.K C f)(P:fs.length<1000)(p:RelV y u)(h:∀i,Inv X pins σ (upd H a (.ins C dx (sT f y fs))) i->Q () i):wpAny (model X.prog X.w) A (setAttr (.ref a) f u) Q E s:=by
 obtain⟨j,O,r,l,_,m⟩:=ub I.hok e;have hz:(fs.map (·.1)).length<=sizeLine:=by rw[Ab,G2];omega
 refine ae7 I.kIn O c.sa c.po n.aiA c.hd l hz fun h' d B=>h _ ?_;have G:∃o,h'.get? dx=some o:=let ⟨o,_,_,e',_⟩:=d.ns;⟨o,e'⟩
 refine I.write (x:=a) (e:=dx) (by rw[e];exact En) (.inr m) (fun b q J z=>(B.2 b J).trans z) G ?_;refine⟨by rw[aw O.ne];exact m,?_,O.ne,d.obj,_,d.ns,fun g => ?_,fun g M => ?_⟩
 ·have:=mH f y fs;omega
 ·show vc ((sT f y fs).lookup g) (if g=f then some u else j g)
  rw[mU]
  by_cases q:g=f
  ·rw[As q,As q];exact p
  ·rw[Ar q,Ar q];exact r g
 ·by_cases q:g=f
  ·rw[q];exact(mr f y fs).1
  ·refine(mr f y fs).2 g (l g fun z=>M ?_)
   show(if g=f then some u else j g)=none;rw[Ar q];exact z
theorem Inv.made(I:Inv X pins σ H s):Inv X pins σ (upd (upd H s.heap.objs.size (.own (s.heap.objs.size+1))) (s.heap.objs.size+1) (.ins C s.heap.objs.size []))
  { s with heap:=(s.heap.push C3).push (CV C s.heap.objs.size) }:=by
 have e1:(s.heap.push C3).get? s.heap.objs.size=some PySem.W.emptyDict:=AH s.heap rfl;have d:((s.heap.push C3).push (CV C s.heap.objs.size)).get? (s.heap.objs.size+1)=some (CV C s.heap.objs.size):=by
  have:=AH (s.heap.push C3) (o:=CV C s.heap.objs.size) rfl
  rwa [BU] at this
 have g:(s.heap.push C3).Ns s.heap.objs.size (fun _=>none):=⟨C3,#[],_,e1,rfl,(fun e he=>absurd he (by simp)),fun _=>rfl⟩;have i:=I.laid (a:=s.heap.objs.size) (o:=.own (s.heap.objs.size+1)) (h':=s.heap.push C3) (t':=s.toks) (fun b u q=>Ap _ q) (Ak _) ⟨_,e1⟩;refine i.laid (a:=s.heap.objs.size+1) (o:=.ins C s.heap.objs.size []) (t':=s.toks) (fun b u q=>Ap _ q) (DT (BU _ _)) ?_;have c:s.heap.objs.size≠s.heap.objs.size+1:=Bj (GS _);refine⟨by rw[aw c,ag],AN _,c,d,fun _=>none,(Heap.Ns1.of_empty g).at fun o q=>Ap _ q,fun _=>En,fun y j=>absurd rfl j⟩
theorem aeO{prog:AI}{w:AZ}{b:Ib}{e:B9}{f:AW}{pos:Pos}{s:Aq}{Q:Ai->Aq->Prop}(c:attributeBase e f b (eval e b)=eval e b)(h:wpAny (model prog w) A (eval e b) (fun o d=>wpAny (model prog w) A (getAttr o f true) Q E d) E s):wpAny (model prog w) A (eval (.Attribute e f pos) b) Q E s :=
 Attribute_any_ h (by rw[arm_eval_Attribute,c])
end
def acV(K:Lf)(c:TE)(f:AW):TE:=fun σ H Q=>c σ H fun x H1=>∃a C dx b v,x=.ref a/\H1 a=some (.ins C dx b)/\Cls K C/\fJ K C f/\b.lookup f=some v/\Q v H1
def ajM(K:Lf)(d e:TE)(f:AW):TS:=fun D σ H=>e σ H fun y H1=>d σ H1 fun x c=>∃a C dx b,x=.ref a/\c a=some (.ins C dx b)/\Cls K C/\fJ K C f/\b.length<1000 /\
 D.nx σ (upd c a (.ins C dx (sT f y b)))
section
variable{X:Cx}{o e value:B9}{f:AW}{pos pos' tpos:Pos}{ta tv:TE}
theorem aA(he:PE X e ta)(b:attributeBase e f X.env (eval e X.env)=eval e X.env):PE X (.Attribute e f pos) (acV X.K ta f):=by
 intro pins s σ H Q I h;refine aeO b (thn (he pins s σ H _ I h) fun u r ⟨x,H1,d,g,a,C,dx,w,v,i,j,c,n,l,q⟩ => ?_);subst i;obtain rfl:u=Bo a:=g;exact xD d j c n l fun y z m p=>⟨v,H1,m,p,q⟩
theorem bb(b:PE X o ta)(d:PE X value tv)(g:swapsWith value (some (.Attribute o f pos')) pos.line X.env=pure false):PS X (.Assign [.Attribute o f pos'] value pos) (ajM X.K ta tv f):=by
 intro pins s σ H D I h;refine plainObj_wpAny_Assign_Attribute (thn (d pins s σ H _ I h) fun u i ⟨y,H1,j,m,q⟩=>thn (b pins i σ H1 _ j q) fun p E ⟨x,G,r,v,a,C,dx,J,w,z,c,n,l,A⟩ => ?_) g;subst w;obtain rfl:p=Bo a:=v;exact xM r z c n l m fun M B=>⟨σ,_,B,A⟩
end
structure fD(k:Nat)(A:B7):Prop where
 hd:A.handled=none
 dp:A.depth+3*k+5<recursionLimit
 un:A.units+16*k+200<cLine
theorem fD.mono{j k:Nat}{A:B7}(r:fD k A)(h:j<=k):fD j A:=⟨r.hd,by have:=r.dp;omega,by have:=r.un;omega⟩
theorem fD.deeper{k:Nat}{A:B7}(r:fD (k+1) A)(a:Ib):fD k (A.deeper a) :=
 ⟨r.hd,by have:=r.dp;show A.depth+1+3*k+5<_;omega,by have:=r.un;show A.units+3+16*k+200<_;omega⟩
theorem w4{A:B7}{C:Ag}{us:List Ai}{a:List (AW×Ai)}:(A.under (.builtin "type.__call__" ⟨.ref C::us,a⟩)).depth=A.depth+1:=by
 first|rfl|simp[IP,Code.weight,Code.isCreation,Code.isGuard,Code.isCaller,K8,IQ,guardIds]
theorem xP{A:B7}{C:Ag}{us:List Ai}{a:List (AW×Ai)}:(A.under (.builtin "type.__call__" ⟨.ref C::us,a⟩)).units=A.units+1:=by
 first|rfl|simp[IP,Code.cUnits,K8,IQ]
theorem fD.make{k:Nat}{A:B7}(r:fD (k+1) A)(C:Ag)(us:List Ai)(a:List (AW×Ai)):fD k (A.under (.builtin "type.__call__" ⟨.ref C::us,a⟩)) :=
 ⟨r.hd,by have:=r.dp;rw[w4];omega,by have:=r.un;rw[xP];omega⟩
theorem fD.depth{k:Nat}{A:B7}(r:fD k A):A.depth<recursionLimit:=by have:=r.dp;omega
theorem fD.units{k:Nat}{A:B7}(r:fD k A):A.units+64<cLine:=by have:=r.un;omega
theorem fD.af5{k:Nat}{A:B7}(r:fD k A):A.units<cLine:=by have:=r.un;omega
def xX:TA:=fun _ H Q=>Q [] H
def ky(a:TE)(b:TA):TA:=fun σ H Q=>a σ H fun x H1=>b σ H1 fun xs c=>Q (x::xs) c
section
variable{X:Cx}{e:B9}{es:List B9}{te:TE}{t:TA}{pos:Pos}
theorem ah:PA X [] xX:=fun _ _ _ _ H Q I h=>G4 ⟨[],H,I,.nil,h⟩
theorem ab(a:PE X e te)(b:PA X es t)(c:starEach (e::es) X.env=(false,eval e X.env)::starEach es X.env:=by rfl):PA X (e::es) (ky te t):=by
 intro pos pins s σ H Q I h;rw[c];show wpAny _ _ (spliced ((false,eval e X.env)::backTo pos (starEach es X.env))) _ _ s;refine Gm (thn (a pins s σ H _ I h) fun u d ⟨x,H1,f,g,i⟩ => ?_);exact thn (b pos pins d σ H1 _ f i) fun us o ⟨xs,j,l,m,n⟩=>⟨x::xs,j,l,.cons g m,n⟩
def ajt(t:TA):TE:=fun σ H Q=>t σ H fun xs H1=>xs.length<=sizeLine/\∀p,H1 p=none->Q (.ref p) (upd H1 p (.tup xs))
def ajD(t:TA):TE:=fun σ H Q=>t σ H fun xs H1=>xs.length<=sizeLine/\∀p,H1 p=none->Q (.ref p) (upd H1 p (.lst xs))
theorem df{x1}(h:PA X es t):PE X (.Tuple es x1 pos) (ajt t):=by
 intro pins s σ H Q I d;refine wpAny_Tuple_spliced (thn (h pos pins s σ H _ I d) fun us a ⟨xs,H1,c,r,z,q⟩=>⟨by rw[<- r.length];exact z,?_⟩);have hf:H1 a.heap.objs.size=none:=c.hok.fresh (Ak _);refine⟨.ref a.heap.objs.size,upd H1 a.heap.objs.size (.tup xs),c.laid (t':=a.toks) (fun b u e=>Ap _ e) (Ak _) ?_,rfl,q _ hf⟩;exact⟨z,us,r,⟨_,AH _ rfl,rfl,_,rfl⟩⟩
theorem aP(h:PA X es t):PE X (.List es pos) (ajD t):=by
 intro pins s σ H Q I d;refine wpAny_List_spliced (thn (h pos pins s σ H _ I d) fun us a ⟨xs,H1,c,r,z,q⟩=>⟨by rw[<- r.length];exact z,?_⟩);have hf:H1 a.heap.objs.size=none:=c.hok.fresh (Ak _);refine⟨.ref a.heap.objs.size,upd H1 a.heap.objs.size (.lst xs),c.laid (t':=a.toks) (fun b u e=>Ap _ e) (Ak _) ?_,rfl,q _ hf⟩;exact⟨z,us,0,r,AH _ rfl⟩
end
abbrev Sp:=List V->Hp->VK->XK->Prop
abbrev CXT:=List Ib->Hp->Aq->XK->Ai->Aq->Prop
structure aff(P:AI)(w:AZ)(K:Lf)(mg:Lg)(base:B1)(A:B7)(outer:List Ib)(s:Aq)(H:Hp):Prop where
 frames:A.frames=some outer
 mod:Mod K mg base
 bs:∀b o,base.get? b=some o->s.heap.get? b=some o/\H b=none
 bsz:base.objs.size<=s.heap.objs.size
 xW:s.heap.FunFrames base outer
 frf:∀b∈frs outer,H b=none
 hok:HOk P w H s.heap
 bare:HV s.gens
def CE(a:List Ib)(P:AI)(w:AZ)(H:Hp)(s:Aq)(Q:VK)(u:Ai)(b:Aq):Prop :=
 ∃v c,b.os=s.os/\HV b.gens/\Un (frs a) [] H c s.heap b.heap/\HOk P w c b.heap/\RelV v u/\Q v c
def CR(c:CXT)(a:List Ib)(P:AI)(w:AZ)(H:Hp)(s:Aq)(Q:VK)(E:XK)(r:JH)(b:Aq):Prop :=
 match r with
 | .ok (.ret u)=>CE a P w H s Q u b
 | .ok _=>False
 | .error e=>c a H s E e b
structure n8(P:AI)(w:AZ)(K:Lf)(mg:Lg)(base:B1)(CX:CXT)(k:Nat)(f:Ag)(fd:DE)(ps:List AW)(sp:Sp):Prop where
 len:∀vs H Q E,sp vs H Q E->vs.length=ps.length
 run:∀(A:B7)(outer:List Ib)(s:Aq)(H:Hp)(args:Args)(us:List Ai)(vs:List V)(Q:VK)(E:XK),fD k A->aff P w K mg base A outer s H->JF s fd args (ps.zip us)->Vals vs us->sp vs H Q E ->
  codeAny (model P w) A (.call (.ref f) args) (CR CX outer P w H s Q E) s
theorem n8.mono{P:AI}{w:AZ}{K:Lf}{mg:Lg}{base:B1}{c:CXT}{j k:Nat}{f:Ag}{d:DE}{ps:List AW}{sp:Sp}(F:n8 P w K mg base c j f d ps sp)(h:j<=k):
  n8 P w K mg base c k f d ps sp:=⟨F.len,fun A a s H b us vs Q E e=>F.run A a s H b us vs Q E (e.mono h)⟩
theorem aff.make{P:AI}{w:AZ}{K:Lf}{mg:Lg}{base:B1}{A:B7}{a:List Ib}{s:Aq}{H:Hp}(e:aff P w K mg base A a s H)(C:Ag)(us:List Ai)(b:List (AW×Ai)):
  aff P w K mg base (A.under (.builtin "type.__call__" ⟨.ref C::us,b⟩)) a s H:=⟨by first|exact e.frames|(simpa[IP,Code.envs,IQ,pushEnvs] using e.frames),e.mod,e.bs,e.bsz,e.xW,e.frf,e.hok,e.bare⟩
section
variable{X:Cx}{pins:List (Ag×D5)}{σ:St}{H:Hp}{s s':Aq}
theorem Inv.ajp(I:Inv X pins σ H s):aff X.prog X.w X.K X.mg X.base X.A X.stack s H :=
 ⟨I.ok.frames,I.ok.mod,I.bs,Br I.ok.bsz I.sz,I.stack,I.sY,I.hok,I.bare⟩
theorem Inv.after{Q:VK}{u:Ai}(I:Inv X pins σ H s)(h:CE X.stack X.prog X.w H s Q u s'):EP X pins σ Q u s':=by
 obtain⟨v,f,i,a,j,c,r,q⟩:=h;obtain⟨hh,g,d,t,e⟩:=s';obtain rfl:e=s.os:=i;exact⟨v,f,I.call (h':=hh) (g':=g) (d':=d) (t':=t) (ch := []) j c a (fun b z=>absurd z (by simp)),r,q⟩
end
def yh(sp:Sp)(a:List V)(E:XK)(t:TA):TE:=fun σ H Q=>t σ H fun vs H1=>sp (vs++a) H1 Q E
def ab5(C:Ag)(m:AW)(sp:Sp)(b:List V)(E:XK)(d:TE)(t:TA):TE:=fun σ H Q=>d σ H fun x H1=>∃a dx c,x=.ref a/\H1 a=some (.ins C dx c)/\c.lookup m=none /\
 t σ H1 fun vs e=>sp (x::(vs++b)) e Q E
def abx(C:Ag)(sp:Sp)(a:List V)(E:XK)(t:TA):TE:=fun σ H Q=>t σ H fun vs H1=>∀x dx,H1 x=none->H1 dx=none->dx≠x ->
 sp (.ref x::(vs++a)) (upd (upd H1 dx (.own x)) x (.ins C dx [])) (fun v b=>v=.non/\Q (.ref x) b) E
def Binds(K:Lf)(b:DE)(ps:List AW)(a:List Ai):Prop :=
 ∀(s:Aq)(us:List Ai),K.In s.heap->(us++a).length=ps.length->JF s b ⟨us,[]⟩ (ps.zip (us++a))
theorem Binds.all{K:Lf}{a:DE}{ps:List AW}(h:∀us:List Ai,us.length=ps.length->bindArgs a ⟨us,[]⟩=pure (ps.zip us)):Binds K a ps []:=fun s us _ b=>by
 rw[CB] at b ⊢;exact .of_eq (h us b)
def Passes(b:CXT)(X:Cx)(E:XK):Prop:=∀(pins:List (Ag×D5))(σ:St)(H:Hp)(s:Aq)(e:Ai)(a:Aq),Inv X pins σ H s->b X.stack H s E e a->X.xe e a
section
variable{X:Cx}{CX:CXT}{k:Nat}{f C:Ag}{fd:DE}{ps:List AW}{sp:Sp}{dvs:List V}{ds:List Ai}{E:XK}{x m:AW}{p pos apos:Pos}{e o:B9}{es:List B9}{ta:TE}{t:TA}
theorem vE{pins:List (Ag×D5)}{σ:St}{H:Hp}{s:Aq}{Q:VK}{us:List Ai}{vs:List V}(F:n8 X.prog X.w X.K X.mg X.base CX k f fd ps sp)(c:fD k X.A)(d:Binds X.K fd ps ds)(g:Vals dvs ds)(i:Passes CX X E)(I:Inv X pins σ H s)(r:Vals vs us)(h:sp (vs++dvs) H Q E):wpAny (model X.prog X.w) X.A (call (.ref f) us) (EP X pins σ Q) X.xe s:=by
 have b:Vals (vs++dvs) (us++ds):=r.append g;have j:(us++ds).length=ps.length:=by rw[<- b.length];exact F.len _ _ _ _ h
 refine Iu (EU (F.run X.A X.stack s H ⟨us,[]⟩ (us++ds) (vs++dvs) Q E c I.ajp (d s us I.kIn j) b h) fun r l a => ?_);cases r with
 | error e=>exact i pins σ H s e l I a
 | ok fl =>
  cases fl with
  | ret u=>exact I.after a
  | next=>exact Ck a
  | brk=>exact Ck a
  | cont=>exact Ck a
theorem aeh(F:n8 X.prog X.w X.K X.mg X.base CX k f fd ps sp)(d:fD k X.A)(g:Gl X x)(i:X.mg x=some (.ref f))(j:Cb X.K (.ref f)=true)(l:Binds X.K fd ps ds)(n:Vals dvs ds)(u:Passes CX X E)(v:PA X (e::es) t)(a:(x==("__debug__" : AW))=false:=by decide)(he:starEach (e::es) X.env=(false,eval e X.env)::starEach es X.env:=by rfl)(b:(backTo pos (starEach es X.env)).any (·.1)=false:=by rfl):
  PE X (.Call (.Name x p) (e::es) [] pos) (yh sp dvs E t):=by
 intro pins s σ H Q I h;refine Cs (tD I g i ?_ a);refine EL (h₀:=X.base) I.ok.mod.kin j (thn (v pos pins s σ H _ I h) fun us y ⟨vs,H1,c,r,q⟩=>⟨c.kIn,?_⟩) he b;exact vE F d l n u c r q
theorem adS{pl:K2 Bool}(he:PE X o ta)(c:Cls X.K C)(g:Meth X.K C m f)(F:n8 X.prog X.w X.K X.mg X.base CX k f fd ps sp)(v:fD k X.A)(y:Binds X.K fd ps ds)(z:Vals dvs ds)(B:Passes CX X E)(G:PA X (e::es) t)(b:starEach (e::es) X.env=(false,eval e X.env)::starEach es X.env:=by rfl)(d:(backTo pos (starEach es X.env)).any (·.1)=false:=by rfl)(J:eval (.Call (.Attribute o m apos) (e::es) [] pos) X.env=(do
   let i <- eval o X.env
   standAt apos.atName
   let (f,first) <- holding [i] (getMethod i m pl)
   callWith pos f first (backTo pos (starEach (e::es) X.env)) (backToKw pos (keywordEach [] X.env))):=by rfl):
  PE X (.Call (.Attribute o m apos) (e::es) [] pos) (ab5 C m sp dvs E ta t):=by
 intro pins s σ H Q I h;refine Hw (pl:=pl) (thn (he pins s σ H _ I h) fun u M ⟨x,H1,j,O,a,dx,T,P,R,l,q⟩ => ?_) J;subst P;obtain rfl:u=Bo a:=O;refine oK j R c g l ?_;refine EL (first := [.ref a]) (h₀:=X.base) I.ok.mod.kin g.kp (thn (G pos pins M σ H1 _ j q) fun us W ⟨vs,Y,n,r,S⟩=>⟨n.kIn,?_⟩) b d;exact vE (us:=.ref a::us) (vs:=.ref a::vs) F v y z B n (.cons rfl r) S
theorem ab9{pl:K2 Bool}(he:PE X o ta)(c:Cls X.K C)(d:Meth X.K C m f)(F:n8 X.prog X.w X.K X.mg X.base CX k f fd ps sp)(i:fD k X.A)(j:Binds X.K fd ps ds)(n:Vals dvs ds)(r:Passes CX X E)(v:eval (.Call (.Attribute o m apos) [] [] pos) X.env=(do
   let g <- eval o X.env
   standAt apos.atName
   let (f,first) <- holding [g] (getMethod g m pl)
   callWith pos f first (backTo pos (starEach [] X.env)) (backToKw pos (keywordEach [] X.env))):=by rfl):
  PE X (.Call (.Attribute o m apos) [] [] pos) (ab5 C m sp dvs E ta xX):=by
 intro pins s σ H Q I h;refine Hw (pl:=pl) (thn (he pins s σ H _ I h) fun u G ⟨x,H1,b,y,a,dx,J,z,B,l,q⟩ => ?_) v;subst z;obtain rfl:u=Bo a:=y;refine oK b B c d l ?_;exact PySem.W.callWith_K0 (first := [.ref a]) b.kIn d.kp (vE (us := [.ref a]) (vs := [.ref a]) F i j n r b (.cons rfl .nil) q)
structure Mk(K:Lf)(C f:Ag):Prop where
 makes:Hr K C=true
 init:BS K (.ref C) "__init__" = some (some (.ref f))
 fn:FZ K (.ref f)=true
 kp:Cb K (.ref C)=true
theorem abz{pins:List (Ag×D5)}{σ:St}{H:Hp}{s:Aq}{Q:VK}{us:List Ai}{vs:List V}(M:Mk X.K C f)(F:n8 X.prog X.w X.K X.mg X.base CX k f fd ps sp)(g:fD (k+1) X.A)(i:Binds X.K fd ps ds)(j:Vals dvs ds)(l:Passes CX X E)(I:Inv X pins σ H s)(r:Vals vs us)(h:∀x dx,H x=none->H dx=none->dx≠x->sp (.ref x::(vs++dvs)) (upd (upd H dx (.own x)) x (.ins C dx [])) (fun v n=>v=.non/\Q (.ref x) n) E):
  wpAny (model X.prog X.w) X.A (call (.ref C) us) (EP X pins σ Q) X.xe s:=by
 have c:=h (s.heap.objs.size+1) s.heap.objs.size (I.hok.fresh (Nat.le_succ _)) (I.hok.fresh (Ak _)) (Bj (GS _));have b:=Inv.made (C:=C) I;have d:Vals (V.ref (s.heap.objs.size+1)::(vs++dvs)) (Bo (s.heap.objs.size+1)::(us++ds)):=.cons rfl (r.append j);have q:(Bo (s.heap.objs.size+1)::us++ds).length=ps.length:=by
  have e:=d.length;rw[F.len _ _ _ _ c] at e;exact e.symm
 refine Iu (acz (f:=f) I.kIn M.makes M.init (BL.mp M.fn) (EU (F.run _ X.stack _ _ ⟨Bo (s.heap.objs.size+1)::us,[]⟩ (Bo (s.heap.objs.size+1)::(us++ds)) _ _ E (g.make C us [])
  (b.ajp.make C us []) (i _ (Bo (s.heap.objs.size+1)::us) b.kIn q) d c) fun r y a => ?_))
 cases r with
 | error e=>exact l pins σ _ _ e y b a
 | ok fl =>
  cases fl with
  | ret u =>
   obtain⟨v,z,B,G,J,O⟩:=b.after a;subst J;exact⟨G,⟨V.ref (s.heap.objs.size+1),z,B,rfl,O⟩⟩
  | next=>exact Ck a
  | brk=>exact Ck a
  | cont=>exact Ck a
theorem zS(M:Mk X.K C f)(F:n8 X.prog X.w X.K X.mg X.base CX k f fd ps sp)(d:fD (k+1) X.A)(g:Gl X x)(i:X.mg x=some (.ref C))(j:Binds X.K fd ps ds)(l:Vals dvs ds)(n:Passes CX X E)(u:PA X (e::es) t)(a:(x==("__debug__" : AW))=false:=by decide)(he:starEach (e::es) X.env=(false,eval e X.env)::starEach es X.env:=by rfl)(b:(backTo pos (starEach es X.env)).any (·.1)=false:=by rfl):
  PE X (.Call (.Name x p) (e::es) [] pos) (abx C sp dvs E t):=by
 intro pins s σ H Q I h;refine Cs (tD I g i ?_ a);refine EL (h₀:=X.base) I.ok.mod.kin M.kp (thn (u pos pins s σ H _ I h) fun us v ⟨vs,H1,c,r,q⟩=>⟨c.kIn,?_⟩) he b;exact abz M F d j l n c r q
end
structure bD(N P:List AW)(sc:Eg):Prop where
 kind:sc.kind=.function
 co:sc.isCoroutine=false
 gen:sc.isGenerator=false
 nd:N.Nodup
 pre:N.take P.length=P
 par:∀x∈P,sc.names.lookup x=some .local\/sc.names.lookup x=some .cell
 nofree:∀y∈sc.names,y.2≠.free
theorem rE{b:AW->Option Dy}{x:AW}:∀{a:List (AW×Ai)}{m:AW->Option Ai},(∀v,(x,v) ∉ a)->bindL b a m x=m x
 | [],_,_=>rfl
 | (n,v)::r,m,h=>by
  unfold bindL;rw[rE fun w c=>h w (Ac _ c)]
  split
  ·have:x≠n:=by rintro rfl;exact h v Ad
   simp[this]
  ·rfl
theorem qV{b:AW->Option Dy}{x:AW}:∀{a:List (AW×Ai)}{m:AW->Option Ai},(∀v,(x,v) ∉ a)->bindC b a m x=m x
 | [],_,_=>rfl
 | (n,v)::r,m,h=>by
  unfold bindC;rw[qV fun w c=>h w (Ac _ c)]
  split
  ·rfl
  ·have:x≠n:=by rintro rfl;exact h v Ad
   simp[this]
theorem qW{a:AW->Option Dy}{x:AW}{v:Ai}:∀{P:List AW}{vs:List Ai}{i:Nat}{m:AW->Option Ai},P.Nodup->P[i]? = some x->vs[i]? = some v->a x=some .local ->
  bindL a (P.zip vs) m x=some v
 | [],_,_,_,_,h,_,_=>by simp at h
 | _::_,[],_,_,_,_,h,_=>by simp at h
 | p::P,w::vs,0,m,nd,h1,h2,hk=>by
  simp at h1 h2;subst h1;subst h2;show bindL a ((p,w)::P.zip vs) m p=_;unfold bindL;rw[rE fun v b=>(Bx.mp nd).1 (DZ b).1,As hk];simp
 | p::P,w::vs,i+1,m,nd,h1,h2,hk=>by
  show bindL a ((p,w)::P.zip vs) m x=_;unfold bindL;exact qW (i:=i) (Bx.mp nd).2 (by simpa using h1) (by simpa using h2) hk
theorem rY{a:AW->Option Dy}{x:AW}{v:Ai}:∀{P:List AW}{vs:List Ai}{i:Nat}{m:AW->Option Ai},P.Nodup->P[i]? = some x->vs[i]? = some v->a x≠some .local ->
  bindC a (P.zip vs) m x=some v
 | [],_,_,_,_,h,_,_=>by simp at h
 | _::_,[],_,_,_,_,h,_=>by simp at h
 | p::P,w::vs,0,m,nd,h1,h2,hk=>by
  simp at h1 h2;subst h1;subst h2;show bindC a ((p,w)::P.zip vs) m p=_;unfold bindC;rw[qV fun v b=>(Bx.mp nd).1 (DZ b).1,Ar hk];simp
 | p::P,w::vs,i+1,m,nd,h1,h2,hk=>by
  show bindC a ((p,w)::P.zip vs) m x=_;unfold bindC;exact rY (i:=i) (Bx.mp nd).2 (by simpa using h1) (by simpa using h2) hk
noncomputable def start(N:List AW)(vs:List V):St:=vs.map some++EV (N.length-vs.length) none
noncomputable def xB(g:CXT)(P:AI)(w:AZ)(K:Lf)(mg:Lg)(base:B1)(N:List AW)(b:AW)(a:Eg)(f:Ag)(d:Ai)(A:B7)(outer:List Ib)(s:Aq)(H:Hp)(E:XK):Cx where
 prog:=P
 w:=w
 K:=K
 mg:=mg
 base:=base
 A:=A.deeper (envOfC b a s.heap.objs.size f d)
 N:=N
 s_0:=s
 H_0:=H
 env:=envOfC b a s.heap.objs.size f d
 outer:=outer
 stack:=envOfC b a s.heap.objs.size f d::outer
 ex := []
 calm:=true
 fn:=fun _=>true
 pn := []
 xe:=fun e i=>wpAny (model P w) (A.deeper (envOfC b a s.heap.objs.size f d)) (leaving (envOfC b a s.heap.objs.size f d) e) (fun _ c=>g outer H s E e c) (fun j c=>g outer H s E j c) i
theorem vI{a:Eg}{n:Nat}{x:AW}(h:a.names.lookup x=some .cell):∃c,(cellsFrom n a.names []).lookup x=some c:=by
 have q:=Hg a.names n [] (.inl h);exact EB.mp q
theorem aaC{O:CXT}{P:AI}{w:AZ}{K:Lf}{mg:Lg}{base:B1}{N ps:List AW}{j:AW}{d:Eg}{f:Ag}{I:Ai}{A:B7}{g:List Ib}{s R:Aq}{H:Hp}{E:XK}{us:List Ai}{vs:List V}(S:bD N ps d)(X:A.handled=none)(m:aff P w K mg base A g s H)(hl:vs.length=ps.length)(r:Vals vs us)(x:InCallC s s.heap.objs.size (bindL (envOfC j d s.heap.objs.size f I).kindOf (ps.zip us) fun _=>none) (cellsFrom (s.heap.objs.size+1) d.names []) (bindC (envOfC j d s.heap.objs.size f I).kindOf (ps.zip us) fun _=>none) R):
  Inv (xB O P w K mg base N j d f I A g s H E) [] (start N vs) H R:=by
 have Y:ps.length<=N.length:=by have:=B2 F7 S.pre;rw[AO] at this;omega
 obtain⟨J,tk,rfl,T⟩:=x.done;have o:∀b:Ag,b ∉ (xB O P w K mg base N j d f I A g s H E).ex:=fun b z=>absurd (show b∈([]:List Ag) from z) (by simp);refine⟨⟨m.mod,S.kind,rfl,rfl,Ak _,fun y z c J l => ?_,fun y B => ?_,fun y c _ h => ?_,fun _=>X,HE m.frames,.inr ⟨rfl,rfl⟩,fun b z=>absurd z (o b),m.bs,m.bsz,fun b _ _=>o b,fun b z=>absurd z (o b),m.xW,m.frf⟩,
  rfl,m.bare,Un.kept T,⟨_,x.toInCall.ns,fun i y v J l h3 => ?_⟩,fun y c h=>⟨_,x.cell y c h⟩,m.hok.fresh (Ak _),fun y c h => ?_,fun p C=>absurd (show p∈([]:List (Ag×D5)) from C) (by simp),m.hok.kept T,?_⟩
 ·exact name_of_addr x.apart (Bb J) (Bb l)
 ·have B:d.names.lookup y=some .cell\/d.names.lookup y=some .free:=B
  rcases B with B|B
  ·exact vI B
  ·exact absurd rfl (S.nofree _ (Bb B))
 ·exact BQ (x.above y c (Bb h))
 ·have M:i<vs.length:=by
   unfold start at l
   by_cases M:i<vs.length
   ·exact M
   ·rw[Aw (by simpa using M)] at l
    rw[DN] at l
    split at l <;> cases l
  have Z:vs[i]? = some v:=by
   unfold start at l;rw[A1 (by simpa using M),Av] at l;cases e:vs[i]? with
   | none=>rw[e] at l;cases l
   | some a=>rw[e] at l;cases l;rfl
  obtain⟨u,W,rv⟩:=r.get Z;have C:ps[i]? = some y:=by
   rw[<- S.pre,BC (by omega)];exact J
  have G:ps.Nodup:=by rw[<- S.pre];exact S.nd.sublist (List.take_sublist _ _)
  refine⟨u,rv,?_⟩;rcases S.par y (AE C) with k|k
  ·exact .inl ⟨k,qW G C W k⟩
  ·obtain⟨c,e⟩:=vI (n:=s.heap.objs.size+1) k
   refine .inr ⟨.inl k,c,e,?_⟩;have q:=x.cell y c e;rw[rY G C W (by show d.names.lookup y≠_;rw[k];decide)] at q;exact q
 ·exact m.hok.fresh (BQ (x.above y c (Bb h)))
 ·unfold start
  show _=N.length;rw[Al,Ab,Fj];omega
theorem agh{O:CXT}{P:AI}{w:AZ}{K:Lf}{mg:Lg}{base:B1}{k:Nat}{f:Ag}{name d:AW}{i:Jk}{j:List F6}{a:Eg}{dV kV z pm g ct oc:Ai}{an od:Option Ag}{T:Array (Option Ai)}{N ps:List AW}{sp:Sp}(lk:K.lookup f=some ⟨oc,od,.func (Cq name d i j a dV kV z pm an g ct),T⟩)(X:DO K g d=true)(S:bD N ps a)(B:∀vs H Q E,sp vs H Q E->vs.length=ps.length)(eZ:∀(A:B7) (c:List Ib) (s:Aq) (H:Hp) (vs:List V) (Q:VK) (E:XK),fD k (A.deeper (envOfC d a s.heap.objs.size f g))->sp vs H Q E ->
   ∃t,PSs (xB O P w K mg base N d a f g A c s H E) j t/\t { nx:=fun _ l=>Q .non l,rt:=Q } (start N vs) H):
  n8 P w K mg base O (k+1) f (Cq name d i j a dV kV z pm an g ct) ps sp:=by
 refine⟨B,fun A c s H a0 us vs Q E Y C hb r G => ?_⟩;have hl:=B _ _ _ _ G;have KX:K.In s.heap:=C.mod.kin.keeps fun b o e=>(C.bs b o e).1;have Z:s.heap.NoLimit:=C.mod.nolimit.keeps fun b o e=>(C.bs b o e).1;have m:∀y∈ps.zip us,a.names.lookup y.1=some .local\/(a.names.lookup y.1=some .cell/\((cellsFrom (s.heap.objs.size+1) a.names []).lookup y.1).isSome=true):=fun⟨n,v⟩ hy=>by
  rcases S.par n (DZ hy).1 with q|q
  ·exact .inl q
  ·exact .inr ⟨q,Hg _ _ _ (.inl q)⟩
 refine codeAny_call_function Y.depth (KX _ _ lk) rfl S.co S.gen rfl (PySem.W.codeRec_of KX X) (hb _ _ _ _ ?_);refine wpAny_newFunctionEnv_cells S.kind m fun a3 he s1 x => ?_;subst he;refine⟨Z.keeps x.toInCall.keep,codeAny_func ?_⟩;obtain⟨t,ht,hq⟩:=eZ A c s H vs Q E (Y.deeper _) G;have I:Inv (xB O P w K mg base N d a f g A c s H E) [] (start N vs) H s1:=aaC S Y.hd C hl r x;refine C2 (ht [] s1 (start N vs) H _ I hq) (fun fl s' p => ?_) fun e s' p=>p;have M:∀{R:St}{l:Hp}{v:V}{u:Ai},Inv (xB O P w K mg base N d a f g A c s H E) [] R l s'->RelV v u->Q v l->CE c P w H s Q u s' :=
  fun{R l v u} J rv q=>⟨v,l,J.os,J.bare,J.base,J.hok,rv,q⟩
 cases fl with
 | ret u =>
  obtain⟨v,R,l,J,rv,q⟩:=p;exact M J rv q
 | next =>
  obtain⟨R,l,J,q⟩:=p;exact M (v:=V.non) (u:=DJ) J rfl q
 | brk =>
  obtain⟨_,_,_,q⟩:=p;exact Ck q
 | cont =>
  obtain⟨_,_,_,q⟩:=p;exact Ck q
section
variable{X:Cx}{x:AW}{p pos:Pos}{e:B9}{es:List B9}{t:TA}{id T:String}{r:List V->Hp->VK->Prop}
def tCB(r:List V->Hp->VK->Prop)(t:TA):TE:=fun σ H Q=>t σ H fun vs H1=>r vs H1 Q
theorem dJ(c:nO X (.builtin id) r)(d:Gl X x)(f:X.mg x=none)(g:bootBuiltins x=some (.builtin id))(i:PA X (e::es) t)(j:x ≠ "__name__" := by decide)(a:(x==("__debug__" : AW))=false:=by decide)(he:starEach (e::es) X.env=(false,eval e X.env)::starEach es X.env:=by rfl)(b:(backTo pos (starEach es X.env)).any (·.1)=false:=by rfl):PE X (.Call (.Name x p) (e::es) [] pos) (tCB r t):=by
 intro pins s σ H Q I h;refine Cs (gw I d f g ?_ j a);exact PyProof.Rows.callWith_builtin1 (thn (i pos pins s σ H _ I h) fun us l ⟨vs,H1,m,n,o⟩=>c pins l σ H1 vs us Q m n o) he b
theorem nN(c:nO X (.type T) r)(d:Gl X x)(f:X.mg x=none)(g:bootBuiltins x=some (.type T))(i:PA X (e::es) t)(j:x ≠ "__name__" := by decide)(a:(x==("__debug__" : AW))=false:=by decide)(he:starEach (e::es) X.env=(false,eval e X.env)::starEach es X.env:=by rfl)(b:(backTo pos (starEach es X.env)).any (·.1)=false:=by rfl):PE X (.Call (.Name x p) (e::es) [] pos) (tCB r t):=by
 intro pins s σ H Q I h;refine Cs (gw I d f g ?_ j a);exact BA (thn (i pos pins s σ H _ I h) fun us l ⟨vs,H1,m,n,o⟩=>c pins l σ H1 vs us Q m n o) he b
end
end L2
namespace HT
open PySem PyProof.Rows
section
variable{prog:AI}{w:AZ}{A:B7}{E:Ai->Aq->Prop}{s:Aq}
noncomputable def sIx(n d:Nat):Option Int->Nat
 | none=>d
 | some v=>if v<0 then (v+(n:Int)).toNat else min v.toNat n
theorem abF(n d:Nat):sIx n d none=d:=rfl
theorem m9(n d k:Nat):sIx n d (some (k:Int))=min k n:=by
 show(if (k:Int)<0 then ((k:Int)+(n:Int)).toNat else min (k:Int).toNat n)=min k n;rw[Ar (by omega),Ei]
end
end HT
namespace L2
open PySem PySem.Spec PyProof.Rows
abbrev TO:=St->Hp->(Option Int->Hp->Prop)->Prop
def PO(X:Cx)(e:Option B9)(t:TO):Prop :=
 ∀(pins:List (Ag×D5))(s:Aq)(σ:St)(H:Hp)(Q:Option Int->Hp->Prop),Inv X pins σ H s->t σ H Q ->
  wpAny (model X.prog X.w) X.A (evalPart e X.env) (fun u b=>∃o a,Inv X pins σ a b/\KZ u o/\Q o a) X.xe s
def afb:TO:=fun _ H Q=>Q none H
def ah7(t:TE):TO:=fun σ H Q=>t σ H fun x H1=>∃i,x=.int i/\Q (some i) H1
section
variable{X:Cx}{e:B9}{te:TE}{lo hi:Option B9}{tl th:TO}{pos p2:Pos}
theorem pW:PO X none afb:=by
 intro pins s σ H Q I h;rw[Kf];exact A2 ⟨none,H,I,.none,h⟩
theorem gQ(h:PE X e te):PO X (some e) (ah7 te):=by
 intro pins s σ H Q I a;rw[evalPart_some];refine thn (h pins s σ H _ I a) fun u f ⟨x,H1,b,c,d⟩ => ?_;obtain⟨i,rfl,q⟩:=d;obtain⟨t,rfl⟩:=c;exact⟨some i,H1,b,.int i t,q⟩
def SlR(X:Cx)(r:V->Option Int->Option Int->Hp->VK->Prop):Prop :=
 ∀(pins:List (Ag×D5))(s:Aq)(σ:St)(H:Hp)(x:V)(v a b:Ai)(lo hi:Option Int)(sl:Ag)(Q:VK),Inv X pins σ H s->RelV x v->s.heap.IsSliceOf sl a b .none->KZ a lo->KZ b hi->r x lo hi H Q ->
  ∃T id,typeLookup (.type T) "__getitem__" = pure (some (.builtin id))/\s.TypeIs v T/\wpAny (model X.prog X.w) X.A (getItem v (.ref sl)) (EP X pins σ Q) X.xe s
def tSl(r:V->Option Int->Option Int->Hp->VK->Prop)(te:TE)(tl th:TO):TE:=fun σ H Q=>te σ H fun x H1=>tl σ H1 fun l a=>th σ a fun u b=>r x l u b Q
theorem iB{r:V->Option Int->Option Int->Hp->VK->Prop}(g:SlR X r)(he:PE X e te)(i:PO X lo tl)(j:PO X hi th):PE X (.Subscript e (.Slice lo hi none p2) pos) (tSl r te tl th):=by
 intro pins s σ H Q I h;refine Subscript_ (thn (he pins s σ H _ I h) fun v m ⟨x,H1,n,o,p⟩ => ?_);refine wpAny_Slice (thn (i pins m σ H1 _ n p) fun c y ⟨l,z,B,pl,C⟩=>thn (j pins y σ z _ B C) fun d a ⟨u,f,E,G,J⟩ => ?_);rw[Kf];refine A2 ?_;have M:Inv X pins σ f { a with heap:=a.heap.push { cls:=.type "slice",data:=.fields #[c,d,.none] } }:=E.kept (t':=a.toks) fun b ob q=>Ap _ q;obtain⟨T,id,O,P,R⟩:=g pins { a with heap:=a.heap.push { cls:=.type "slice",data:=.fields #[c,d,.none] } } σ f x v c d l u a.heap.objs.size Q M o (Heap.IsSliceOf.new ..) pl G J;show wpAny (model X.prog X.w) X.A (subscriptTail e (.Slice lo hi none p2) v (.ref a.heap.objs.size)) (EP X pins σ Q) X.xe { a with heap:=a.heap.push { cls:=.type "slice",data:=.fields #[c,d,.none] } };exact tail_any (ops := [.ref a.heap.objs.size,v]) P O R (by with_unfolding_all rfl)
noncomputable def lI(xs:List V)(lo hi:Option Int):List V:=(xs.drop (HT.sIx xs.length 0 lo)).take (HT.sIx xs.length xs.length hi-HT.sIx xs.length 0 lo)
theorem tU(xs:List V)(lo hi:Option Int):(lI xs lo hi).length<=xs.length:=by
 unfold lI;rw[AO,Cf];omega
end
noncomputable def ixN(n:Nat)(i:Int):Option Nat:=if 0<=i then (if i<n then some i.toNat else none) else if -(n:Int)<=i then some (i+n).toNat else none
noncomputable def atI{α:Type}(xs:List α)(i:Int):Option α:=(ixN xs.length i).bind fun j=>xs[j]?
theorem aem{n:Nat}{i:Int}{j:Nat}(h:ixN n i=some j):seqIndex? i n=some j/\j<n /\ -(n:Int)<=i/\i<n:=by
 unfold ixN at h
 by_cases h0:0<=i
 ·rw[As h0] at h
  by_cases h1:i<n
  ·rw[As h1] at h
   have e:i.toNat=j:=Ah h;exact⟨by rw[K9 h0 h1,e],by omega,by omega,h1⟩
  ·rw[Ar h1] at h;cases h
 ·rw[Ar h0] at h
  by_cases h1 : -(n:Int)<=i
  ·rw[As h1] at h
   have e:(i+n).toNat=j:=Ah h;exact⟨by rw[Kp (by omega) h1,e],by omega,h1,by omega⟩
  ·rw[Ar h1] at h;cases h
theorem yU{α:Type}{xs:List α}{i:Int}{v:α}(h:atI xs i=some v):∃j,seqIndex? i xs.length=some j/\xs[j]? = some v/\j<xs.length /\ -(xs.length:Int)<=i/\i<xs.length:=by
 unfold atI at h;cases e:ixN xs.length i with
 | none=>rw[e] at h;cases h
 | some j =>
  rw[e] at h;obtain⟨a,b,c,d⟩:=aem e;exact⟨j,a,h,b,c,d⟩
theorem aQ{α:Type}{xs:List α}{j:Nat}{v:α}(h:xs[j]? = some v):atI xs (j:Int)=some v:=by
 have a:j<xs.length:=(Aj.mp h).1;have e:ixN xs.length (j:Int)=some j:=by
  unfold ixN;rw[As (by omega),As (by omega)];simp
 unfold atI;rw[e];exact h
def tj(b:B9):Prop:=∀o i,subscripted b false o i=operate [o,i] (getItem o i)
def IxR(X:Cx)(r:R2):Prop :=
 ∀(b a:B9)(pins:List (Ag×D5))(s:Aq)(σ:St)(H:Hp)(x y:V)(v u:Ai)(Q:VK),Inv X pins σ H s->RelV x v->RelV y u->r x y H Q ->
  subscripted a false v u=operate [v,u] (getItem v u)->wpAny (model X.prog X.w) X.A (subscriptTail b a v u) (EP X pins σ Q) X.xe s
def MtR(X:Cx)(id:String)(r:V->List V->Hp->VK->Prop):Prop :=
 ∀(pins:List (Ag×D5))(s:Aq)(σ:St)(H:Hp)(x:V)(xs:List V)(v:Ai)(us:List Ai)(Q:VK),Inv X pins σ H s->RelV x v->Vals xs us->r x xs H Q ->
  wpAny (model X.prog X.w) X.A (call (.builtin id) (v::us)) (EP X pins σ Q) X.xe s
section
variable{X:Cx}{a b:B9}{ta tb:TE}{pos:Pos}
theorem uH{r:R2}(c:IxR X r)(d:PE X a ta)(e:PE X b tb)(f:tj b):PE X (.Subscript a b pos) (tOp r ta tb):=by
 intro pins s σ H Q I h;exact Subscript_ (ah6 d e I h fun v u g x y i j l m q=>c a b pins g σ i x y v u Q j l m q (f _ _))
inductive ai9(K:Lf)(x y:V)(H:Hp)(Q:VK):Prop
 | mk (p:Ag)(xs:List V)(i:Int)(v:V)(h1:x=.ref p)(h2:y=.int i)(h3:SqL K H p xs)(h4:atI xs i=some v)(q:Q v H)
def ae2(K:Lf):R2:=fun x y H Q=>ai9 K x y H Q
inductive ajm(K:Lf)(x y:V)(H:Hp)(Q:VK):Prop
 | mk (p:Ag)(xs:List V)(i:Int)(v:V)(h1:x=.ref p)(h2:y=.int i)(h3:SqT K H p xs)(h4:atI xs i=some v)(q:Q v H)
def ags(K:Lf):R2:=fun x y H Q=>ajm K x y H Q
theorem yG:IxR X (ae2 X.K):=by
 intro e f pins s σ H x y v u Q I A B h n;obtain⟨p,xs,i,z,rfl,rfl,C,he,q⟩:=h;cases A
 obtain⟨t,rfl⟩:=B;obtain⟨g,r,pl,hz⟩:=I.list C;obtain⟨j,d,E,P,G,J⟩:=yU he;obtain⟨w,o,l⟩:=r.get E;have M:=r.length;have R:=vf;have c:EP X pins σ Q w s:=⟨z,H,I,l,q⟩
 by_cases h0:0<=i
 ·have m:i.toNat=j:=by
   rw[K9 h0 J] at d;exact Ah d
  exact item_listR pl.isList h0 (by omega) (by rw[m];simpa using o) c n
 ·have m:(i+(g.toArray.size:Int)).toNat=j:=by
   rw[Kp (by omega) G] at d;rw[A9,<- M];exact Ah d
  exact Hh (x:=w) pl.isList.typeIs slot_list_getitem.lookup
   (wpAny_getItem_list_neg (Q:=fun r O=>r=w/\EP X pins σ Q r O) pl.isList (by omega) (by rw[A9] <;> omega) (by omega) (by rw[m];simpa using o) ⟨rfl,c⟩) n
theorem ac9:IxR X (ags X.K):=by
 intro c d pins s σ H x y v u Q I g l h m;obtain⟨p,xs,i,z,rfl,rfl,n,he,q⟩:=h;cases g
 obtain⟨t,rfl⟩:=l;obtain⟨o,r,pl,hz⟩:=I.tuple n;obtain⟨j,A,B,J,M,O⟩:=yU he;obtain⟨w,C,e⟩:=r.get B;have E:=r.length;have P:=vf;have f:EP X pins σ Q w s:=⟨z,H,I,e,q⟩;exact Hh (x:=w) pl.typeIs slot_tuple_getitem.lookup
  (getItem_tuple (j:=j) (Q:=fun r G=>r=w/\EP X pins σ Q r G) pl (by omega) (by omega) (by rw[A9,<- E];exact A) (by simpa using C) ⟨rfl,f⟩) m
theorem sk(lo c:Option Int)(n:Nat):(sliceBounds lo c none n).1=((HT.sIx n 0 lo:Nat):Int)/\(sliceBounds lo c none n).2.1=((HT.sIx n n c:Nat):Int)/\(sliceBounds lo c none n).2.2=1:=by
 refine⟨?_,?_,rfl⟩
 ·cases lo with
  | none=>simp[sliceBounds,HT.sIx]
  | some i =>
   simp only[sliceBounds,HT.sIx,Jl,show(1:Int)>0 by decide,G5]
   by_cases h:i<0
   ·simp only[h,G5] <;> omega
   ·simp only[h,Eo] <;> omega
 ·cases c with
  | none=>simp[sliceBounds,HT.sIx]
  | some i =>
   simp only[sliceBounds,HT.sIx,Jl,show(1:Int)>0 by decide,G5]
   by_cases h:i<0
   ·simp only[h,G5] <;> omega
   ·simp only[h,Eo] <;> omega
theorem pU(c:List Ai)(lo d:Option Int):slicePick c.toArray lo d none=((c.drop (HT.sIx c.length 0 lo)).take (HT.sIx c.length c.length d-HT.sIx c.length 0 lo)).toArray:=by
 obtain⟨e,f,g⟩:=sk lo d c.toArray.size;unfold slicePick;rw[e,f,g];simp only[sliceRange_one,pick_run,A9] <;> rfl
def ajF(K:Lf):V->Option Int->Option Int->Hp->VK->Prop:=fun x lo c H Q=>∃a xs,x=.ref a/\SqL K H a xs/\∀p,H p=none->Q (.ref p) (upd H p (.lst (lI xs lo c)))
theorem kG:SlR X (ajF X.K):=by
 intro pins s σ H x v m n lo d sl Q I f g pl i h;obtain⟨a,xs,rfl,j,q⟩:=h;cases f
 obtain⟨l,r,e,hz⟩:=I.list j;have c:=r.length;refine⟨"list",_,slot_list_getitem.lookup,e.isList.typeIs,?_⟩;refine wpAny_getItem_list_slice e.isList g pl i .none (by simp) ?_ (by rw[A9] <;> omega);rw[pU,<- c];refine⟨.ref s.heap.objs.size,_,I.laid (t':=s.toks) (o:=.lst (lI xs lo d)) (fun b ob q=>Ap _ q) (Ak _) ?_,rfl,q _ (I.hok.fresh (Ak _))⟩;exact⟨Br (tU xs lo d) hz,_,0,(r.drop (HT.sIx xs.length 0 lo)).take (HT.sIx xs.length xs.length d-HT.sIx xs.length 0 lo),AH _ rfl⟩
inductive aiy(K:Lf)(xs:List V)(H:Hp)(Q:VK):Prop
 | mk (p:Ag)(ys:List V)(h1:xs=[.ref p])(h2:SqL K H p ys\/SqT K H p ys)(q:Q (.int ys.length) H)
theorem sM:nO X (.builtin "len") (fun xs H Q=>aiy X.K xs H Q):=by
 intro pins s σ H xs us Q I r h;obtain⟨p,ys,rfl,d,q⟩:=h;obtain⟨u,rfl,g⟩:=vals1 r;cases g
 have i:=vf;rcases d with d|d
 ·obtain⟨e,f,pl,hz⟩:=I.list d
  have c:=f.length;exact Calls.call_len_list pl.isList (by simp only[A9] <;> omega) ⟨.int ys.length,H,I.tok _,⟨s.toks+1,by rw[A9,c]⟩,q⟩
 ·obtain⟨e,f,pl,hz⟩:=I.tuple d
  have c:=f.length;exact len_tuple pl (by simp only[A9] <;> omega) ⟨.int ys.length,H,I.tok _,⟨s.toks+1,by rw[A9,c]⟩,q⟩
theorem p5:nO X (.type "tuple") (fun xs H Q=>∃p ys,xs=[.ref p]/\((SqL X.K H p ys/\∀l,H l=none->Q (.ref l) (upd H l (.tup ys)))\/(SqT X.K H p ys/\Q (.ref p) H))):=by
 intro pins s σ H xs us Q I r h;obtain⟨p,ys,rfl,h⟩:=h;obtain⟨u,rfl,j⟩:=vals1 r;cases j
 rcases h with⟨d,q⟩|⟨d,q⟩
 ·obtain⟨c,f,pl,hz⟩:=I.list d
  have g:=f.length;refine call_tuple_list pl.isList (fun h' m => ?_) (by simp only[A9] <;> omega);have i:Inv X pins σ H { s with heap:=h' }:=I.kept (t':=s.toks) m;have n:Inv X pins σ (upd H h'.objs.size (.tup ys)) { s with heap:=h'.push { cls:=.type "tuple",data:=.seq c.toArray } } :=
   i.laid (t':=s.toks) (fun b o e=>Ap _ e) (Ak _) (show cf X.prog X.w _ _ _ (.tup ys) from⟨hz,c,f,IsTup.new _ _⟩)
  exact⟨.ref h'.objs.size,_,n,rfl,q _ (i.hok.fresh (Ak _))⟩
 ·obtain⟨c,f,pl,hz⟩:=I.tuple d
  exact call_tuple_same pl ⟨.ref p,H,I,rfl,q⟩
def tyV(K:Lf)(T:String)(x:V)(H:Hp):Prop:=match x with
 | .str _=>T = "str"
 | .int _=>T = "int"
 | .ref p=>(T = "list" /\ ∃xs,SqL K H p xs)\/(T = "tuple" /\ ∃o,K.lookup p=some o/\o.cls=.type "tuple" /\ o.dict=none) \/
   (T = "dict" /\ ((∃c,H p=some (.dK c))\/∃c,H p=some (.dT c)))\/(T = "set" /\ ∃S n,H p=some (.set S n))
 | _=>False
theorem acO{pins:List (Ag×D5)}{σ:St}{H:Hp}{s:Aq}{T:String}{x:V}{v:Ai}(I:Inv X pins σ H s)(r:RelV x v)(g:tyV X.K T x H):
  s.TypeIs v T/\∀a,v=.ref a->∃ob,s.heap.get? a=some ob/\ob.dict=none:=by
 cases x with
 | str z =>
  obtain⟨t,rfl⟩:=r;cases(show T = "str" from g)
  exact⟨typeIs_str s z t,fun _ e=>nomatch e⟩
 | int i =>
  obtain⟨t,rfl⟩:=r;cases(show T = "int" from g)
  exact⟨JI s i t,fun _ e=>nomatch e⟩
 | ref p =>
  cases r
  rcases g with⟨rfl,xs,q⟩|⟨rfl,o,d,u,j⟩|⟨rfl,d⟩|⟨rfl,S,n,d⟩
  ·obtain⟨w,_,pl,_⟩:=I.list q
   refine⟨pl.isList.typeIs,fun a e => ?_⟩;cases e
   obtain⟨o,n,e,c,j,_⟩:=pl;exact⟨o,e,j⟩
  ·refine⟨⟨o,I.kIn p o d,u⟩,fun a e => ?_⟩
   cases e
   exact⟨o,I.kIn _ o d,j⟩
  ·have z:∃o,s.heap.get? p=some o/\o.ExactDict:=by
    rcases d with⟨l,d⟩|⟨l,d⟩
    ·obtain⟨_,_,_,_,o,_,_,e,f,_⟩:=I.hok p _ d
     exact⟨o,e,f⟩
    ·obtain⟨_,_,_,_,o,_,_,e,f,_⟩:=I.hok p _ d
     exact⟨o,e,f⟩
   obtain⟨o,e,f⟩:=z;refine⟨⟨o,e,f.1⟩,fun a m => ?_⟩;cases m
   exact⟨o,e,f.2.1⟩
  ·obtain⟨o,_,_,_,e,f,_⟩:=I.hok p _ d
   refine⟨⟨o,e,f.1⟩,fun a m => ?_⟩;cases m
   exact⟨o,e,f.2.1⟩
 | _=>exact Ck g
def ajY(K:Lf)(T:String)(r:V->List V->Hp->VK->Prop)(c:TE):TE:=fun σ H Q=>c σ H fun x H1=>tyV K T x H1/\r x [] H1 Q
def tBM(K:Lf)(T:String)(r:V->List V->Hp->VK->Prop)(c:TE)(t:TA):TE:=fun σ H Q=>c σ H fun x H1=>tyV K T x H1/\t σ H1 fun xs d=>r x xs d Q
variable{o e:B9}{es:List B9}{to:TE}{t:TA}{name:AW}{apos cpos:Pos}{T id:String}{r:V->List V->Hp->VK->Prop}
theorem agS(i:KP T)(c:Slot T name id)(d:typeOf (.builtin id)=pure (.type "method_descriptor"))(j:MtR X id r)(l:PE X o to)(m:attributeBase o name X.env (eval o X.env)=eval o X.env:=by rfl)(n:(apos.endLine==cpos.line)=true:=by rfl):PE X (.Call (.Attribute o name apos) [] [] cpos) (ajY X.K T r to):=by
 intro pins s σ H Q I h;refine wpAny_Call_method0_late m n (thn (l pins s σ H _ I h) fun v p ⟨x,H1,f,g,q,u⟩ => ?_);obtain⟨w,y⟩:=acO f g q;exact⟨T,id,i,c,d,w,y,Hi rfl (PySem.evalArgs_none (j pins p σ H1 x [] v [] Q f g .nil u))⟩
theorem af7(m:KP T)(c:Slot T name id)(d:typeOf (.builtin id)=pure (.type "method_descriptor"))(n:MtR X id r)(p:PE X o to)(q:PA X (e::es) t)(u:attributeBase o name X.env (eval o X.env)=eval o X.env:=by rfl)(f:((backTo cpos (starEach (e::es) X.env)).all (fun x => !x.1)&&(backToKw cpos (keywordEach [] X.env)).all (fun x=>x.1.isSome)
   && decide ((e::es).length+([]:List HW).length+(if ([]:List HW).isEmpty then 0 else 1)<30))=true:=by rfl)(w:(apos.endLine==cpos.line)=true:=by rfl)(y:starEach (e::es) X.env=(false,eval e X.env)::starEach es X.env:=by rfl)(g:(backTo cpos (starEach es X.env)).any (·.1)=false:=by rfl):
  PE X (.Call (.Attribute o name apos) (e::es) [] cpos) (tBM X.K T r to t):=by
 intro pins s σ H Q I h;refine wpAny_Call_method_late u f w rfl (thn (p pins s σ H _ I h) fun v z ⟨x,H1,i,j,A,B⟩ => ?_);obtain⟨C,E⟩:=acO i j A;refine⟨T,id,m,c,d,C,E,?_⟩;have l:=q cpos pins z σ H1 _ i B;rw[y] at l ⊢;refine Hi (by show(false||(backTo cpos (starEach es X.env)).any (·.1))=false;rw[g] <;> rfl) (Calls.evalArgs_plain ?_);exact thn l fun us G ⟨vs,J,M,O,P⟩=>n pins G σ J x vs v us Q M j O P
end
def MtM(X:Cx)(id:String)(r:V->List V->Hp->VK->Prop):Prop :=
 ∀(pins:List (Ag×D5))(s:Aq)(σ:St)(H:Hp)(x:V)(xs:List V)(v:Ai)(us:List Ai)(Q:VK),Inv X pins σ H s->RelV x v->Vals xs us->r x xs H Q ->
  wpAny (model X.prog X.w) X.A (call (.builtin id) (v::us)) (EP X pins σ Q) X.xe s
theorem Vals.one:∀{x:V}{us:List Ai},Vals [x] us->∃u,us=[u]/\RelV x u
 | _,_,.cons r .nil=>⟨_,rfl,r⟩
theorem Vals.zero:∀{us:List Ai},Vals [] us->us=[]
 | _,.nil=>rfl
theorem Vals.dropLast{xs:List V}{us:List Ai}(h:Vals xs us):Vals xs.dropLast us.dropLast:=by
 induction h with
 | nil=>exact .nil
 | cons r t a =>
  cases t with
  | nil=>exact .nil
  | cons q t'=>exact .cons r a
theorem xJ{α:Type}(l:List α):l.eraseIdx (l.length-1)=l.dropLast:=by
 induction l with
 | nil=>rfl
 | cons a r c =>
  cases r with
  | nil=>rfl
  | cons b r =>
   have e:(a::b::r).length-1=((b::r).length-1)+1:=by
    have d:(a::b::r).length=r.length+2:=rfl;have f:(b::r).length=r.length+1:=rfl;omega
   rw[e,List.eraseIdx_cons_succ,c]
   all_goals rfl
section
variable{X:Cx}{pins:List (Ag×D5)}{σ:St}{H:Hp}{s:Aq}{l b:Ag}{xs ys zs:List V}
theorem Inv.ahM{a its':List Ai}{n:Nat}{f:Array Ai->Array Ai}{t':Nat}(I:Inv X pins σ H s)(c:H l=some (.lst xs))(e:s.heap.get? l=some { cls:=.type "list",data:=.seq a.toArray n })(hf:f a.toArray=its'.toArray)(d:Vals ys its')(hz:ys.length<=sizeLine):
  Inv X pins σ (upd H l (.lst ys)) { s with heap:=s.heap.update l (BD f),toks:=t' }:=by
 have q:=PySem.IsL.update e f;rw[hf] at q;refine I.write (x:=l) (e:=l) (by rw[c];exact trivial) (.inl rfl) (fun j u g i=>(Dc s.heap (BD f) (Ne.symm g)).trans i) ⟨_,q⟩ ?_;exact⟨hz,its',_,d,q⟩
theorem Inv.ajV{a:List Ai}{t':Nat}(I:Inv X pins σ H s)(c:Vals ys a)(hz:ys.length<=sizeLine):
  Inv X pins σ (upd H s.heap.objs.size (.lst ys)) { s with heap:=s.heap.push { cls:=.type "list",data:=.seq a.toArray },toks:=t' } :=
 I.laid (fun _ _ q=>Ap _ q) (Ak _) ⟨hz,a,0,c,AH _ rfl⟩
theorem Inv.fresh(I:Inv X pins σ H s):H s.heap.objs.size=none:=I.hok.fresh (Ak _)
theorem Inv.aeB(I:Inv X pins σ H s)(c:H l=some (.lst xs)):xs.length<=sizeLine/\∃(a:List Ai)(n:Nat),Vals xs a/\xs.length=a.length/\s.heap.get? l=some { cls:=.type "list",data:=.seq a.toArray n }:=by
 obtain⟨z,a,n,r,e⟩:=I.hok l _ c;exact⟨z,a,n,r,r.length,e⟩
theorem abZ{n:Nat}(h:n<=sizeLine):EC n=false:=by
 unfold EC;exact AR (by omega)
end
section
variable{X:Cx}
inductive tW:V->List V->Hp->VK->Prop
 | mk {x vs H Q} (l:Ag) (xs:List V) (y:V) (h1:x=.ref l) (h2:vs=[y]) (h3:H l=some (.lst xs)) (h4:xs.length<sizeLine) (q:Q .non (upd H l (.lst (xs++[y])))):tW x vs H Q
theorem aad:MtM X "list.append" tW:=by
 intro pins s σ H x vs v us Q I c d h;obtain⟨l,xs,y,rfl,rfl,b,hz,q⟩:=h;cases c
 obtain⟨u,rfl,f⟩:=d.one;obtain⟨z,a,n,r,g,e⟩:=I.aeB b;refine Iw F.slot_list_append ⟨_,e,rfl⟩ F.entry_list_append (F.args_list_append_2 _ _) (PySem.list_append l a.toArray n u (by rw[A9];omega)) ⟨e,?_⟩;refine⟨.non,_,I.ahM (its':=a++[u]) b e (by simp) (r.append (.cons f .nil)) ?_,rfl,q⟩;rw[Al,List.length_singleton];omega
def pP:V->List V->Hp->VK->Prop:=fun x vs H Q=>∃l b xs a,x=.ref l/\vs=[.ref b]/\H l=some (.lst xs)/\H b=some (.lst a)/\xs.length+a.length<=sizeLine/\Q .non (upd H l (.lst (xs++a)))
theorem zF:MtM X "list.extend" pP:=by
 intro pins s σ H x vs v us Q I g i h;obtain⟨l,b,xs,A,rfl,rfl,f,j,hz,q⟩:=h;cases g
 obtain⟨u,rfl,m⟩:=i.one;cases m
 obtain⟨z,c,n,r,B,e⟩:=I.aeB f;obtain⟨C,a,o,p,w,y⟩:=I.aeB j;have hsz:c.toArray.size+a.toArray.size<=sizeLine:=by rw[A9,A9];omega
 have d:¬(!c.toArray.isEmpty&&EC (c.toArray.size+a.toArray.size))=true:=by
  rw[abZ hsz,Ep];exact AS
 refine Iw F.slot_list_extend ⟨_,e,rfl⟩ F.entry_list_extend (F.args_list_extend_2 _ _)
  (AutoSeq1.list_extend_list_list_0 l c.toArray n b a.toArray o d (by rw[A9];omega) (by omega)) ⟨e,y,?_⟩
 refine⟨.non,_,I.ahM (its':=c++a) f e (by simp) (r.append p) ?_,rfl,q⟩;rw[Al];omega
def aj2:V->List V->Hp->VK->Prop:=fun x vs H Q=>∃l xs y,x=.ref l/\vs=[]/\H l=some (.lst xs)/\xs[xs.length-1]? = some y/\Q y (upd H l (.lst xs.dropLast))
theorem agU:MtM X "list.pop" aj2:=by
 intro pins s σ H x vs v us Q I f g h;obtain⟨l,xs,y,rfl,rfl,d,i,q⟩:=h;cases f
 have b:=g.zero;subst b;obtain⟨z,a,n,r,j,e⟩:=I.aeB d;obtain⟨u,m,o⟩:=r.get i;have c:a.toArray[a.toArray.size-1]? = some u:=by
  show a.toArray[a.length-1]? = some u;rw[<- Hx,<- j];exact m
 refine Iw F.slot_list_pop ⟨_,e,rfl⟩ F.entry_list_pop (F.args_list_pop_1 _) (MeetsSeq.list_pop_last l a.toArray n u c (by rw[A9];omega)) ⟨e,?_⟩;refine⟨y,_,I.ahM (its':=a.dropLast) d e ?_ r.dropLast ?_,o,q⟩
 ·show a.toArray.eraseIdxIfInBounds (a.toArray.size-1)=a.dropLast.toArray
  rw[A9,List.eraseIdxIfInBounds_toArray,xJ]
 ·rw[List.length_dropLast]
  omega
def ajC:R2:=fun x y H Q=>∃l b xs a,x=.ref l/\y=.ref b/\H l=some (.lst xs)/\H b=some (.lst a)/\xs.length+a.length<=sizeLine/\∀p,H p=none->Q (.ref p) (upd H p (.lst (xs++a)))
theorem rj:OpR X (binaryOp .Add) ajC:=by
 intro pins s σ H x y v u Q I d f h;obtain⟨l,b,xs,w,rfl,rfl,g,i,hz,q⟩:=h;cases d
 cases f
 obtain⟨z,c,n,r,A,e⟩:=I.aeB g;obtain⟨B,a,C,j,m,o⟩:=I.aeB i;refine PySem.P.add_list e o ?_ (by rw[A9,A9];omega);have p:c.toArray++a.toArray=(c++a).toArray:=by simp
 rw[p];exact⟨.ref _,_,I.ajV (t':=s.toks) (r.append j) (by rw[Al];omega),rfl,q _ I.fresh⟩
end
section
variable{prog:AI}{w:AZ}{A:B7}{E:Ai->Aq->Prop}{s:Aq}
set_option maxRecDepth 100000 in
end
theorem Vals.ints:∀{a:List Int}{us:List Ai},Vals (a.map V.int) us->IntsAre us a
 | [],us,h=>by
  rw[EW] at h;cases h
  exact IntsAre.nil
 | n::a,us,h=>by
  rw[AA] at h;cases h with
  | cons r t =>
   obtain⟨k,rfl⟩:=r;exact IntsAre.cons n k (Vals.ints t)
theorem Vals.aje{a:Ag}{us:List Ai}(r:Vals [V.ref a] us):us=[Bo a]:=by
 cases r with
 | cons r t =>
  cases t
  cases r
  rfl
section
variable{prog:AI}{w:AZ}{A:B7}{E:Ai->Aq->Prop}{s:Aq}{l:Ag}{its:List Ai}{ns:List Int}{Q:Ai->Aq->Prop}
theorem afj(hh:A.handled=none)(c:s.heap.IsList l its.toArray)(d:IntsAre its ns)(hne:0<ns.length)(h:∀h' tk M t',(∀b o,s.heap.get? b=some o->h'.get? b=some o)->M∈ns->(∀a,a∈ns->a<=M)->Q (.int M t') { s with heap:=h',toks:=tk }):wpAny (model prog w) A (call (.builtin "max") [.ref l]) Q E s:=by
 obtain⟨xs,e⟩:=d.allInts.items;have f:numsOf (intItems xs).toList=ns:=by rw[<- e];exact d.numsOf
 rw[Kg] at f;subst f;rw[e] at c;have hsz:0<xs.size:=by simpa using hne
 refine PySem.max_intList hh c hsz fun v h' tk g i => ?_;obtain⟨t,rfl⟩:=KA g;obtain⟨q,m⟩:=argBest_gt (numAt xs) (xs.size-1);refine h h' tk _ t i ?_ fun a n => ?_
 ·rw[JJ];exact JK (by rw[Ab,BI];omega)
 ·obtain⟨j,p,rfl⟩:=mem_getD n
  rw[Ab,BI] at p;rw[<- JJ];exact m j (by omega)
theorem ae4(hh:A.handled=none)(c:s.heap.IsList l its.toArray)(d:IntsAre its ns)(hne:0<ns.length)(h:∀h' tk M t',(∀b o,s.heap.get? b=some o->h'.get? b=some o)->M∈ns->(∀a,a∈ns->M<=a)->Q (.int M t') { s with heap:=h',toks:=tk }):wpAny (model prog w) A (call (.builtin "min") [.ref l]) Q E s:=by
 obtain⟨xs,e⟩:=d.allInts.items;have f:numsOf (intItems xs).toList=ns:=by rw[<- e];exact d.numsOf
 rw[Kg] at f;subst f;rw[e] at c;have hsz:0<xs.size:=by simpa using hne
 refine PySem.min_intList hh c hsz fun v h' tk g i => ?_;obtain⟨t,rfl⟩:=KA g;obtain⟨q,m⟩:=argBest_lt (numAt xs) (xs.size-1);refine h h' tk _ t i ?_ fun a n => ?_
 ·rw[JJ];exact JK (by rw[Ab,BI];omega)
 ·obtain⟨j,p,rfl⟩:=mem_getD n
  rw[Ab,BI] at p;rw[<- JJ];exact m j (by omega)
end
section
variable{X:Cx}
def ajO(K:Lf):List V->Hp->VK->Prop:=fun vs H Q=>∃(a:Ag)(b:List Int),vs=[V.ref a]/\SqL K H a (b.map V.int)/\0<b.length/\∀m,m∈b->(∀y,y∈b->y<=m)->Q (.int m) H
def ajx(K:Lf):List V->Hp->VK->Prop:=fun vs H Q=>∃(a:Ag)(b:List Int),vs=[V.ref a]/\SqL K H a (b.map V.int)/\0<b.length/\∀m,m∈b->(∀y,y∈b->m<=y)->Q (.int m) H
theorem adf(b:X.calm=true):nO X (.builtin "max") (ajO X.K):=by
 intro pins s σ H vs us Q I r h;obtain⟨a,l,rfl,c,hne,q⟩:=h;obtain⟨d,e,f,_⟩:=I.list c;rw[Vals.aje r];exact afj (I.ok.hd b) f.isList e.ints hne fun h' tk m t' g i j=>⟨.int _,H,I.kept g,⟨_,rfl⟩,q m i j⟩
theorem ade(b:X.calm=true):nO X (.builtin "min") (ajx X.K):=by
 intro pins s σ H vs us Q I r h;obtain⟨a,l,rfl,c,hne,q⟩:=h;obtain⟨d,e,f,_⟩:=I.list c;rw[Vals.aje r];exact ae4 (I.ok.hd b) f.isList e.ints hne fun h' tk m t' g i j=>⟨.int _,H,I.kept g,⟨_,rfl⟩,q m i j⟩
end
mutual
inductive Dp(K:Lf)(H:Hp):V->Iy->Prop
 | non:Dp K H .non .none
 | bl (b:Bool):Dp K H (.bl b) (.bool b)
 | int (i:Int):Dp K H (.int i) (.int i)
 | str (x:AW):Dp K H (.str x) (.str x)
 | lst {a:Ag} {xs:List V} {ds:List Iy}:SqL K H a xs->uF K H xs ds->Dp K H (.ref a) (.list ds)
 | tup {a:Ag} {xs:List V} {ds:List Iy}:SqT K H a xs->uF K H xs ds->Dp K H (.ref a) (.tuple ds)
inductive uF(K:Lf)(H:Hp):List V->List Iy->Prop
 | nil:uF K H [] []
 | cons {v:V} {vs:List V} {d:Iy} {ds:List Iy}:Dp K H v d->uF K H vs ds->uF K H (v::vs) (d::ds)
end
section
variable{X:Cx}{pins:List (Ag×D5)}{σ:St}{H:Hp}{s:Aq}
mutual
theorem Dp.reads(I:Inv X pins σ H s):∀(d:Iy)(v:V)(u:Ai),Dp X.K H v d->RelV v u->∃as,Reads s.heap u d as
 | .none,_,_,h,r=>by
  cases h
  cases r
  exact⟨_,Reads.none⟩
 | .bool b,_,_,h,r=>by
  cases h
  cases r
  exact⟨_,Reads.bool b⟩
 | .int i,_,_,h,r=>by
  cases h
  obtain⟨t,rfl⟩:=r;exact⟨_,Reads.int i t⟩
 | .str x,_,_,h,r=>by
  cases h
  obtain⟨t,rfl⟩:=r;exact⟨_,Reads.str x t⟩
 | .list ds,_,_,h,r=>by
  cases h with
  | lst c e =>
   cases r
   obtain⟨a,f,⟨o,n,g,j,_,l⟩,_⟩:=I.list c;obtain⟨as,m⟩:=Dp.readsAll I ds _ a e f;exact⟨_,Reads.list g j l m⟩
 | .tuple ds,_,_,h,r=>by
  cases h with
  | tup c e =>
   cases r
   obtain⟨a,f,⟨o,g,j,n,l⟩,_⟩:=I.tuple c;obtain⟨as,m⟩:=Dp.readsAll I ds _ a e f;exact⟨_,Reads.tuple g j l m⟩
 | .dict _,_,_,h,_=>by cases h
theorem Dp.readsAll(I:Inv X pins σ H s):∀(a:List Iy)(vs:List V)(us:List Ai),uF X.K H vs a->Vals vs us->∃as,ReadsAll s.heap us a as
 | [],_,_,h,r=>by
  cases h
  cases r
  exact⟨_,ReadsAll.nil⟩
 | d::a,_,_,h,r=>by
  cases h with
  | cons b c =>
   cases r with
   | cons e f =>
    obtain⟨as,g⟩:=Dp.reads I d _ _ b e;obtain⟨j,i⟩:=Dp.readsAll I a _ _ c f;exact⟨_,ReadsAll.cons g i⟩
end
end
section
variable{X:Cx}
def ajS(K:Lf):R2:=fun x y H Q=>∃d e,Dp K H x d/\Dp K H y e/\Hj d=true/\Hj e=true/\Q (.bl (!PyData.eqv d e)) H
theorem agF(a:X.A.units+64<cLine):OpR X (compareOp .NotEq) (ajS X.K):=by
 intro pins s σ H x y v u Q I b c h;obtain⟨d,e,f,he,sd,g,q⟩:=h;obtain⟨as,i⟩:=Dp.reads I d x v f b;obtain⟨l,j⟩:=Dp.reads I e y u he c;exact SeqAt.compareNe_shaped i j sd g a ⟨.bl _,H,I,rfl,q⟩
end
abbrev acP(h:B1)(c:Ag)(v:Option Ai):Prop:=h.IsCell c v
noncomputable def ajy(a b:Eg):Eg :=
 { a with names:=a.names.map fun(n,k)=>if (k==.free&&b.kind==.function&&b.names.lookup n==some .cell) then (n,.cell) else (n,k) }
noncomputable def bA(cells:List (AW×Ag)):List (AW×Dy)->List (AW×Ag)->List (AW×Ag)
 | [],acc=>acc
 | (n,k)::r,acc=>if k==.free then bA cells r ((n,(cells.lookup n).getD 0)::acc) else bA cells r acc
theorem kX(b:Ib)(f:AW×Dy->List (AW×Ag)->K2 (ForInStep (List (AW×Ag))))(hf:∀n k c,f (n,k) c=if k==.free then (do let a <- cellOf b n;pure (.yield ((n,a)::c))) else pure (.yield c)):
  ∀(names:List (AW×Dy))(acc:List (AW×Ag)),(∀y∈names,y.2=.free->∃c,b.cells.lookup y.1=some c)->forIn names acc f=pure (bA b.cells names acc)
 | [],acc,_=>by rw[Er];rfl
 | (n,k)::r,acc,h=>by
  rw[EH,hf];have d:=fun acc=>kX b f hf r acc fun y i=>h y (Ac _ i);unfold bA
  by_cases hk:(k==ED)=true
  ·rw[As hk,As hk]
   obtain⟨c,g⟩:=h (n,k) Ad (by simpa using hk);have e:cellOf b n=pure c:=by unfold cellOf;rw[g]
   rw[e];have j:(b.cells.lookup n).getD 0=c:=by rw[g];rfl
   rw[j];exact d _
  ·rw[Ar hk,Ar hk]
   exact d _
theorem wW{a:Eg}{b:Ib}(h:∀y∈a.names,y.2=.free->∃c,b.cells.lookup y.1=some c):closureFor a b=pure (bA b.cells a.names []):=by
 simp only[closureFor];rw[kX b _ (fun n k c=>rfl) a.names [] h];rfl
theorem mem_lookup{α:Type}:∀{l:List (AW×α)}{n:AW}{c:α},(n,c)∈l->∃c',l.lookup n=some c'
 | (k,v)::r,n,c,h=>by
  rw[Cg];cases hb:n==k with
  | true=>exact⟨_,rfl⟩
  | false =>
   rcases Am.mp h with e|h
   ·cases e;simp at hb
   ·exact mem_lookup h
theorem fU{cells:List (AW×Ag)}:∀{names:List (AW×Dy)}{acc:List (AW×Ag)}{n:AW}{c:Ag},(n,c)∈bA cells names acc->(n,c)∈acc\/((n,.free)∈names/\c=(cells.lookup n).getD 0)
 | [],_,_,_,h=>.inl h
 | (m,k)::r,acc,n,c,h=>by
  unfold bA at h
  split at h
  ·rename_i a
   have a:k=.free:=by simpa using a
   rcases fU h with h|⟨b,d⟩
   ·rcases Am.mp h with e|h
    ·cases e;exact .inr ⟨a▸Ad,rfl⟩
    ·exact .inl h
   ·exact .inr ⟨Ac _ b,d⟩
  ·rcases fU h with h|⟨b,d⟩
   ·exact .inl h
   ·exact .inr ⟨Ac _ b,d⟩
theorem iT{cells:List (AW×Ag)}:∀{names:List (AW×Dy)}{acc:List (AW×Ag)}{p:AW×Ag},p∈acc->p∈bA cells names acc
 | [],_,_,h=>h
 | (m,k)::r,acc,p,h=>by
  unfold bA
  split
  ·exact iT (Ac _ h)
  ·exact iT h
theorem iY{cells:List (AW×Ag)}:∀{names:List (AW×Dy)}{acc:List (AW×Ag)}{n:AW},(n,.free)∈names->(n,(cells.lookup n).getD 0)∈bA cells names acc
 | (m,k)::r,acc,n,h=>by
  unfold bA;rcases Am.mp h with e|h
  ·cases e
   exact iT Ad
  ·split
   ·exact iY h
   ·exact iY h
theorem gy:∀{names:List (AW×Dy)}{h:B1}{acc:List (AW×Ag)}{x:AW}{c:Ag},(x,c)∈cellsFrom h.objs.size names acc ->
  (x,c)∈acc\/((x,.cell)∈names/\h.objs.size<=c/\acP (pushCells h names) c none)
 | [],_,_,_,_,h=>.inl h
 | (n,k)::r,h,acc,x,c,a=>by
  unfold cellsFrom at a;unfold pushCells
  split at a
  ·rename_i b
   rw[As b];have b:k=.cell:=by simpa using b
   rw[<- BU h { cls:=.type "cell",data:=.cell none }] at a;rcases gy a with a|⟨f,d,g⟩
   ·rcases Am.mp a with e|a
    ·cases e
     exact .inr ⟨b▸Ad,Ak _,_,FG r _ _ _ (AH _ rfl),rfl⟩
    ·exact .inl a
   ·rw[BU] at d
    exact .inr ⟨Ac _ f,EX d,g⟩
  ·rename_i b
   rw[Ar b];rcases gy a with a|⟨f,d,g⟩
   ·exact .inl a
   ·exact .inr ⟨Ac _ f,d,g⟩
theorem jP:∀{names:List (AW×Dy)}{n:Nat}{acc:List (AW×Ag)}{p:AW×Ag},p∈acc->p∈cellsFrom n names acc
 | [],_,_,_,h=>h
 | (m,k)::r,n,acc,p,h=>by
  unfold cellsFrom
  split
  ·exact jP (Ac _ h)
  ·exact jP h
theorem mv:∀{names:List (AW×Dy)}{n:Nat}{acc:List (AW×Ag)}{x:AW},(x,.cell)∈names->∃c,(x,c)∈cellsFrom n names acc
 | (m,k)::r,n,acc,x,h=>by
  unfold cellsFrom;rcases Am.mp h with e|h
  ·cases e
   exact⟨n,jP Ad⟩
  ·split
   ·exact mv h
   ·exact mv h
theorem mG:∀{names:List (AW×Dy)}{h:B1}{acc:List (AW×Ag)}{x y:AW}{c:Ag},(∀p∈acc,p.2<h.objs.size)->(∀x y c,(x,c)∈acc->(y,c)∈acc->x=y) ->
  (x,c)∈cellsFrom h.objs.size names acc->(y,c)∈cellsFrom h.objs.size names acc->x=y
 | [],_,_,_,_,_,_,hi,h1,h2=>hi _ _ _ h1 h2
 | (n,k)::r,h,acc,x,y,c,hl,hi,h1,h2=>by
  unfold cellsFrom at h1 h2
  split at h1
  ·rename_i hk
   rw[As hk] at h2;rw[<- BU h { cls:=.type "cell",data:=.cell none }] at h1 h2;refine mG (h:=h.push _) (fun p d => ?_) (fun x y c a b => ?_) h1 h2
   ·rw[BU]
    rcases Am.mp d with rfl|d
    ·exact GS _
    ·exact EY (hl p d)
   ·rcases Am.mp a with e|a <;> rcases Am.mp b with f|b
    ·cases e;cases f;rfl
    ·cases e;exact absurd (hl _ b) (Cd _)
    ·cases f;exact absurd (hl _ a) (Cd _)
    ·exact hi _ _ _ a b
  ·rename_i hk
   rw[Ar hk] at h2;exact mG hl hi h1 h2
theorem tY{M:Kk}{A:B7}{E:Ai->Aq->Prop}{s:Aq}{a:Eg}{e:Ag}{b:List (AW×Ag)}{g:AW}{i:Option Ag}{j:Ai}{f:Ib}{d:Ag}{Q:Ib->Aq->Prop}(h:Q (newEnv a s.heap.objs.size e (cellsFrom (s.heap.objs.size+1) a.names b) g i j (some f) d)
   { s with heap:=pushCells (s.heap.push { cls:=.type "dict",data:=.dict #[] }) a.names }):
  wpAny M A (newFunctionEnv a e b [] g i j (some f) d) Q E s:=by
 simp only[newFunctionEnv,Iz,G5];refine Af (wpAny_alloc ?_);refine Af (wpAny_layCells _ (fun n k c=>rfl) a.names b _ _ ?_);rw[show({ s with heap:=s.heap.push { cls:=.type "dict",data:=.dict #[] } }:Aq).heap.objs.size=s.heap.objs.size+1 from BU ..];rw[Er];exact Af (A2 (A2 h))
theorem jb{a:Eg}:∀{names:List (AW×Dy)}{x:AW}{k:Dy},
  (names.map fun(n,k)=>if (k==ED&&a.kind==.function&&a.names.lookup n==some .cell) then (n,GD) else (n,k)).lookup x=some k ->
  ∃b,names.lookup x=some b/\(k=b\/(b=.free/\k=.cell))
 | [],_,_,h=>by simp at h
 | (n,k₀)::r,x,k,h=>by
  have c:=@jb a r x k;have h':Em x ((if (k₀==ED&&a.kind==.function&&a.names.lookup n==some .cell)=true then (n,GD) else (n,k₀))::(r.map _))=some k:=h;cases hx:x==n with
  | true =>
   simp only[Cg,hx]
   by_cases hc:(k₀==ED&&a.kind==.function&&a.names.lookup n==some .cell)=true
   ·rw[As hc] at h'
    simp only[Cg,hx] at h';cases h'
    simp only[AB,BL] at hc;exact⟨k₀,rfl,.inr ⟨hc.1.1,rfl⟩⟩
   ·rw[Ar hc] at h'
    simp only[Cg,hx] at h';cases h'
    exact⟨_,rfl,.inl rfl⟩
  | false =>
   simp only[Cg,hx]
   by_cases hc:(k₀==ED&&a.kind==.function&&a.names.lookup n==some .cell)=true
   ·rw[As hc] at h'
    simp only[Cg,hx] at h';exact c h'
   ·rw[Ar hc] at h'
    simp only[Cg,hx] at h';exact c h'
structure aaI(N:List AW)(sc scope:Eg)(own:List (AW×Nat)):Prop where
 kind:scope.kind=.function
 uniq:∀y∈scope.names,scope.names.lookup y.1=some y.2
 ix:∀p∈own,N[p.2]? = some p.1
 free:∀y∈scope.names,y.2=.free->sc.names.lookup y.1=some .cell\/sc.names.lookup y.1=some .free
 own:∀y∈scope.names,y.2=.local\/y.2=.cell->y.1∈own.map (·.1)\/y.1 ∉ N
noncomputable def wipe(σ:St):List Nat->St
 | []=>σ
 | v::vs=>(wipe σ vs).set v none
theorem iZ(σ:St):∀vs:List Nat,(wipe σ vs).length=σ.length
 | []=>rfl
 | v::vs=>by unfold wipe;rw[D8,iZ σ vs]
theorem l6{σ:St}{i:Nat}{x:V}:∀{vs:List Nat},(wipe σ vs)[i]? = some (some x)->σ[i]? = some (some x)/\i ∉ vs
 | [],h=>⟨h,by simp⟩
 | v::vs,h=>by
  unfold wipe at h
  by_cases hi:v=i
  ·subst hi
   by_cases hv:v<(wipe σ vs).length
   ·rw[C1 hv] at h;cases h
   ·rw[Co (by simpa using hv)] at h;cases h
  ·rw[Cv hi] at h
   obtain⟨a,b⟩:=l6 h;exact⟨a,by simp only[Am,not_or];exact⟨fun e=>hi e.symm,b⟩⟩
noncomputable abbrev Cx.blk(X:Cx)(s:Aq)(H:Hp)(a:Eg)(b:Ib)(c:List Ag):Cx:={ X with s_0:=s,H_0:=H,env:=b,outer:=X.stack,ex:=c,fn:=fun x=>a.names.lookup x==some .cell,pn := [],xe:=fun _ _=>False }
section
variable{X:Cx}{pins:List (Ag×D5)}{σ:St}{H:Hp}{s:Aq}
theorem tP{d:Eg}{own:List (AW×Nat)}{fp:List Ag}(I:Inv X pins σ H s)(ok:aaI X.N X.env.scope d own)(hN:X.N.Nodup)(u:∀b∈fp,oU X pins H b/\b<s.heap.objs.size):
  Inv (X.blk s H d (compEnvC d (cellsFrom (s.heap.objs.size+1) d.names (bA X.env.cells d.names [])) s.heap.objs.size X.env) fp) [] (wipe σ (own.map (·.2))) H { s with heap:=pushCells (s.heap.push { cls:=.type "dict",data:=.dict #[] }) d.names }:=by
 have R:∀y∈d.names,y.2=.free->∃c,X.env.cells.lookup y.1=some c:=fun y C e=>by
  rcases ok.free y C e with k|k
  ·exact I.ok.has _ (.inl k)
  ·exact I.ok.has _ (.inr k)
 generalize g:compEnvC d (cellsFrom (s.heap.objs.size+1) d.names (bA X.env.cells d.names [])) s.heap.objs.size X.env=f;have kp:∀b o,s.heap.get? b=some o->(pushCells (s.heap.push { cls:=.type "dict",data:=.dict #[] }) d.names).get? b=some o:=fun b o e=>FG _ _ _ _ (Ap _ e);have hL:f.locals=s.heap.objs.size:=by rw[<- g];rfl
 have l:f.cells=cellsFrom (s.heap.objs.size+1) d.names (bA X.env.cells d.names []):=by rw[<- g];rfl
 have S:f.scope=ajy d X.env.scope:=by rw[<- g];rfl
 rw[<- BU s.heap { cls:=.type "dict",data:=.dict #[] }] at l;have cm:∀{y c},(y,c)∈bA X.env.cells d.names []->X.env.cells.lookup y=some c/\c<s.heap.objs.size:=fun{y c} v=>by
  rcases fU v with v|⟨j,rfl⟩
  ·cases v
  ·obtain⟨c,hc⟩:=R _ j rfl
   rw[hc];obtain⟨w,z⟩:=I.cell _ _ hc;exact⟨rfl,z.lt⟩
 have T:∀{y c},f.cells.lookup y=some c->(X.env.cells.lookup y=some c/\c<s.heap.objs.size)\/(s.heap.objs.size+1<=c/\acP (pushCells (s.heap.push { cls:=.type "dict",data:=.dict #[] }) d.names) c none):=fun{y c} e=>by
  rw[l] at e;rcases gy (Bb e) with v|⟨_,E,h3⟩
  ·exact .inl (cm v)
  ·rw[BU] at E;exact .inr ⟨E,h3⟩
 have J:∀{y},d.names.lookup y=some .free->∃c,f.cells.lookup y=some c/\X.env.cells.lookup y=some c:=fun{y} hl=>by
  have C:(y,ED)∈d.names:=Bb hl;obtain⟨c',A⟩:=mem_lookup (jP (names:=d.names) (n:=(s.heap.push { cls:=.type "dict",data:=.dict #[] }).objs.size) (iY (cells:=X.env.cells) (acc := []) C));rw[<- l] at A;refine⟨c',A,?_⟩;rw[l] at A;rcases gy (Bb A) with v|⟨j,_,_⟩
  ·exact(cm v).1
  ·have:=ok.uniq _ j
   rw[hl] at this;cases this
 have a4:(X.blk s H d f fp).Ok:=by
  refine⟨I.ok.mod,by show f.scope.kind=_;rw[S];exact ok.kind,by show f.globals=_;rw[<- g];exact I.ok.glob,by show f.builtins=_;rw[<- g];exact I.ok.blt,by show s.heap.objs.size<=f.locals;rw[hL];exact Ak _,
   fun y z c e1 M => ?_,fun y C => ?_,fun y c z e => ?_,I.ok.hd,I.ok.frames,.inl rfl,fun b O=>⟨?_,fun y c e z => ?_⟩,I.bs,Br I.ok.bsz I.sz,fun b o e O => ?_,fun b O z => ?_,I.stack,I.sY⟩
  ·have e1:f.cells.lookup y=some c:=e1
   have M:f.cells.lookup z=some c:=M;rw[l] at e1 M;refine mG (fun p Z => ?_) (fun y z c a b=>I.ok.inj y z c (cm a).1 (cm b).1) (Bb e1) (Bb M);rw[BU];exact EY (cm (y:=p.1) (c:=p.2) Z).2
  ·show ∃c,f.cells.lookup y=some c
   have key:∀k,f.kindOf y=some k->(k=.cell\/k=.free)->∃c,f.cells.lookup y=some c:=fun k W Y=>by
    unfold Env.kindOf at W;rw[S] at W;obtain⟨P,e,r⟩:=jb W;have:P=.cell\/P=.free:=by
     rcases r with rfl|⟨rfl,_⟩
     ·exact Y
     ·exact .inr rfl
    rcases this with rfl|rfl
    ·obtain⟨c,v⟩:=mv (n:=(s.heap.push { cls:=.type "dict",data:=.dict #[] }).objs.size) (acc:=bA X.env.cells d.names []) (Bb e)
     obtain⟨c',A⟩:=mem_lookup v;exact⟨c',by rw[l];exact A⟩
    ·obtain⟨c,j,_⟩:=J e
     exact⟨c,j⟩
   rcases C with C|C
   ·exact key _ C (.inl rfl)
   ·exact key _ C (.inr rfl)
  ·have z:(d.names.lookup y==some GD)=true:=z
   have z:d.names.lookup y=some .cell:=by simpa using z
   have e:f.cells.lookup y=some c:=e;rw[l] at e;rcases gy (Bb e) with v|⟨_,E,_⟩
   ·rcases fU v with v|⟨j,_⟩
    ·cases v
    ·have q:=ok.uniq _ j
     rw[z] at q;cases q
   ·rw[BU] at E
    exact EX E
  ·show b≠f.locals
   rw[hL];exact Bj (u b O).2
  ·have e:f.cells.lookup y=some c:=e
   rcases T e with⟨j,_⟩|⟨j,_⟩
   ·exact(u b O).1.2.2.2.2.1 y c j z
   ·have E:s.heap.objs.size+1<=b:=by rw[<- z];exact j
    exact absurd (AY (u b O).2 (EX E)) (Cd _)
  ·rcases(u b O).1.2.2.2.1 with z|z
   ·exact I.ok.noex b o e z
   ·exact absurd (AY (AF e) (Br I.ok.bsz z)) (Cd _)
  ·rcases Am.mp (I.x8 b z) with z|z
   ·exact(u b O).1.2.1 z
   ·exact(u b O).1.2.2.1 z
 refine⟨a4,rfl,I.bare,Un.kept kp,⟨fun _=>none,?_,fun i y av e1 M B => ?_⟩,fun y c e => ?_,?_,fun y c e => ?_,fun p Z => ?_,I.hok.kept kp,by rw[iZ];exact I.len⟩
 ·show Heap.Ns _ f.locals _
  rw[hL];exact Heap.Ns.keeps (Heap.Ns.new ..) fun b o e=>FG _ _ _ _ e
 ·obtain⟨M,hne⟩:=l6 M
  have G:d.names.lookup y=some .free/\(f.kindOf y=some .cell\/f.kindOf y=some .free):=by
   have key:∀k,f.scope.names.lookup y=some k->k=.local\/k=.cell\/k=.free->d.names.lookup y=some .free/\(f.kindOf y=some .cell\/f.kindOf y=some .free):=fun k W Y=>by
    have a0:=W;rw[S] at W;obtain⟨P,e,r⟩:=jb W;have no:¬(P=.local\/P=.cell):=fun hh=>by
     rcases ok.own _ (Bb e) hh with A|A
     ·obtain⟨p,Z,a5⟩:=Ax.mp A
      have B:=ok.ix p Z;have:p.1=y:=a5;rw[this] at B;exact hne (Ax.mpr ⟨p,Z,qB hN B e1⟩)
     ·exact A (AE e1)
    rcases r with rfl|⟨rfl,rfl⟩
    ·rcases Y with rfl|rfl|rfl
     ·exact absurd (.inl rfl) no
     ·exact absurd (.inr rfl) no
     ·exact⟨e,.inr a0⟩
    ·exact⟨e,.inl a0⟩
   have B:Vis f.scope y:=B;rcases B with B|B|B
   ·exact key _ B (.inl rfl)
   ·exact key _ B (.inr (.inl rfl))
   ·exact key _ B (.inr (.inr rfl))
  obtain⟨m,hn,hl⟩:=I.loc;have a3:Vis X.env.scope y:=(ok.free _ (Bb G.1) rfl).elim (fun k=>.inr (.inl k)) (fun k=>.inr (.inr k));obtain⟨w,r,q⟩:=hl i y av e1 M a3;refine⟨w,r,.inr ⟨G.2,?_⟩⟩;obtain⟨c,j,E⟩:=J G.1;rcases q with⟨k,_⟩|⟨_,c',A,z⟩
  ·have k:X.env.scope.names.lookup y=some .local:=k
   rcases ok.free _ (Bb G.1) rfl with P|P <;> rw[show X.env.scope.names.lookup y=_ from P] at k <;> cases k
  ·rw[E] at A;cases A
   exact⟨c,j,z.keeps kp⟩
 ·have e:f.cells.lookup y=some c:=e
  rcases T e with⟨j,_⟩|⟨_,z⟩
  ·obtain⟨w,z⟩:=I.cell y c j
   exact⟨w,z.keeps kp⟩
  ·exact⟨_,z⟩
 ·show H f.locals=none
  rw[hL];exact I.hok.fresh (Ak _)
 ·have e:f.cells.lookup y=some c:=e
  rcases T e with⟨j,_⟩|⟨j,_⟩
  ·exact I.freeC y c j
  ·exact I.hok.fresh (EX j)
 ·exact absurd (show p∈([]:List (Ag×D5))++[] from Z) (by simp)
theorem afH{E:Ai->Aq->Prop}{D:Ag}{xs:List V}{y:V}{v:Ai}{Q:Ai->Aq->Prop}(I:Inv X pins σ H s)(d:H D=some (.lst xs))(hz:xs.length<sizeLine)(r:RelV y v)(h:∀f,Inv X pins σ (upd H D (.lst (xs++[y]))) f->Q .none f):wpAny (model X.prog X.w) X.A (call (.builtin "list.append") [.ref D,v]) Q E s:=by
 obtain⟨i,c,n,g,e⟩:=I.hok D _ d;have m:=g.length;refine append_at (hsz:=by rw[A9];omega) e fun h' j a => ?_;refine h { s with heap:=h' } (I.write (t':=s.toks) (by rw[d];trivial) (.inl rfl) (fun b u l q=>(j.2 b l).trans q) ⟨_,a⟩ ⟨by rw[Al];exact hz,c++[v],n+1,g.append (.cons r .nil),?_⟩);rw[a];simp
def PTs(X:Cx)(a:List B9)(t:TT):Prop :=
 ∀(pins:List (Ag×D5))(s:Aq)(σ:St)(H:Hp)(Q:Bool->Hp->Prop),Inv X pins σ H s->t σ H Q ->
  wpAny (model X.prog X.w) X.A (forIn a true fun c r=>if r=true then do let ok <- isTrue c X.env (eval c X.env);pure (FH ok) else pure (FH r)) (TP X pins σ Q) X.xe s
def ajd:TT:=fun _ H Q=>Q true H
theorem cP:PTs X [] ajd:=fun _ _ _ H _ I h=>wpAny_tests_nil ⟨H,I,h⟩
theorem zi{c:B9}{t:TT}(h:PT X c t):PTs X [c] t:=fun pins s σ H Q I a=>wpAny_tests_one (h pins s σ H Q I a)
end
theorem aeU{α:Type}{t:K2 α}{Q b:α->Aq->Prop}{M:Kk}{A:B7}{E:Ai->Aq->Prop}{s:Aq}(h:wpAny M A t Q (fun _ _=>False) s)(c:∀a s,Q a s->b a s):wpAny M A t b E s:=C2 h c fun _ _ z=>Ck z
theorem qZ{prog:AI}{w:AZ}{A:B7}{R:JH->Aq->Prop}{s:Aq}{i b g:B9}{j:List B9}{d:Eg}{pos:Pos}{it acc:Ai}{a:Ib}(I:Nat->Aq->Prop)(l:∀n s,I n s->wpAny (model prog w) A (pyNext it) (fun r p=>match r with
   | none=>R (.ok .next) p
   | some v=>wpAny (model prog w) A (letOwnedTupleGo b it v) (fun _ o=>wpAny (model prog w) A (assign b a v) (fun _ y =>
     wpAny (model prog w) A (forIn j true fun c r=>if r=true then do let ok <- isTrue c a (eval c a);pure (FH ok) else pure (FH r)) (fun ok q =>
      if ok=true then wpAny (model prog w) A (eval i a) (fun x z =>
       wpAny (model prog w) A (call (.builtin "list.append") [acc,x]) (fun _ B=>∃m,m<n/\I m B) (notedBy (model prog w) A a fun e f=>R (.error e) f) z) (notedBy (model prog w) A a fun e f=>R (.error e) f) q
      else ∃m,m<n/\I m q) (notedBy (model prog w) A a fun e f=>R (.error e) f) y) (notedBy (model prog w) A a fun e f=>R (.error e) f) o) (notedBy (model prog w) A a fun e f=>R (.error e) f) p) (notedBy (model prog w) A a fun e f=>R (.error e) f) s)(n:Nat)(h:I n s):
  codeAny (model prog w) A (.compLoop (.ListComp i [⟨b,g,j,0⟩] d pos) 0 it acc a) R s:=by
 refine codeAny_loop rfl I (fun n s G => ?_) n h;show wpAny _ A ((compTurn (.ListComp i [⟨b,g,j,0⟩] d pos) 0 it acc a).onRaise (fun x=>do noteFrame x a;theTreesLotGoes x)) _ _ s;refine wpAny_noted ?_;rw[compTurn_list];refine Af (GF (Af (C2 (l n s G) (fun r p C => ?_) fun _ _ h'=>h')));cases r with
 | none=>exact A2 C
 | some v =>
  refine Af (C2 C (fun _ o u => ?_) fun _ _ h'=>h');refine Af (C2 u (fun _ y H=>Af (C2 H (fun ok q E => ?_) fun _ _ h'=>h')) fun _ _ h'=>h');cases ok with
  | false=>exact A2 ⟨rfl,E⟩
  | true =>
   exact Af (Af (C2 E (fun x z J=>Af (C2 J (fun _ B M=>A2 (A2 ⟨rfl,M⟩)) fun _ _ h'=>h')) fun _ _ h'=>h'))
section
variable{X:Cx}
def tLc(l:TI)(g:TG)(n:TT)(o:TE)(vs:List Nat):TE:=fun σ H Q=>l σ H fun J H1=>∀D,H1 D=none->∃W:Nat->Nat->Hp->Prop,(∃m,W 0 m (upd H1 D (.lst [])))/\∀i m H,W i m H ->
 (J.stop i H/\Q (.ref D) H)\/(J.go i H/\∃c:Hp->Prop,(∀a,c a->∃e,e<m/\W (i+1) e a)/\∀x a,J.yld i H x a->g x (wipe σ vs) a fun d p=>wipe d vs=wipe σ vs/\n d p fun b f =>
  if b=true then o d f fun y j=>∃acc,j D=some (.lst acc)/\acc.length<sizeLine/\c (upd j D (.lst (acc++[y]))) else c f)
theorem zT{pins:List (Ag×D5)}{s:Aq}{σ:St}{H:Hp}{Q:VK}{O tg E:B9}{P:List B9}{a:Eg}{own:List (AW×Nat)}{pos a4:Pos}{wi:TI}{g:TG}{tt:TT}{te:TE}{use:Option (Ai->K2 Unit)}{Qf:Ai->Aq->Prop}(hc:X.calm=true)(hN:X.N.Nodup)(I:Inv X pins σ H s)(hi:PI X tg E wi)(ok:aaI X.N X.env.scope a own)(hg:∀(s:Aq) (H:Hp) (C:Ag) (cl:List (AW×Ag)) (f:List Ag),PG (X.blk s H a (compEnvC a cl C X.env) f) tg g)(ht:∀(s:Aq) (H:Hp) (C:Ag) (cl:List (AW×Ag)) (f:List Ag),PTs (X.blk s H a (compEnvC a cl C X.env) f) P tt)(he:∀(s:Aq) (H:Hp) (C:Ag) (cl:List (AW×Ag)) (f:List Ag),PE (X.blk s H a (compEnvC a cl C X.env) f) O te)(hs:∀x,foldedSetIterable E X.env x=pure x)(h:tLc wi g tt te (own.map (·.2)) σ H Q)(b3:∀D C G m B,Inv X pins σ B G->Q (.ref D) B->G.heap.Ns C m->oU X pins B C->compPost (model X.prog X.w) X.A X.xe use Qf (.ref D) C (.ok .next) G):
  wpAny (model X.prog X.w) X.A (comprehension (.ListComp O [⟨tg,E,P,0⟩] a pos) a X.env a4 (newList []) false (eval E X.env) use) Qf X.xe s:=by
 have a0:∀y∈a.names,y.2=.free->∃c,X.env.cells.lookup y.1=some c:=fun y hy e=>by
  rcases ok.free y hy e with k|k
  ·exact I.ok.has _ (.inl k)
  ·exact I.ok.has _ (.inr k)
 refine wpAny_comprehension_free (use:=use) rfl hs (wW a0) ok.kind (fun y hy e=>by rw[ok.uniq y hy,e])
  (thn (hi pins s σ H _ I h) fun xv s1 hx=>thn hx fun bp s2 h2 => ?_)
 obtain⟨it,f,tn,J,S,e,I2,T,a5,f2,q⟩:=h2;subst e;refine G6 (tY ?_) (by show 0<=sizeLine;decide);generalize hD:s2.heap.objs.size=D;have b4:S D=none:=I2.hok.fresh (DT hD);obtain⟨W,⟨m0,w0⟩,a6⟩:=q D b4;generalize a7:({ s2 with heap:=s2.heap.push { cls:=.type "list",data:=.seq ([]:List Ai).toArray } }:Aq)=d;have I3:Inv X pins σ (upd S D (.lst [])) d:=by
  rw[<- a7];refine I2.laid (t':=s2.toks) (fun b o e=>Ap _ e) (DT hD) ⟨AN _,[],0,.nil,?_⟩;rw[<- hD];exact AH _ rfl
 have h3:d.heap=s2.heap.push { cls:=.type "list",data:=.seq ([]:List Ai).toArray }:=by rw[<- a7]
 have sz:∀b∈f,b<s2.heap.objs.size:=fun b l=>by
  obtain⟨o,e,_⟩:=T.obj _ _ a5 b l;exact AF e
 have f3:∀b∈f,oU X pins (upd S D (.lst [])) b/\b<d.heap.objs.size:=fun b l=>by
  have aa:=sz b l;refine⟨⟨?_,(f2 b l).2⟩,by rw[h3,BU];exact EY aa⟩;rw[aw (by rw[<- hD];exact Bj aa)];exact(f2 b l).1
 have b5:tn 0 d.heap:=T.keep _ _ _ a5 fun b _ o e=>by rw[h3];exact Ap _ e
 have I4:=tP I3 ok hN f3;have pg:=hg d (upd S D (.lst [])) d.heap.objs.size (cellsFrom (d.heap.objs.size+1) a.names (bA X.env.cells a.names [])) f;have pt:=ht d (upd S D (.lst [])) d.heap.objs.size (cellsFrom (d.heap.objs.size+1) a.names (bA X.env.cells a.names [])) f;have pe:=he d (upd S D (.lst [])) d.heap.objs.size (cellsFrom (d.heap.objs.size+1) a.names (bA X.env.cells a.names [])) f;show codeAny _ _ (.compStart (.ListComp O [⟨tg,E,P,0⟩] a pos) 0 (.ref it) (.ref D) (compEnvC a (cellsFrom (d.heap.objs.size+1) a.names (bA X.env.cells a.names [])) d.heap.objs.size X.env)) (compPost (model X.prog X.w) X.A X.xe use Qf (.ref D) d.heap.objs.size) { d with heap:=pushCells (d.heap.push { cls:=.type "dict",data:=.dict #[] }) a.names };have ae:∀b∈f,(upd S D (.lst [])) b=none:=fun b l=>(f3 b l).1.1;generalize b6:compEnvC a (cellsFrom (d.heap.objs.size+1) a.names (bA X.env.cells a.names [])) d.heap.objs.size X.env=ce at I4 pg pt pe ⊢;have cL:ce.locals=d.heap.objs.size:=by subst b6;rfl
 generalize br:upd S D (.lst [])=R at I3 I4 pg pt pe w0 ae f3;generalize b8:({ d with heap:=pushCells (d.heap.push { cls:=.type "dict",data:=.dict #[] }) a.names }:Aq)=s4 at I4 ⊢;have af:tn 0 s4.heap:=T.keep _ _ _ b5 fun b _ o e=>by rw[<- b8];exact FG _ _ _ _ (Ap _ e)
 have M:∀{σ':St}{B:Hp}{G:Aq},Inv (X.blk d R a ce f) [] σ' B G->(∀b∈f,B b=none)->∀b∈f,oU (X.blk d R a ce f) [] B b:=fun{σ' B G} I' hn b l =>
  ⟨hn b l,(I'.ok.exf b l).1,I'.ok.exfs b l,.inl l,fun x c e=>(I'.ok.exf b l).2 x c e,fun p hp=>absurd (show p∈([]:List (Ag×D5))++[] from hp) (by simp)⟩
 have Y:codeAny (model X.prog X.w) X.A (.compLoop (.ListComp O [⟨tg,E,P,0⟩] a pos) 0 (.ref it) (.ref D) ce) (compPost (model X.prog X.w) X.A X.xe use Qf (.ref D) d.heap.objs.size) s4:=by
  refine qZ (fun n G=>∃i B,Inv (X.blk d R a ce f) [] (wipe σ (own.map (·.2))) B G/\tn i G.heap/\(∀b∈f,B b=none)/\W i n B) ?_ m0 ⟨0,R,I4,af,ae,w0⟩;rintro n s5 ⟨i,H5,I5,ai,n5,w5⟩;rcases a6 i n H5 w5 with⟨aj,qq⟩|⟨go,Nx,ba,au⟩
  ·have td:=T.done (X.blk d R a ce f) rfl rfl rfl hc i [] s5 _ H5 (fun _ _=>False) I5 (M I5 n5) ai aj
   refine aeU td fun r s6 ⟨hr,I6⟩ => ?_;subst hr;have I7:Inv X pins σ H5 s6:=I3.aiv (ch:=f) I6.os I6.base I6.hok I6.bare fun b l=>⟨(f3 b l).1.2.2.2.1,(f3 b l).1.2.1,(f3 b l).1.2.2.2.2.1,(f3 b l).1.2.2.2.2.2⟩;have nC:H5 d.heap.objs.size=none:=by
    have z:H5 ce.locals=none:=I6.free;rw[cL] at z;exact z
   obtain⟨m,hn,_⟩:=I6.loc;have hn:s6.heap.Ns ce.locals m:=hn;rw[cL] at hn;exact b3 D d.heap.objs.size s6 m H5 I7 qq hn (I3.abo (Ak _) nC)
  ·have ti:=T.item (X.blk d R a ce f) rfl rfl rfl hc i [] s5 _ H5 (fun _ _=>False) I5 (M I5 n5) ai go
   refine aeU ti fun r s6 ⟨u,hr,h6⟩ => ?_;subst hr;refine aeU h6 fun _ s7 ⟨x,H7,I7,r7,y7,a3,n7⟩ => ?_;have bc:=I7.pinned (M I7 n7) (T.obj _ _ a3);refine aeU (pg _ s7 _ H7 x u _ bc r7 (au x H7 y7)) fun _ s8 ⟨σ8,H8,I8,av,q8⟩ => ?_;refine aeU (pt _ s8 σ8 H8 _ I8 q8) fun b s9 ⟨H9,I9,q9⟩ => ?_;have ax:∀{G:Aq}{B:Hp},Inv (X.blk d R a ce f) ([]++su f s7.heap) σ8 B G->Nx B->∃m,m<n/\∃i B,Inv (X.blk d R a ce f) [] (wipe σ (own.map (·.2))) B G/\tn i G.heap/\(∀b∈f,B b=none)/\W i m B:=fun{G B} I' nx=>by
    obtain⟨m',hm,w'⟩:=ba B nx;have Z:∀b∈f,∀o,s7.heap.get? b=some o->G.heap.get? b=some o/\B b=none:=fun b l o e =>
     let z:=I'.pin (b,o) (Au _ (Au _ (kE l e)))
     ⟨z.1,z.2.1⟩
    have hl:(wipe σ (own.map (·.2))).length=σ8.length:=by rw[<- av,iZ]
    refine⟨m',hm,i+1,B,(I'.lO (pins := [])).weak hl (fun j v e => ?_),T.keep _ _ _ a3 fun b l o e=>(Z b l o e).1,fun b l => ?_,w'⟩
    ·rw[<- av] at e
     exact(l6 e).1
    ·obtain⟨o,e,_⟩:=T.obj _ _ a3 b l
     exact(Z b l o e).2
   cases b with
   | false =>
    simp only[Ct,Eo] at q9 ⊢;exact ax I9 q9
   | true =>
    simp only[G5] at q9 ⊢;refine aeU (pe _ s9 σ8 H9 _ I9 q9) fun z bu ⟨yv,bx,bf,bl,acc,b1,b2,nx⟩ => ?_;exact afH (X:=X.blk d R a ce f) bf b1 b2 bl fun c0 bo=>ax bo nx
 exact codeAny_compStart_list Y (T.self X.A 0 _ _ _ af Y)
theorem x9{d l c:B9}{i:List B9}{a:Eg}{own:List (AW×Nat)}{pos:Pos}{n:TI}{g:TG}{p:TT}{r:TE}(u:X.calm=true)(v:X.N.Nodup)(w:PI X l c n)(ok:aaI X.N X.env.scope a own)(y:∀(s:Aq) (H:Hp) (C:Ag) (cl:List (AW×Ag)) (j:List Ag),PG (X.blk s H a (compEnvC a cl C X.env) j) l g)(z:∀(s:Aq) (H:Hp) (C:Ag) (cl:List (AW×Ag)) (j:List Ag),PTs (X.blk s H a (compEnvC a cl C X.env) j) i p)(he:∀(s:Aq) (H:Hp) (C:Ag) (cl:List (AW×Ag)) (j:List Ag),PE (X.blk s H a (compEnvC a cl C X.env) j) d r)(A:∀x,foldedSetIterable c X.env x=pure x:=by intro _;rfl):
  PE X (.ListComp d [⟨l,c,i,0⟩] a pos) (tLc n g p r (own.map (·.2))):=by
 intro pins s σ H Q I h;rw[eval_ListComp];refine zT u v I w ok y z he A h fun D C B m E G q J f=>⟨m,J,fun M O => ?_⟩;obtain⟨P,R,Z,S,T,W⟩:=f;exact⟨.ref D,E,G.turned (t':=B.toks) (fun b o Y e=>(O.2 b Y).trans e) P R S T W,rfl,q⟩
theorem da{i:Nat}{y:AW}{w:Pos}{l p d:B9}{j:List B9}{c:Eg}{own:List (AW×Nat)}{pos n:Pos}{B:TI}{g:TG}{E:TT}{G:TE}(W:X.calm=true)(R:X.N.Nodup)(Y:X.N[i]? = some y)(r:X.env.scope.names.lookup y=some .local)(J:swapsWith (.ListComp l [⟨p,d,j,0⟩] c pos) (some (.Name y w)) n.line X.env=pure true)(Z:PI X p d B)(ok:aaI X.N X.env.scope c own)(hg:∀(s:Aq) (H:Hp) (C:Ag) (cl:List (AW×Ag)) (u:List Ag),PG (X.blk s H c (compEnvC c cl C X.env) u) p g)(ht:∀(s:Aq) (H:Hp) (C:Ag) (cl:List (AW×Ag)) (u:List Ag),PTs (X.blk s H c (compEnvC c cl C X.env) u) j E)(he:∀(s:Aq) (H:Hp) (C:Ag) (cl:List (AW×Ag)) (u:List Ag),PE (X.blk s H c (compEnvC c cl C X.env) u) l G)(hs:∀x,foldedSetIterable d X.env x=pure x:=by intro _;rfl):
  PS X (.Assign [.Name y w] (.ListComp l [⟨p,d,j,0⟩] c pos) n) (aiL (tLc B g E G (own.map (·.2))) (rF i)):=by
 intro pins s σ H D I h;rw[exec_Assign_Name_used _ _ _ _ J];refine Af (GF (Af ?_));show wpAny _ X.A (do let _ <- comprehension (.ListComp l [⟨p,d,j,0⟩] c pos) c X.env (firstIterPos [⟨p,d,j,0⟩] pos) (newList []) false (eval d X.env) (some (assign (.Name y w) X.env))) _ _ s;have h:tLc B g E G (own.map (·.2)) σ H (fun x H1=>rF i x σ H1 D.nx):=h;refine Af (thn (zT (Qf:=fun _ M=>SP X pins D .next M) W R I Z ok hg ht he hs h fun L C M m H' I' q hn f => ?_) fun _ M hq=>A2 (A2 hq));show wpAny _ _ (assign (.Name y w) X.env (.ref L)) _ _ _;refine IL (rX (v:=V.ref L) I' R Y (.inl r) rfl (fun s2 I2 ⟨a,sb,ha⟩ => ?_) (.inr r));obtain⟨f0,S,f2,f3,T,f5⟩:=f;have O:C≠a:=by
  rcases ha with z|z
  ·rw[z];exact S
  ·exact fun e=>T y a z e.symm
 refine⟨m,hn.sameBut sb O,fun h3 P => ?_⟩;exact⟨_,H',I2.turned (t':=s2.toks) (fun b o hb e=>(P.2 b hb).trans e) f0 S f3 T f5,q⟩
end
section
variable{κ:Type}[DecidableEq κ]
noncomputable def iV(a:List (κ×V))(k:κ):Option V:=(a.find? fun b=>decide (b.1=k)).map (·.2)
noncomputable def putK(a:List (κ×V))(k:κ)(v:V):List (κ×V) :=
 if (a.any fun b=>decide (b.1=k))=true then a.map (fun b=>if b.1=k then (b.1,v) else b) else a++[(k,v)]
theorem acx{k:κ}:iV ([]:List (κ×V)) k=none:=rfl
theorem bU{p:κ×V}{r:List (κ×V)}{k:κ}(e:p.1=k):iV (p::r) k=some p.2:=by simp[iV,Cr,e]
theorem bS{p:κ×V}{r:List (κ×V)}{k:κ}(e:¬p.1=k):iV (p::r) k=iV r k:=by simp[iV,Cr,e]
theorem jr(k:κ):∀a:List (κ×V),(a.any fun b=>decide (b.1=k))=(iV a k).isSome
 | []=>rfl
 | p::r=>by
  rw[Ie]
  by_cases e:p.1=k
  ·simp only[bU e,AD e,Ga,Iz]
  ·rw[bS e,AR e,F2];exact jr k r
theorem vO(k j:κ)(y:V):∀a:List (κ×V),iV (a.map fun b=>if b.1=k then (b.1,y) else b) j=(iV a j).map fun x=>if j=k then y else x
 | []=>rfl
 | p::r=>by
  have c:=vO k j y r;rw[AA]
  by_cases h:p.1=k
  ·rw[As h]
   by_cases e:p.1=j
   ·rw[bU (p:=(p.1,y)) e,bU e,FJ,As (e.symm.trans h)]
   ·rw[bS (p:=(p.1,y)) e,bS e,c]
  ·rw[Ar h]
   by_cases e:p.1=j
   ·rw[bU (p:=p) e,bU e,FJ,Ar (fun z=>h (e.trans z))]
   ·rw[bS (p:=p) e,bS e,c]
theorem si(k j:κ)(y:V):∀a:List (κ×V),iV a k=none->iV (a++[(k,y)]) j=if j=k then some y else iV a j
 | [],_=>by
  by_cases e:k=j
  ·rw[As e.symm];exact bU (p:=(k,y)) e
  ·rw[Ar (fun z=>e z.symm)];exact bS (p:=(k,y)) e
 | p::r,hn=>by
  rw[E2];have b:¬p.1=k:=fun z=>by rw[bU z] at hn;cases hn
  rw[bS b] at hn;have c:=si k j y r hn
  by_cases e:p.1=j
  ·rw[bU e,bU e,Ar (fun z=>b (e.trans z))]
  ·rw[bS e,bS e,c]
theorem acn(b:List (κ×V))(k j:κ)(y:V):iV (putK b k y) j=if j=k then some y else iV b j:=by
 unfold putK
 by_cases a:(b.any fun c=>decide (c.1=k))=true
 ·rw[As a,vO]
  rw[jr] at a
  by_cases e:j=k
  ·obtain⟨x,d⟩:=EB.mp a
   rw[As e,e,d,FJ,As rfl]
  ·rw[Ar e]
   cases iV b j with
   | none=>rfl
   | some x=>rw[FJ,Ar e]
 ·rw[Ar a]
  refine si k j y b ?_;rw[jr] at a;cases q:iV b k with
  | none=>rfl
  | some x=>rw[q] at a;exact(a rfl).elim
theorem dW(a:List (κ×V))(k:κ)(v:V):(putK a k v).length<=a.length+1:=by
 unfold putK
 split
 ·rw[Ab];omega
 ·rw[Al,A7,D9];omega
theorem vR{a:List (κ×V)}{k:κ}(v:V)(h:iV a k=none):putK a k v=a++[(k,v)]:=by
 unfold putK;rw[jr,h];exact Ar (by decide)
theorem vc.gG{o:Option V}{u:Option Ai}(r:vc o u):o.isSome=u.isSome:=by
 cases o with
 | none=>cases u with
  | none=>rfl
  | some _=>exact(show False from r).elim
 | some _=>cases u with
  | none=>exact(show False from r).elim
  | some _=>rfl
theorem KV.val{a:List (κ×V)}{vs:List (κ×Ai)}(r:KV a vs)(k:κ):vc (iV a k) (valueAt vs k):=by
 unfold KV at r
 induction r with
 | nil=>exact En
 | @cons p q ps c h t g =>
  obtain⟨f,i⟩:=h
  by_cases e:p.1=k
  ·have d:q.1=k:=f.symm.trans e
   have b:valueAt (q::c) k=some q.2:=by simp[valueAt,Cr,d]
   rw[bU e,b];exact i
  ·have d:¬q.1=k:=fun z=>e (f.trans z)
   have b:valueAt (q::c) k=valueAt c k:=by simp[valueAt,Cr,d]
   rw[bS e,b];exact g
theorem KV.any{a:List (κ×V)}{vs:List (κ×Ai)}(r:KV a vs)(k:κ):(a.any fun b=>decide (b.1=k))=vs.any fun b=>decide (b.1=k):=by
 unfold KV at r
 induction r with
 | nil=>rfl
 | cons h t c=>rw[Ie,Ie,c,h.1]
theorem KV.ah3{b:List (κ×V)}{vs:List (κ×Ai)}(r:KV b vs)(k:κ){y:V}{u:Ai}(d:RelV y u):
  KV (b.map fun a=>if a.1=k then (a.1,y) else a) (vs.map fun a=>if a.1=k then (a.1,u) else a):=by
 unfold KV at r ⊢
 induction r with
 | nil=>exact .nil
 | @cons p q ps i h t f =>
  rw[AA,AA];refine .cons ?_ f;obtain⟨c,g⟩:=h
  by_cases e:p.1=k
  ·rw[As e,As (c.symm.trans e)];exact⟨c,d⟩
  ·rw[Ar e,Ar (fun z=>e (c.trans z))];exact⟨c,g⟩
theorem KV.put{a:List (κ×V)}{vs:List (κ×Ai)}(r:KV a vs)(k:κ){y:V}{u:Ai}(b:RelV y u):KV (putK a k y) (stored vs k u):=by
 unfold putK stored;rw[r.any k]
 by_cases e:(vs.any fun c=>decide (c.1=k))=true
 ·rw[As e,As e];exact r.ah3 k b
 ·rw[Ar e,Ar e];exact KC r ⟨rfl,b⟩
theorem KV.length{a:List (κ×V)}{vs:List (κ×Ai)}(r:KV a vs):a.length=vs.length:=F1 r
end
theorem aaG{P:AI}{w:AZ}{k:Key}{u:Ai}(r:RelV (kV k) u):(bO P w).is k u=true:=by
 cases k with
 | inl i=>obtain⟨t,e⟩:=(show ∃t,u=Ey i t from r);subst e;exact uB P w i t
 | inr x=>obtain⟨t,e⟩:=(show ∃t,u=Jf x t from r);subst e;exact uJ P w x t
theorem rV{P:AI}{w:AZ}:∀{a:List Key}{us:List Ai},Vals (a.map kV) us->ItemsAre (bO P w) a us
 | [],_,r=>by rw[EW] at r;cases r;exact .nil
 | k::a,_,r=>by
  rw[AA] at r;cases r with
  | cons h t=>exact .cons (aaG h) (rV t)
abbrev KT(H:Hp):List (List Key×V)->List (List Key×Ag×Ai)->Prop:=Jg fun p q=>p.1=q.1/\H q.2.1=some (.tup (p.1.map kV))/\RelV p.2 q.2.2
theorem KT.val{H:Hp}{a:List (List Key×V)}{xs:List (List Key×Ag×Ai)}(r:KT H a xs)(k:List Key):vc (iV a k) ((atKey xs k).map (·.2)):=by
 induction r with
 | nil=>exact En
 | @cons p q ps c h t g =>
  obtain⟨f,_,i⟩:=h
  by_cases e:p.1=k
  ·have d:q.1=k:=f.symm.trans e
   have b:atKey (q::c) k=some q.2:=by simp[atKey,Cr,d]
   rw[bU e,b];exact i
  ·have d:¬q.1=k:=fun z=>e (f.trans z)
   have b:atKey (q::c) k=atKey c k:=by simp[atKey,Cr,d]
   rw[bS e,b];exact g
theorem KT.ah3{H:Hp}{a:List (List Key×V)}{xs:List (List Key×Ag×Ai)}(r:KT H a xs)(k:List Key){y:V}{u:Ai}(f:RelV y u):
  KT H (a.map fun c=>if c.1=k then (c.1,y) else c) (xs.map (putAt k u)):=by
 induction r with
 | nil=>exact .nil
 | @cons p q ps j h t g =>
  rw[AA,AA];refine .cons ?_ g;obtain⟨b,d,i⟩:=h;unfold putAt
  by_cases e:p.1=k
  ·rw[As e,As (b.symm.trans e)];exact⟨b,d,f⟩
  ·rw[Ar e,Ar (fun z=>e (b.trans z))];exact⟨b,d,i⟩
theorem KT.put{H:Hp}{a:List (List Key×V)}{xs:List (List Key×Ag×Ai)}(r:KT H a xs)(k:List Key){b:Ag}{y:V}{u:Ai}(d:H b=some (.tup (k.map kV)))(c:RelV y u):
  KT H (putK a k y) (storedH xs k b u):=by
 have e:(a.any fun f=>decide (f.1=k))=(atKey xs k).isSome:=by
  rw[jr,(r.val k).gG,G7]
 unfold putK storedH;rw[e]
 by_cases q:(atKey xs k).isSome=true
 ·rw[As q,As q];exact r.ah3 k c
 ·rw[Ar q,Ar q];exact KC r ⟨rfl,d,c⟩
theorem KT.keeps{H c:Hp}{a:List (List Key×V)}{xs:List (List Key×Ag×Ai)}(r:KT H a xs)(d:∀b ys,H b=some (.tup ys)->c b=some (.tup ys)):KT c a xs :=
 Paired.aiz r fun _ _ z=>⟨z.1,d _ _ z.2.1,z.2.2⟩
section
variable{P:AI}{w:AZ}{H:Hp}{h:B1}{a:Ag}
theorem agW{u:HO}(ok:HOk P w H h)(e:Rd H a u):cf P w H h a u:=e.ok ok
theorem abC{b:List (Key×V)}(ok:HOk P w H h)(e:Rd H a (.dK b)):b.length<=sizeLine/\(a==sysModules)=false/\∃vs,KV b vs/\h.DictOf (bO P w) a vs :=
 show cf P w H h a (.dK b) from agW ok e
theorem ag0{b:List (Key×V)}(ok:HOk P w H h)(e:H a=some (.dK b)):b.length<=sizeLine/\(a==sysModules)=false/\∃vs,KV b vs/\h.DictOf (bO P w) a vs:=abC ok (.inl e)
theorem rQ{b:List Key}(ok:HOk P w H h)(e:H a=some (.tup (b.map kV))):(tupleKind (bO P w)).is h b a:=by
 obtain⟨_,c,r,o,d,f,n,g⟩:=(show cf P w H h a (.tup (b.map kV)) from ok a _ e);exact⟨o,c.toArray,n,d,f,g,by simpa using rV r⟩
theorem aef{b:List (List Key×V)}(ok:HOk P w H h)(e:Rd H a (.dT b)):b.length<=sizeLine/\(a==sysModules)=false /\
  ∃xs,KT H b xs/\h.DictOfH (tupleKind (bO P w)) a xs:=by
 obtain⟨z,y,xs,r,o,g,i,j,n,s,u,v⟩:=(show cf P w H h a (.dT b) from agW ok e);refine⟨z,y,xs,r,o,g,i,j,n,s,u,fun x c => ?_,v⟩;have d:∀{l:List (List Key×V)}{m:List (List Key×Ag×Ai)},KT H l m->∀x∈m,(tupleKind (bO P w)).is h x.1 x.2.1:=by
  intro l m q
  induction q with
  | nil=>intro x c;exact nomatch c
  | @cons p q ps B f t A =>
   intro x c;rcases Am.mp c with e|c
   ·subst e
    exact rQ ok (by rw[<- f.1];exact f.2.1)
   ·exact A x c
 exact d r x c
theorem agN{b:List (List Key×V)}(ok:HOk P w H h)(e:H a=some (.dT b)):b.length<=sizeLine/\(a==sysModules)=false /\
  ∃xs,KT H b xs/\h.DictOfH (tupleKind (bO P w)) a xs:=aef ok (.inl e)
end
def vZ(H:Hp)(a:Ag)(y:V)(r:Option V):Prop :=
 (∃c k,Rd H a (.dK c)/\y=kV k/\r=iV c k)\/∃c k b,Rd H a (.dT c)/\y=.ref b/\H b=some (.tup (k.map kV))/\r=iV c k
def ab4(H:Hp)(a:Ag)(y v:V)(d:Hp):Prop :=
 (∃c k,H a=some (.dK c)/\y=kV k/\c.length<sizeLine/\d=upd H a (.dK (putK c k v))) \/
 ∃c k b,H a=some (.dT c)/\y=.ref b/\H b=some (.tup (k.map kV))/\c.length<sizeLine/\d=upd H a (.dT (putK c k v))
theorem vZ.k{H:Hp}{a:Ag}{b:List (Key×V)}{k:Key}(e:H a=some (.dK b)):vZ H a (kV k) (iV b k):=.inl ⟨b,k,.inl e,rfl,rfl⟩
theorem vZ.t{H:Hp}{a b:Ag}{c:List (List Key×V)}{k:List Key}(e:H a=some (.dT c))(d:H b=some (.tup (k.map kV))):vZ H a (.ref b) (iV c k):=.inr ⟨c,k,b,.inl e,rfl,d,rfl⟩
theorem ab4.k{H:Hp}{a:Ag}{b:List (Key×V)}{k:Key}{v:V}(e:H a=some (.dK b))(c:b.length<sizeLine):ab4 H a (kV k) v (upd H a (.dK (putK b k v))):=.inl ⟨b,k,e,rfl,c,rfl⟩
theorem ab4.t{H:Hp}{a b:Ag}{c:List (List Key×V)}{k:List Key}{v:V}(e:H a=some (.dT c))(d:H b=some (.tup (k.map kV)))(f:c.length<sizeLine):
  ab4 H a (.ref b) v (upd H a (.dT (putK c k v))):=.inr ⟨c,k,b,e,rfl,d,f,rfl⟩
section
variable{X:Cx}{pins:List (Ag×D5)}{σ:St}{H:Hp}{s:Aq}{a:Ag}{y v:V}{u r:Ai}{o:Option V}{A:B7}{E:Ai->Aq->Prop}
theorem Inv.big(I:Inv X pins σ H s):sysModules<s.heap.objs.size:=by
 have h:mainGlobals<s.heap.objs.size:=(I.mod.glob.keeps I.bk).lt;exact Kq (by decide) h
theorem ajX{Q:Ai->Aq->Prop}(p:A.units+1<cLine)(I:Inv X pins σ H s)(g:vZ H a y o)(m:RelV y u)(h:∀n,Inv X pins σ H n->Q (.bool o.isSome) n):
  wpAny (model X.prog X.w) A (compareOp .In u (.ref a)) Q E s:=by
 rcases g with⟨d,k,e,f,l⟩|⟨d,k,b,e,f,B,l⟩
 ·subst f
  obtain⟨z,i,vs,c,j⟩:=abC I.hok e;refine wpAny_in_of (aaG m) i j.mapOf ?_;rw[<- (c.val k).gG,<- l];exact h _ (I.tok _)
 ·subst f
  cases(show u=Bo b from m)
  obtain⟨z,i,xs,c,j⟩:=aef I.hok e;refine wpAny_in_heap (Gn p) (rQ I.hok B) i j ?_;have q:=(c.val k).gG;rw[G7] at q;rw[<- q,<- l];exact h _ (I.tok _)
theorem aex{Q:Ai->Aq->Prop}(p:A.units+1<cLine)(I:Inv X pins σ H s)(g:vZ H a y o)(m:RelV y u)(h:∀n,Inv X pins σ H n->Q (.bool (!o.isSome)) n):
  wpAny (model X.prog X.w) A (compareOp .NotIn u (.ref a)) Q E s:=by
 rcases g with⟨d,k,e,f,l⟩|⟨d,k,b,e,f,B,l⟩
 ·subst f
  obtain⟨z,i,vs,c,j⟩:=abC I.hok e;refine wpAny_notIn_of (aaG m) i j.mapOf ?_;rw[<- (c.val k).gG,<- l];exact h _ (I.tok _)
 ·subst f
  cases(show u=Bo b from m)
  obtain⟨z,i,xs,c,j⟩:=aef I.hok e;refine wpAny_notIn_heap (Gn p) (rQ I.hok B) i j ?_;have q:=(c.val k).gG;rw[G7] at q;rw[<- q,<- l];exact h _ (I.tok _)
theorem pI{h':B1}{t':Nat}{ob:HO}(I:Inv X pins σ H s)(d:Mut (H a))(f:Ez a s.heap h')(he:∃q,h'.get? a=some q)(c:cf X.prog X.w (upd H a ob) h' a ob):
  Inv X pins σ (upd H a ob) { s with heap:=h',toks:=t' } :=
 I.write (x:=a) (e:=a) d (.inl rfl) (fun b q g z=>(f.2 b g).trans z) he c
theorem adA{P:AI}{w:AZ}{d:Hp}{h':B1}{b:List (Key×V)}{vs:List (Key×Ai)}(z:b.length<=sizeLine)(e:(a==sysModules)=false)(c:KV b vs)(f:h'.DictOf (bO P w) a vs):
  cf P w d h' a (.dK b):=⟨z,e,vs,c,f⟩
theorem yA{J:Hp}{Q:Unit->Aq->Prop}(T:A.units+1<cLine)(I:Inv X pins σ H s)(g:ab4 H a y v J)(M:RelV y u)(O:RelV v r)(h:∀P,Inv X pins σ J P->Q () P):
  wpAny (model X.prog X.w) A (setItem (.ref a) u r) Q E s:=by
 rcases g with⟨d,k,e,m,l,n⟩|⟨d,k,b,e,m,R,l,n⟩
 ·subst m n
  obtain⟨z,p,vs,f,B⟩:=ag0 I.hok e;have hz:vs.length<=sizeLine:=by rw[<- f.length];exact z
  have C:(putK d k v).length<=sizeLine:=by have:=dW d k v;omega
  refine wpAny_setItem_pairs (hsz:=hz) (aaG M) B fun h' i G=>h _ ?_;have he:∃q,h'.get? a=some q:=let ⟨q,_,_,j,_⟩:=i;⟨q,j⟩
  exact pI I (by rw[e];exact En) G he (adA C p (f.put k O) i)
 ·subst m n
  cases(show u=Bo b from M)
  obtain⟨z,p,xs,f,B⟩:=agN I.hok e;have hz:xs.length<=sizeLine:=by rw[<- F1 f];exact z
  have C:(putK d k v).length<=sizeLine:=by have:=dW d k v;omega
  refine wpAny_setItem_heap (hsz:=hz) (Gn T) (rQ I.hok R) B fun h' i G=>h _ ?_;obtain⟨q,W,Y,j,Z,h3,h4,_,h5⟩:=i;refine pI I (by rw[e];exact En) G ⟨q,j⟩ ⟨C,p,_,(f.put k R O).keeps fun c ys S => ?_,q,W,Y,j,Z,h3,h4,h5⟩;rw[aw (tS S e (fun z=>nomatch z))];exact S
end
section
variable{X:Cx}{pins:List (Ag×D5)}{σ:St}{H:Hp}{s:Aq}{a:Ag}{kvs:List (Key×V)}{k:Key}{u:Ai}{A:B7}{E:Ai->Aq->Prop}
theorem ahU{Q:Ai->Aq->Prop}(I:Inv X pins σ H s)(e:Rd H a (.dK kvs))(h:∀t c,Inv X pins σ H c->Q (.int kvs.length t) c):wpAny (model X.prog X.w) A (call (.builtin "len") [.ref a]) Q E s:=by
 obtain⟨z,d,vs,b,f⟩:=abC I.hok e;refine call_len_dict d f (by rw[<- b.length];rw[G2] at z;omega) ?_;rw[<- b.length];exact h _ _ (I.tok _)
end
def aj1(c d:TE):TE:=fun σ H Q=>c σ H fun y H1=>d σ H1 fun x b=>∃a o,x=.ref a/\vZ b a y o/\Q (.bl o.isSome) b
def afh(c d:TE):TE:=fun σ H Q=>c σ H fun y H1=>d σ H1 fun x b=>∃a o,x=.ref a/\vZ b a y o/\Q (.bl (!o.isSome)) b
def ah4(c d e:TE):TS:=fun D σ H=>e σ H fun v H1=>c σ H1 fun x f=>d σ f fun y g=>∃a b,x=.ref a/\ab4 g a y v b/\D.nx σ b
section
variable{X:Cx}{o i e value:B9}{pos pos' tpos:Pos}{td ty tv:TE}
theorem ag3(b:X.A.units+1<cLine)(c:PE X i ty)(d:PE X o td):PC X .In i o (aj1 ty td):=by
 intro pins s σ H Q I h;refine thn (c pins s σ H _ I h) fun iv f ⟨y,H1,j,l,m⟩=>thn (d pins f σ H1 _ j m) fun u B ⟨x,n,p,q,a,r,v,g,w⟩ => ?_;subst v;obtain rfl:u=Bo a:=q;exact ajX b p g l fun C z=>⟨.bl r.isSome,n,z,rfl,w⟩
theorem gA(b:X.A.units+1<cLine)(c:PE X i ty)(d:PE X o td):PC X .NotIn i o (afh ty td):=by
 intro pins s σ H Q I h;refine thn (c pins s σ H _ I h) fun iv f ⟨y,H1,j,l,m⟩=>thn (d pins f σ H1 _ j m) fun u B ⟨x,n,p,q,a,r,v,g,w⟩ => ?_;subst v;obtain rfl:u=Bo a:=q;exact aex b p g l fun C z=>⟨.bl (!r.isSome),n,z,rfl,w⟩
theorem uA(b:X.A.units+1<cLine)(c:PE X o td)(d:PE X i ty)(f:PE X value tv)(j:swapsWith value (some (.Subscript o i pos')) pos.line X.env=pure false):
  PS X (.Assign [.Subscript o i pos'] value pos) (ah4 td ty tv):=by
 intro pins s σ H D I h;refine wpAny_Assign_Subscript (thn (f pins s σ H _ I h) fun r l ⟨v,H1,m,n,p⟩=>thn (c pins l σ H1 _ m p) fun u q ⟨x,w,z,B,C⟩=>thn (d pins q σ w _ z C) fun iv R ⟨y,S,E,G,a,J,M,g,O⟩ => ?_) j;subst M;obtain rfl:u=Bo a:=B;exact yA b E g G n fun T P=>⟨σ,J,P,O⟩
end
theorem vm{P:AI}{w:AZ}{H:Hp}(h:B1)(a:sysModules<h.objs.size):cf P w H (h.push { cls:=.type "dict",data:=.dict #[] }) h.objs.size (.dK []) :=
 ⟨AN _,BX.mpr (Ne.symm (Bj a)),[],.nil,J4 h⟩
theorem vY{P:AI}{w:AZ}{H:Hp}(h:B1)(a:sysModules<h.objs.size):cf P w H (h.push { cls:=.type "dict",data:=.dict #[] }) h.objs.size (.dT []) :=
 ⟨AN _,BX.mpr (Ne.symm (Bj a)),[],.nil,_,#[],0,AH _ rfl,⟨rfl,rfl,rfl⟩,rfl,rfl,EZ⟩
def agP:TE:=fun _ H Q=>∀p,H p=none->Q (.ref p) (upd H p (.dK []))
def agz:TE:=fun _ H Q=>∀p,H p=none->Q (.ref p) (upd H p (.dT []))
section
variable{X:Cx}{pos:Pos}
theorem acm:PE X (.Dict [] [] pos) agP:=fun pins s σ H Q I h =>
 Jm ⟨.ref s.heap.objs.size,_,I.laid (a:=s.heap.objs.size) (o:=.dK []) (t':=s.toks) (fun _ _ q=>Ap _ q) (Ak _) (vm s.heap I.big),rfl,h _ (I.hok.fresh (Ak _))⟩
theorem abJ:PE X (.Dict [] [] pos) agz:=fun pins s σ H Q I h =>
 Jm ⟨.ref s.heap.objs.size,_,I.laid (a:=s.heap.objs.size) (o:=.dT []) (t':=s.toks) (fun _ _ q=>Ap _ q) (Ak _) (vY s.heap I.big),rfl,h _ (I.hok.fresh (Ak _))⟩
end
def aaQ:List (TE×TE)->St->Hp->(List (V×V)->Hp->Prop)->Prop
 | [],_,H,Q=>Q [] H
 | (tk,tv)::r,σ,H,Q=>tk σ H fun x H1=>tv σ H1 fun y a=>aaQ r σ a fun ps b=>Q ((x,y)::ps) b
abbrev VV:List (V×V)->List (Ai×Ai)->Prop:=Jg fun p q=>RelV p.1 q.1/\RelV p.2 q.2
def PPs(X:Cx)(pos:Pos)(b:List (Option B9))(a:List B9)(c:List (TE×TE)):Prop :=
 ∀(pins:List (Ag×D5))(s:Aq)(σ:St)(H:Hp)(Q:List (V×V)->Hp->Prop),Inv X pins σ H s->aaQ c σ H Q ->
  wpAny (model X.prog X.w) X.A (evalPairs (pairTrees b a X.env pos)) (fun vs e=>∃ps d,Inv X pins σ d e/\VV ps vs/\Q ps d) X.xe s
theorem aep{X:Cx}{pos:Pos}:PPs X pos [] [] []:=fun pins s σ H Q I h=>pairTrees_nil_walk ⟨[],H,I,.nil,h⟩
theorem abX{X:Cx}{pos:Pos}{k v:B9}{c:List (Option B9)}{vs:List B9}{tk d:TE}{a:List (TE×TE)}(e:PE X k tk)(f:PE X v d)(g:PPs X pos c vs a):
  PPs X pos (some k::c) (v::vs) ((tk,d)::a):=fun pins s σ H Q I h =>
 pairTrees_cons_walk (thn (e pins s σ H _ I h) fun u i ⟨x,H1,j,l,m⟩=>thn (f pins i σ H1 _ j m) fun B n ⟨y,o,p,q,r⟩ =>
  thn (g pins n σ o _ p r) fun ws C ⟨ps,w,z,b,A⟩=>⟨(x,y)::ps,w,z,.cons ⟨l,q⟩ b,A⟩)
noncomputable def oV(b a:List (Key×V)):List (Key×V):=a.foldl (fun acc c=>putK acc c.1 c.2) b
theorem KV.merge:∀{a:List (Key×V)}{c:List (Key×Ai)}{b:List (Key×V)}{vs:List (Key×Ai)},KV a c->KV b vs->KV (oV b a) (merged vs c):=by
 intro a c b vs r;unfold KV at r
 induction r generalizing b vs with
 | nil=>intro q;exact q
 | @cons p q ps g h t d =>
  intro f;have e:KV (putK b p.1 p.2) (stored vs q.1 q.2):=by
   have:=f.put p.1 h.2;rw[<- h.1];exact this
  exact d e
theorem jM:∀(b a:List (Key×V)),(oV a b).length<=a.length+b.length
 | [],a=>by show a.length<=a.length+0;omega
 | p::r,a=>by
  have c:=jM r (putK a p.1 p.2);have d:=dW a p.1 p.2;show(oV (putK a p.1 p.2) r).length<=_;rw[A7];omega
theorem oS{P:AI}{w:AZ}:∀{d:List (Key×V)}{ws:List (Ai×Ai)},VV (d.map fun f=>(kV f.1,f.2)) ws->∃e,Carries (bO P w) ws e/\KV d e
 | [],_,r=>by rw[EW] at r;cases r;exact⟨[],En,.nil⟩
 | p::d,_,r=>by
  rw[AA] at r;cases r with
  | @cons a b as i h t =>
   obtain⟨e,c,q⟩:=oS (P:=P) (w:=w) t;obtain⟨j,g⟩:=b;exact⟨(p.1,g)::e,⟨aaG h.1,rfl,c⟩,.cons ⟨rfl,h.2⟩ q⟩
def ain(b:List (TE×TE)):TE:=fun σ H Q=>∀p,H p=none->aaQ b σ (upd H p (.dK [])) fun ps c=>c p=some (.dK [])/\∃a:List (Key×V),ps=a.map (fun d=>(kV d.1,d.2))/\a.length<=15/\Q (.ref p) (upd c p (.dK (oV [] a)))
theorem aeY{X:Cx}{pos:Pos}{b:List (Option B9)}{d:List B9}{f:List (TE×TE)}(h:PPs X pos b d f)(g:b.all (·.isSome)=true)(p:b.length=d.length)(r:b≠[])(l:b.length<=15):PE X (.Dict b d pos) (ain f):=by
 intro pins s σ H Q I q;have u:=I.hok.fresh (Ak s.heap.objs.size);have v:=I.laid (a:=s.heap.objs.size) (o:=.dK []) (h':=s.heap.push { cls:=.type "dict",data:=.dict #[] }) (t':=s.toks) (fun _ _ q=>Ap _ q) (Ak _) (vm s.heap I.big);refine wpAny_Dict_walk (knd:=bO X.prog X.w) g p r l (thn (h pins _ σ _ _ v (q _ u)) fun ws S ⟨ps,T,n,m,e,i,y,W,A⟩ => ?_);subst y;obtain⟨B,c,C⟩:=oS (P:=X.prog) (w:=X.w) m;obtain⟨z,E,G,J,M⟩:=ag0 n.hok e;cases J
 refine⟨B,c,M,fun h' j O=>⟨.ref s.heap.objs.size,_,?_,rfl,A⟩⟩;have hz:(oV [] i).length<=sizeLine:=by
  have R:=jM i [];rw[D9] at R;rw[G2];omega
 have he:∃q,h'.get? s.heap.objs.size=some q:=let ⟨q,_,_,hq,_⟩:=j;⟨q,hq⟩
 exact pI n (by rw[e];exact En) O he (adA hz E (C.merge .nil) j)
theorem oq:typeLookup (.type "list") "keys" = pure none:=am_miss_of_fast (by first|decide +kernel|rfl)
theorem vM:entryFor table "dict.update.loop" = some Builtin.«dict.update.loop» := entryFor_of_tree (by kernel_rfl)
theorem jE:plainId "dict.update.loop" = true:=by decide +kernel
section
variable{prog:AI}{w:AZ}{A:B7}{E:Ai->Aq->Prop}
theorem zU{s:Aq}{a:Ag}{o:D5}{xs:Array Ai}{k:Nat}{Q:Option Ai->Aq->Prop}(n:s.heap.get? a=some o)(p:o.cls=.type "list")(f:o.data=.seq xs k)(q:o.dict=none)(u:A.handled=none)(h:∀h' tk,(∀b ob,s.heap.get? b=some ob->h'.get? b=some ob)->Q none { s with heap:=h',toks:=tk }):wpAny (model prog w) A (getAttr? (.ref a) "keys") Q E s:=by
 obtain⟨c,v,y,sl⟩:=o;simp only at p f q;subst p f q;obtain⟨z,g,d,tk,B⟩:=s;have r:∀m,(⟨z,g,d,m,B⟩:Aq).TypeIs (.ref a) "list" := fun _=>⟨_,n,rfl⟩;have i:=oq;have j:(["__module__","__name__","__qualname__","__doc__","__annotations__"]:List AW).contains "keys" = false:=by decide +kernel
 have hsz:("keys" : AW).length+100<=sizeLine:=by first|size_fits|decide +kernel
 have C:=sub_AttributeError;have G:=PySem.F.slot_list_getattribute.lookup;have H:=PySem.F.slot_list_getattribute.bind (.ref a);have I:=am_list_getattr_none;unfold getAttr? getAttrBy? getAttrBy
 repeat (any_goals (first|assumption|exact r _|((with_reducible show wpAny _ _ (call (Value.builtin "list.__getattribute__") _ _) _ _ _);refine Iw PySem.F.slot_list_getattribute (r _) am_entry_list_getattribute (PySem.F.args_list_getattribute_2 _ _) (meets_getattribute_miss_list a xs k sl "keys" _ i j hsz) ⟨n,u,fun h' m e l => ?_⟩)|wp_step))
 obtain⟨t',J,he⟩:=l.there;show wpAny _ _ (getattributeRaised _ _ _ _ _ _ _) _ _ _;unfold getattributeRaised
 repeat (any_goals (first|assumption|wp_step))
 all_goals first|exact h _ _ l.keeps|(dsimp only;repeat (any_goals (first|assumption|exact h _ _ l.keeps|wp_step)))
end
section
variable{X:Cx}
theorem t7:∀{ps:List Ag}{us:List Ai},Vals (ps.map V.ref) us->us=ps.map Bo
 | [],us,r=>by
  rw[EW] at r;cases r
  rfl
 | p::ps,us,r=>by
  rw[AA] at r;cases r with
  | cons h t =>
   cases h
   rw[AA,<- t7 t]
end
theorem ot:bootBuiltins "reversed" = some (.type "reversed"):=by decide +kernel
section
variable{X:Cx}{pins:List (Ag×D5)}{σ:St}{H:Hp}{s:Aq}{h':B1}
theorem Inv.aap{t':Nat}{ch:List Ag}(I:Inv X pins σ H s)(k:∀b o,b ∉ ch->s.heap.get? b=some o->h'.get? b=some o)(hf:∀b∈ch,oU X pins H b):Inv X pins σ H { s with heap:=h',toks:=t' }:=by
 have d:∀b u,H b=some u->b ∉ ch:=fun b u e z=>by
  have q:=(hf b z).1;rw[q] at e;cases e
 refine I.step (g':=s.gens) (d':=s.drawn) (ch:=ch) (fun b f=>⟨(hf b f).2.2.2.1,(hf b f).2.1,(hf b f).2.2.2.2.1,(hf b f).2.2.2.2.2⟩) (fun b o _ _ a e _=>k b o a e) (fun b o _ _ a e _=>⟨o.slots,k b o a e⟩)
  (fun _ _ _ _ n=>n) (fun b o a e=>⟨o,k b o a e⟩) (fun _ _ e=>e) (fun _ _ _ e=>e) (fun b ps e=>⟨#[],by rw[e];simp⟩) (fun m g => ?_) (fun b u e => ?_) I.bare
 ·obtain⟨o,i,j,l,r⟩:=g
  exact⟨o,i,j,k _ o (fun z=>(hf _ z).2.1 rfl) l,r⟩
 ·refine(I.hok b u e).x5 (fun c v a q=>k c v ?_ q) (fun _ q=>q) fun _ _ q=>q
  rcases a with z|z
  ·rw[z];exact d b u e
  ·exact d c _ z
theorem Inv.nE{t':Nat}{ch:List Ag}{T:Ag}{ob:HO}(I:Inv X pins σ H s)(k:∀b o,b ∉ ch->s.heap.get? b=some o->h'.get? b=some o)(hf:∀b∈ch,oU X pins H b)(j:s.heap.objs.size<=T)(i:cf X.prog X.w (upd H T ob) h' T ob):Inv X pins σ (upd H T ob) { s with heap:=h',toks:=t' }:=by
 have f:H T=none:=I.hok.fresh j;have g:∀b u,H b=some u->b ∉ ch:=fun b u e z=>by
  have q:=(hf b z).1;rw[q] at e;cases e
 refine I.step (g':=s.gens) (d':=s.drawn) (ch:=ch) (fun b a=>⟨(hf b a).2.2.2.1,(hf b a).2.1,(hf b a).2.2.2.2.1,(hf b a).2.2.2.2.2⟩) (fun b o _ _ d e _=>k b o d e) (fun b o _ _ d e _=>⟨o.slots,k b o d e⟩)
  (fun b o _ e n => ?_) (fun b o d e=>⟨o,k b o d e⟩) (fun b xs e => ?_) (fun b o u e => ?_) (fun b ps e=>⟨#[],?_⟩) (fun m l => ?_) (fun b u e => ?_) I.bare
 ·rw[aw (Bj (AY (AF e) j))];exact n
 ·rw[aw (aB e f)];exact e
 ·rw[aw (aB e f)];exact e
 ·rw[aw (aB e f),e];simp
 ·obtain⟨o,p,y,A,r⟩:=l
  exact⟨o,p,y,k _ o (fun z=>(hf _ z).2.1 rfl) A,r⟩
 ·by_cases a:b=T
  ·subst a
   rw[ag] at e;cases e
   exact i
  ·rw[aw a] at e
   refine(I.hok b u e).x5 (fun c v d q=>k c v ?_ q) (fun c q=>by rw[aw (aB q f)];exact q) fun c xs q=>by rw[aw (aB q f)];exact q
   rcases d with z|z
   ·rw[z];exact g b u e
   ·exact g c _ z
end
section
variable{X:Cx}
theorem adn{a:B9}{pins:List (Ag×D5)}{σ:St}{H:Hp}{s:Aq}{R:It->Hp->Prop}{J:It}{tn:Nat->B1->Prop}{tk:Nat}(I:Inv X pins σ H s)(o:D5)(T:Turn X.prog X.w X.K a J [s.heap.objs.size] s.heap.objs.size tn)(st:tn 0 (s.heap.push o))(q:R J H):PIE X pins σ a R (.ref s.heap.objs.size) { s with heap:=s.heap.push o,toks:=tk }:=by
 refine⟨s.heap.objs.size,[s.heap.objs.size],tn,J,H,rfl,I.kept fun b ob e=>Ap _ e,T,st,fun b c => ?_,q⟩;have e:b=s.heap.objs.size:=by simpa using c
 subst e;exact I.abo (Ak _) (I.hok.fresh (Ak _))
end
noncomputable def Itc(lo c:Int)(n:Nat):It:=⟨fun i _=>i<n,fun i H x a=>a=H/\x=.int (lo+(i:Nat)*c),fun i _=>n<=i⟩
theorem uh{P:AI}{w:AZ}{K:Lf}{B:B9}(it:Ag)(lo c:Int)(n:Nat):Turn P w K B (Itc lo c n) [it] it (fun i h=>HD h it (lo+(i:Nat)*c) ((n:Int)-(i:Nat)) c) where
 mem:=by simp
 obj:=fun i h st b a=>by
  have e:b=it:=by simpa using a
  subst e;exact⟨_,st,fun v z=>nomatch z⟩
 keep:=fun i h h' st k=>k it (by simp) _ st
 item:=by
  intro X f g j l i pins s σ H E I hf st m;subst f g j;obtain⟨p,q,C,r,u,y⟩:=hf it (by simp);have W:=K5 (prog:=X.prog) (w:=X.w) (I.ok.hd l) it lo c n;refine W.item i s _ _ m st fun v h' tk G d J => ?_;obtain⟨t,rfl⟩:=G;have M:Inv X pins σ H { s with heap:=h',toks:=tk }:=I.turned (fun b o a e=>J b o (by simpa using a) e) p q r u y;exact⟨_,rfl,yR (s:={ s with heap:=h',toks:=tk }) (n := "range_iterator") d rfl rfl (by decide) ⟨.int (lo+(i:Nat)*c),H,M,⟨t,rfl⟩,⟨rfl,rfl⟩,d,fun b a=>(hf b a).1⟩⟩
 done:=by
  intro X f g j l i pins s σ H E I hf st m;subst f g j;obtain⟨p,q,C,r,u,y⟩:=hf it (by simp);exact He (I.ok.hd l) st (by have:n<=i:=m;omega) fun h' O=>⟨rfl,I.turned (t':=s.toks) (fun b o a e=>O b o a e) p q r u y⟩
 self:=fun A i s Q E st h=>Hf st h
def RgC(i j c:Int)(n:Nat):Prop:=c≠0/\c.natAbs<1073741824/\CA i j c=true/\By i j c=n
def aiG(a:TA):TI:=fun σ H R=>a σ H fun vs H1=>∃(i j c:Int)(n:Nat),vs=[.int i,.int j,.int c]/\RgC i j c n/\R (Itc i c n) H1
section
variable{X:Cx}{tg:B9}
theorem js{a b c:B9}{u:TA}{p pos:Pos}(v:Gl X "range")(w:X.mg "range" = none)(y:PA X [a,b,c] u)(z:starEach [a,b,c] X.env=(false,eval a X.env)::starEach [b,c] X.env:=by rfl)(g:(backTo pos (starEach [b,c] X.env)).any (·.1)=false:=by rfl):
  PI X tg (.Call (.Name "range" p) [a,b,c] [] pos) (aiG u):=by
 intro pins s σ H R I h;refine K7 (gw I v w Ir (BA (thn (y pos pins s σ H _ I h) fun us f ⟨vs,H1,A,B,C⟩ => ?_) z g));obtain⟨i,j,k,n,e,⟨E,G,J,M⟩,q⟩:=C;subst e;cases B with
 | cons r d =>
  cases d with
  | cons O d =>
   cases d with
   | cons l d =>
    cases d
    obtain⟨t,rfl⟩:=r;obtain⟨t',rfl⟩:=O;obtain⟨m,rfl⟩:=l;refine call_range_3 E ?_ (.inl (PyProof.noPylong_small G));refine Iq (K6 ..) J ?_;have P:Inv X pins σ H1 { f with heap:=f.heap.push { cls:=.type "range",data:=.fields #[.int i t,.int j t',.int k m] } }:=A.kept (t':=f.toks) fun b o e=>Ap _ e;refine adn (tk:=f.toks) P _ (uh _ i k n) ?_ q;have e1:i+((0:Nat):Int)*k=i:=by simp
    have S:(n:Int)-((0:Nat):Int)=By i j k:=by rw[M];simp
    show HD _ _ (i+((0:Nat):Int)*k) ((n:Int)-((0:Nat):Int)) k;rw[e1,S];exact AH _ rfl
end
noncomputable def Itv(K:Lf)(a:Ag)(n:Nat):It :=
 ⟨fun i H=>i<n/\∃(xs:List V)(x:V),SqL K H a xs/\xs[n-1-i]? = some x,fun i H x b=>b=H/\∀xs,SqL K H a xs->xs[n-1-i]? = some x,fun i _=>n<=i⟩
theorem abG{P:AI}{w:AZ}{K:Lf}{T:B9}(a it:Ag)(n:Nat):Turn P w K T (Itv K a n) [it] it (fun i h=>i<=n/\h.IsRevIter it a ((n:Int)-1-(i:Nat))) where
 mem:=by simp
 obj:=fun i h st b g=>by
  have e:b=it:=by simpa using g
  subst e;obtain⟨_,o,e,c,d⟩:=st;exact⟨o,e,fun v z=>by rw[d] at z;cases z⟩
 keep:=fun i h h' st k=>⟨st.1,st.2.at fun o e=>k it (by simp) o e⟩
 item:=by
  intro X m q r O i pins s σ H E I hf st y;subst m q r;obtain⟨l,xs,x,R,S⟩:=y;obtain⟨W,Y,p,hz⟩:=I.list R;obtain⟨u,Z,ru⟩:=Y.get S;obtain⟨B,C,f2,G,J,M⟩:=hf it (by simp);obtain⟨_,f⟩:=st;have e1:(n:Int)-1-((i:Nat):Int)=((n-1-i:Nat):Int):=by omega
  rw[e1] at f;refine wpAny_pyNext_rev_item f p.isList (x:=u) (by simpa using Z) fun h' j sb => ?_;have e2:((n-1-i:Nat):Int)-1=(n:Int)-1-((i+1:Nat):Int):=by omega
  rw[e2] at j;have I1:Inv X pins σ H { s with heap:=h' }:=I.turned (t':=s.toks) (fun b o g e=>(sb.2 b g).trans e) B C G J M;obtain⟨o,e,c,d⟩:=id j;exact⟨u,rfl,yR (s:={ s with heap:=h' }) e c d (by decide) ⟨x,H,I1,ru,⟨rfl,fun ys hy=>by rw[I.jF hy R];exact S⟩,⟨l,j⟩,fun b g=>(hf b g).1⟩⟩
 done:=by
  intro X m q r O i pins s σ H E I hf st y;subst m q r;obtain⟨B,C,f2,G,J,M⟩:=hf it (by simp);obtain⟨l,f⟩:=st;have a0:n<=i:=y;have e1:(n:Int)-1-((i:Nat):Int) = -1:=by omega
  rw[e1] at f;exact wpAny_pyNext_rev_end (I.ok.hd O) f fun h' eb=>⟨rfl,I.turned (t':=s.toks) (fun b o g e=>eb b o g e) B C G J M⟩
 self:=fun A i s Q E st h=>HF st.2 h
def ajH(K:Lf)(b:TA):TI:=fun σ H R=>b σ H fun vs H1=>∃(a:Ag)(xs:List V),vs=[.ref a]/\SqL K H1 a xs/\R (Itv K a xs.length) H1
section
variable{X:Cx}{tg:B9}
theorem tF{e:B9}{c:TA}{p pos:Pos}(f:Gl X "reversed")(g:X.mg "reversed" = none)(j:PA X [e] c)(m:starEach [e] X.env=[(false,eval e X.env)]:=by rfl):PI X tg (.Call (.Name "reversed" p) [e] [] pos) (ajH X.K c):=by
 intro pins s σ H R I h;refine K7 (gw I f g ot (BA (thn (j pos pins s σ H _ I h) fun us n ⟨vs,H1,d,o,u⟩ => ?_) m rfl));obtain⟨a,xs,e,v,q⟩:=u;subst e;cases o with
 | cons r w =>
  cases w
  cases r
  obtain⟨b,y,z,hz⟩:=d.list v;have A:=y.length;have e1:((b.toArray.size:Nat):Int)-1=(xs.length:Int)-1-((0:Nat):Int):=by simp only[A9];omega
  refine call_reversed_list z.isList (HF (l:=a) (i:=((b.toArray.size:Nat):Int)-1) ⟨_,AH _ rfl,rfl,rfl⟩ ?_);refine adn (tk:=n.toks) d _ (abG a _ xs.length) ⟨AN _,?_⟩ q;rw[<- e1];exact⟨_,AH _ rfl,rfl,rfl⟩
end
noncomputable def Ite(K:Lf)(a:Ag):It :=
 ⟨fun i H=>∃(xs:List V)(x:V),SqL K H a xs/\xs[i]? = some x,fun i H v b=>∃T x,v=.ref T/\H T=none/\b=upd H T (.tup [.int (i:Nat),x])/\∀xs,SqL K H a xs->xs[i]? = some x,fun i H=>∃xs:List V,SqL K H a xs/\xs.length<=i⟩
theorem aas{P:AI}{w:AZ}{K:Lf}{j:List B9}{kk:Nat}{l:Pos}(a e it:Ag):
  Turn P w K (.Tuple j kk l) (Ite K a) [e,it] e (fun i h=>(∃c,Kr h e it ((i:Nat):Int) c)/\h.IsListIter it a i/\e≠it) where
 mem:=by simp
 obj:=fun i h st b d=>by
  obtain⟨⟨c,he⟩,⟨o,y,B,hd⟩,_⟩:=st;have C:b=e\/b=it:=by simpa using d
  rcases C with z|z
  ·rw[z];exact⟨_,he,fun v q=>nomatch q⟩
  ·rw[z];exact⟨o,y,fun v q=>by rw[hd] at q;cases q⟩
 keep:=fun i h h' st k=>let ⟨⟨c,he⟩,hi,hne⟩:=st;⟨⟨c,k e (by simp) _ he⟩,hi.at fun o q=>k it (by simp) o q,hne⟩
 item:=by
  intro X G J M B i pins s σ H E I hf st O;subst G J M;obtain⟨⟨c,he⟩,f,hne⟩:=st;obtain⟨xs,x,r,R⟩:=O;obtain⟨S,T,p,hz⟩:=I.list r;obtain⟨u,hu,ru⟩:=T.get R;have m:e<s.heap.objs.size:=AF he;have W:it<s.heap.objs.size:=by obtain⟨_,q,_⟩:=f;exact AF q
  refine wpAny_pyNext_enum_item he f p.isList (x:=u) (by simpa using hu) hne fun h' y n hT hsz hk => ?_;refine⟨_,rfl,Gp (s:={ s with heap:=h',toks:=s.toks+1 }) y fun g Y Z => ?_⟩;have a0:g.get? s.heap.objs.size=some { cls:=.type "tuple",data:=.seq #[.int i s.toks,u] }:=(Z.2 _ (CJ m)).trans hT;have a3:cf X.prog X.w (upd H s.heap.objs.size (.tup [.int (i:Nat),x])) g s.heap.objs.size (.tup [.int (i:Nat),x]) :=
   ⟨by show 2<=sizeLine;decide,[.int i s.toks,u],.cons ⟨_,rfl⟩ (.cons ru .nil),⟨_,a0,rfl,_,rfl⟩⟩
  have I1:Inv X pins σ (upd H s.heap.objs.size (.tup [.int (i:Nat),x])) { s with heap:=g,toks:=s.toks+1 } :=
   I.nE (ch := [e,it]) (fun b ob d q=>(Z.2 b (fun z=>d (by simp[z]))).trans (hk b ob (fun z=>d (by simp[z])) (fun z=>d (by simp[z])) q)) hf (Ak _) a3
  refine⟨.ref s.heap.objs.size,_,I1,rfl,⟨_,x,rfl,I.hok.fresh (Ak _),rfl,fun ys hy=>by rw[I.jF hy r];exact R⟩,⟨⟨u,?_⟩,n.at fun o q=>(Z.2 it (Ne.symm hne)).trans q,hne⟩,fun b d => ?_⟩
  ·have e1:((i+1:Nat):Int)=(i:Int)+1:=by omega
   rw[e1];exact Y
  ·have a4:b<s.heap.objs.size:=by
    have C:b=e\/b=it:=by simpa using d
    rcases C with z|z
    ·rw[z];exact m
    ·rw[z];exact W
   rw[aw (Bj a4)];exact(hf b d).1
 done:=by
  intro X G J M B i pins s σ H E I hf st O;subst G J M;obtain⟨⟨c,he⟩,f,hne⟩:=st;obtain⟨xs,r,R⟩:=O;obtain⟨S,T,p,hz⟩:=I.list r;obtain⟨f0,f1,f2,f3,f4,f5⟩:=hf it (by simp);have hl:=T.length;exact wpAny_pyNext_enum_end (I.ok.hd B) he f p.isList (by simp;omega) fun h' eb=>⟨rfl,I.turned (t':=s.toks) (fun b o d q=>eb b o d q) f0 f1 f3 f4 f5⟩
 self:=fun A i s Q E st h=>let ⟨⟨_,he⟩,_⟩:=st;Fc he h
inductive aiX(K:Lf)(vs:List V)(H:Hp)(R:It->Hp->Prop):Prop
 | mk (a:Ag)(xs:List V)(h1:vs=[.ref a])(h2:SqL K H a xs)(q:R (Ite K a) H)
def aiJ(K:Lf)(a:TA):TI:=fun σ H R=>a σ H fun vs H1=>aiX K vs H1 R
theorem eY{X:Cx}{e:B9}{l:TA}{p pos d:Pos}{f:List B9}{m:Nat}(n:Gl X "enumerate")(o:X.mg "enumerate" = none)(u:PA X [e] l)(v:starEach [e] X.env=[(false,eval e X.env)]:=by rfl):
  PI X (.Tuple f m d) (.Call (.Name "enumerate" p) [e] [] pos) (aiJ X.K l):=by
 intro pins s σ H R I h;refine K7 (gw I n o boot_enumerate (BA (thn (u pos pins s σ H _ I h) fun us c ⟨vs,H1,i,w,y⟩ => ?_) v rfl));obtain⟨a,xs,A,B,q⟩:=y;subst A;cases w with
 | cons r C =>
  cases C
  cases r
  obtain⟨E,S,G,hz⟩:=i.list B;refine call_enumerate_list G.isList fun h' he j hsz J=>Fc he ?_;have M:Inv X pins σ H1 { c with heap:=h' }:=i.kept (t':=c.toks) J;refine⟨c.heap.objs.size+1,[c.heap.objs.size+1,c.heap.objs.size],_,_,H1,rfl,M,aas a (c.heap.objs.size+1) c.heap.objs.size,⟨⟨.none,he⟩,j,Jn _⟩,fun b O => ?_,q⟩;have P:b=c.heap.objs.size+1\/b=c.heap.objs.size:=by simpa using O
  have g:c.heap.objs.size<=b:=by
   rcases P with z|z
   ·rw[z];exact Ft _ _
   ·rw[z];exact Ak _
  exact i.abo g (i.hok.fresh g)
theorem aa2:bootBuiltins "zip" = some (.type "zip"):=by decide +kernel
noncomputable def Itz(K:Lf)(a b:Ag):It :=
 ⟨fun i H=>∃(xs ys:List V)(x y:V),SqL K H a xs/\SqL K H b ys/\xs[i]? = some x/\ys[i]? = some y,
  fun i H v c=>∃T x y,v=.ref T/\H T=none/\c=upd H T (.tup [x,y])/\(∀xs,SqL K H a xs->xs[i]? = some x)/\∀ys,SqL K H b ys->ys[i]? = some y,
  fun i H=>∃xs ys:List V,SqL K H a xs/\SqL K H b ys/\(xs.length<=i\/ys.length<=i)⟩
def ajv(K:Lf)(c:TA):TI:=fun σ H R=>c σ H fun vs H1=>∃a b xs ys,vs=[.ref a,.ref b]/\SqL K H1 a xs/\SqL K H1 b ys/\R (Itz K a b) H1
noncomputable def inClass(s:F6)(j:Nat):Stmt:=match s with
 | .ClassDef _ _ _ a _ _ _ _ _ _ _=>a.getD j (.Pass ⟨0,0,0,0⟩)
 | _=>.Pass ⟨0,0,0,0⟩
noncomputable def dX(s:F6):Arguments:=match s with
 | .FunctionDef _ a _ _ _ _ _ _ _ _=>a
 | _=>{ posonlyargs := [],args := [],vararg:=none,kwonlyargs := [],kw_defaults := [],kwarg:=none,defaults := [] }
noncomputable def bK(s:F6):List Stmt:=match s with
 | .FunctionDef _ _ b _ _ _ _ _ _ _=>b
 | _=>[]
noncomputable def aG(s:F6):Scope:=match s with
 | .FunctionDef _ _ _ _ _ _ a _ _ _=>a
 | _=>{ kind:=.function,names := [],isGenerator:=false,isCoroutine:=false }
abbrev CX0:CXT:=fun _ _ _ _ _ _=>False
abbrev E0:XK:=fun _ _ _=>False
theorem sf{X:Cx}:Passes CX0 X E0:=fun _ _ _ _ _ _ _ h=>h.elim
structure Fun(K:Lf)(x qual:AW)(st:F6)(f:Ag)(fd:DE):Prop where
 ex:∃(oc:Ai)(od:Option Ag)(kV doc pm:Ai)(an:Option Ag)(cdv ct:Ai)(osl:Array (Option Ai)),
  fd=Cq x qual (dX st) (bK st) (aG st) .none kV doc pm an cdv ct/\K.lookup f=some ⟨oc,od,.func fd,osl⟩/\DO K cdv qual=true
 kp:Cb K (.ref f)=true
section
variable{P:AI}{w:AZ}{K:Lf}{mg:Lg}{base:B1}
theorem Fun.ok{x b:AW}{st:F6}{f:Ag}{i:DE}{N ps:List AW}{k:Nat}{sp:Sp}(F:Fun K x b st f i)(S:bD N ps (aG st))(d:∀vs H Q E,sp vs H Q E->vs.length=ps.length)(j:∀(c:Ai) (A:B7) (a:List Ib) (s:Aq) (H:Hp) (vs:List V) (Q:VK) (E:XK),fD k (A.deeper (envOfC b (aG st) s.heap.objs.size f c))->sp vs H Q E ->
   ∃t,PSs (xB CX0 P w K mg base N b (aG st) f c A a s H E).nox (bK st) t/\t { nx:=fun _ l=>Q .non l,rt:=Q } (start N vs) H):n8 P w K mg base CX0 (k+1) f i ps sp:=by
 obtain⟨r,u,kV,m,v,y,c,z,n,rfl,o,e⟩:=F.ex;refine agh o e S d fun A a s H vs Q E p g => ?_;obtain⟨t,h,q⟩:=j c A a s H vs Q E p g;exact⟨t,h.nox,q⟩
theorem Fun.binds{x a:AW}{st:F6}{f:Ag}{i:DE}{ps:List AW}(F:Fun K x a st f i)(h:∀(kV b d:Ai) (e:Option Ag) (c g:Ai) (us:List Ai),us.length=ps.length->bindArgs (Cq x a (dX st) (bK st) (aG st) .none kV b d e c g) ⟨us,[]⟩=pure (ps.zip us)):Binds K i ps []:=by
 obtain⟨m,n,kV,b,d,e,c,g,j,rfl,o,l⟩:=F.ex;exact .all (h kV b d e c g)
theorem mZ{x a:AW}{st:F6}{f:Ag}{m:Ai}{n g:Option Ag}{e:Array (Option Ai)}{kV d i b j:Ai}(l:K.lookup f=some ⟨m,n,.func (Cq x a (dX st) (bK st) (aG st) .none kV d i g b j),e⟩)(c:DO K b a=true)(k:Cb K (.ref f)=true):Fun K x a st f (Cq x a (dX st) (bK st) (aG st) .none kV d i g b j):=⟨⟨m,n,kV,d,i,g,b,j,e,rfl,l,c⟩,k⟩
end
theorem rZ{A:B7}{k:Nat}(a:fD k A):A.units+1<cLine:=I0 (Nat.add_le_add_left (by decide:1<=64) _) a.units
section
variable{X:Cx}
theorem pv(i:Nat){x:AW}{pos:Pos}(b:X.N[i]? = some x:=by rfl)(c:Vis X.env.scope x:=by first|exact IA rfl|exact KQ (IA rfl)|exact KQ (KQ rfl))(d:(x==("__debug__" : AW))=false:=by decide)(a:(x==("__classdict__" : AW))=false:=by decide):PE X (.Name x pos) (qd i):=ahA b c d a
theorem rT:nO X (.builtin "len") (fun xs H Q=>∃a b,xs=[V.ref a]/\H a=some (.dK b)/\Q (.int b.length) H):=by
 intro pins s σ H xs us Q I r h;obtain⟨a,b,rfl,c,q⟩:=h;obtain⟨u,rfl,d⟩:=vals1 r;cases d
 exact ahU I (.inl c) fun t f e=>⟨.int b.length,H,e,⟨t,rfl⟩,q⟩
end
theorem jt{A B:Prop}(h:B):if false=true then A else B:=by
 rw[Ar AS];exact h
theorem jO{A B:Prop}(h:A):if true=true then A else B:=by
 rw[As rfl];exact h
theorem bX{c A B:Prop}[Decidable c](a:c->A)(b:¬c->B):if c then A else B:=by
 by_cases h:c
 ·rw[As h]
  exact a h
 ·rw[Ar h]
  exact b h
def aM(H a:Hp):Prop:=∀b o,H b=some o->a b=some o
theorem aM.refl(H:Hp):aM H H:=fun _ _ h=>h
theorem aM.trans{H H1 d:Hp}(a:aM H H1)(b:aM H1 d):aM H d:=fun c o h=>b c o (a c o h)
theorem aM.free{H a:Hp}(e:aM H a){l:Ag}(h:a l=AK):H l=Option.none:=by
 cases q:H l with
 | none=>rfl
 | some o =>
  rw[e l o q] at h;cases h
theorem aM.seq{K:Lf}{H b:Hp}{a:Ag}{xs:List V}(e:aM H b)(h:SqL K H a xs):SqL K b a xs:=by
 rcases h with(h|⟨o,h⟩)|h
 ·exact .inl (.inl (e _ _ h))
 ·exact .inl (.inr ⟨o,e _ _ h⟩)
 ·exact .inr h
section
variable{κ:Type}[DecidableEq κ]
theorem tV:∀{l:List κ}{k:κ},l.Nodup->¬k∈l->(l++[k]).Nodup
 | [],k,_,_=>by simp
 | a::r,k,h,hk=>by
  obtain⟨b,c⟩:=Bx.mp h;show(a::(r++[k])).Nodup;refine Bx.mpr ⟨fun m => ?_,tV c fun m=>hk (Am.mpr (KQ m))⟩;rcases A4.mp m with q|q
  ·exact b q
  ·exact hk (Am.mpr (IA (Ao.mp q).symm))
end
theorem aim{α:Type}{l:List α}(c:l.Nodup){i j:Nat}{x:α}(a:l[i]? = some x)(b:l[j]? = some x):i=j:=by
 obtain⟨e,e1⟩:=Aj.mp a;obtain⟨f,d⟩:=Aj.mp b;exact(Jh c).mp (e1.trans d.symm)
end L2
section
namespace L2
open PySem PySem.Spec PyProof.Rows
open PySem.W (WData Codec OpenSpec Well WellAll ReadsW ReadsAllW)
mutual
inductive Dw(K:Lf)(H:Hp):V->WData->Prop
 | non:Dw K H .non .none
 | bl (b:Bool):Dw K H (.bl b) (.bool b)
 | int (i:Int):Dw K H (.int i) (.int i)
 | str (x:AW):Dw K H (.str x) (.str x)
 | byt (b:Array UInt8):Dw K H (.byt b) (.bytes b.toList)
 | lst {a:Ag} {xs:List V} {ds:List WData}:SqL K H a xs->kL K H xs ds->Dw K H (.ref a) (.list ds)
 | tup {a:Ag} {xs:List V} {ds:List WData}:SqT K H a xs->kL K H xs ds->Dw K H (.ref a) (.tuple ds)
inductive kL(K:Lf)(H:Hp):List V->List WData->Prop
 | nil:kL K H [] []
 | cons {v:V} {vs:List V} {d:WData} {ds:List WData}:Dw K H v d->kL K H vs ds->kL K H (v::vs) (d::ds)
end
theorem aaJ{K:Lf}{H:Hp}:∀a:List Int,kL K H (a.map V.int) (a.map WData.int)
 | []=>.nil
 | n::r=>.cons (.int n) (aaJ r)
theorem tI{K:Lf}{H:Hp}:∀(a:List Int)(xs:List V),kL K H xs (a.map WData.int)->xs=a.map V.int
 | [],xs,h=>by
  cases h
  rfl
 | n::r,xs,h=>by
  cases h with
  | cons b c =>
   cases b
   rw[tI r _ c] <;> rfl
section
variable{P:AI}{w:AZ}{K:Lf}{H:Hp}{h:B1}{R:Jo}{cl:AW->Option Ag}
theorem ahh{a:Ag}{xs:List V}(c:HOk P w H h)(f:K.In h)(q:SqL K H a xs):∃(b:List Ai)(o:D5)(n:Nat),Vals xs b/\h.get? a=some o/\o.cls=.type "list" /\ o.data=.seq b.toArray n:=by
 rcases q with q|⟨o,b,n,e,g,_,i,_,d⟩
 ·obtain⟨_,b,n,d,e⟩:=(show cf P w H h a (.lst xs) from q.ok c)
  exact⟨b,_,n,d,e,rfl,rfl⟩
 ·exact⟨b.toList,o,n,d,f _ _ e,g,by simp[i]⟩
theorem agC{a:Ag}{xs:List V}(c:HOk P w H h)(i:K.In h)(q:SqT K H a xs):∃(b:List Ai)(o:D5)(n:Nat),Vals xs b/\h.get? a=some o/\o.cls=.type "tuple" /\ o.data=.seq b.toArray n:=by
 rcases q with q|⟨o,b,n,e,d,f,_,g⟩
 ·obtain⟨_,b,g,o,e,d,n,f⟩:=(show cf P w H h a (.tup xs) from q.ok c)
  exact⟨b,o,n,g,e,d,f⟩
 ·exact⟨b.toList,o,n,g,i _ _ e,d,by simp[f]⟩
mutual
theorem Dw.reads(a:HOk P w H h)(e:K.In h):∀(d:WData)(v:V)(u:Ai),Dw K H v d->RelV v u->∃as,ReadsW R cl h u d as
 | .none,_,_,x,r=>by
  cases x
  cases r
  exact⟨_,ReadsW.none⟩
 | .bool b,_,_,x,r=>by
  cases x
  cases r
  exact⟨_,ReadsW.bool b⟩
 | .int i,_,_,x,r=>by
  cases x
  obtain⟨t,rfl⟩:=r;exact⟨_,ReadsW.int i t⟩
 | .str s,_,_,x,r=>by
  cases x
  obtain⟨t,rfl⟩:=r;exact⟨_,ReadsW.str s t⟩
 | .bytes b,_,_,x,r=>by
  cases x
  obtain⟨t,rfl⟩:=r;exact⟨_,ReadsW.bytes _ t⟩
 | .list ds,_,_,x,r=>by
  cases x with
  | lst f g =>
   cases r
   obtain⟨c,o,n,j,l,m,p⟩:=ahh a e f;obtain⟨as,q⟩:=Dw.readsAll a e ds _ c g j;exact⟨_,ReadsW.list l m p q⟩
 | .tuple ds,_,_,x,r=>by
  cases x with
  | tup f g =>
   cases r
   obtain⟨c,o,n,j,l,m,p⟩:=agC a e f;obtain⟨as,q⟩:=Dw.readsAll a e ds _ c g j;exact⟨_,ReadsW.tuple l m p q⟩
 | .float _,_,_,x,_=>by cases x
 | .dict _,_,_,x,_=>by cases x
 | .bytearray _,_,_,x,_=>by cases x
 | .set _,_,_,x,_=>by cases x
 | .frozenset _,_,_,x,_=>by cases x
 | .obj _ _,_,_,x,_=>by cases x
theorem Dw.readsAll(a:HOk P w H h)(c:K.In h):∀(b:List WData)(vs:List V)(us:List Ai),kL K H vs b->Vals vs us->∃as,ReadsAllW R cl h us b as
 | [],_,_,x,r=>by
  cases x
  cases r
  exact⟨_,ReadsAllW.nil⟩
 | d::b,_,_,x,r=>by
  cases x with
  | cons e f =>
   cases r with
   | cons g i =>
    obtain⟨as,j⟩:=Dw.reads a c d _ _ e g;obtain⟨m,l⟩:=Dw.readsAll a c b _ _ f i;exact⟨_,ReadsAllW.cons j l⟩
end
end
mutual
noncomputable def plW:WData->Bool
 | .none=>true
 | .bool _=>true
 | .int _=>true
 | .str _=>true
 | .bytes _=>true
 | .list xs=>xV xs
 | .tuple xs=>xV xs
 | _=>false
noncomputable def xV:List WData->Bool
 | []=>true
 | x::r=>plW x&&xV r
end
theorem vx{α:Type}{f:α->WData}(h:∀a,plW (f a)=true):∀l:List α,xV (l.map f)=true
 | []=>rfl
 | x::r=>by
  show(plW (f x)&&xV (r.map f))=true;rw[h x,vx h r] <;> rfl
theorem lu:∀(c:Codec)(a:c.denote),plW (c.enc a)=true
 | .unit,_=>rfl
 | .bool,_=>rfl
 | .int _ _,_=>rfl
 | .nat _ _,_=>rfl
 | .u8,_=>rfl
 | .bytes _ _,_=>rfl
 | .text _ _ _ _,_=>rfl
 | .list _ _ c,a=>vx (fun x=>lu c x) a
 | .pair c d,a=>by
  show(plW (c.enc a.1)&&(plW (d.enc a.2)&&true))=true;rw[lu c a.1,lu d a.2] <;> rfl
 | .triple c d e,a=>by
  show(plW (c.enc a.1)&&(plW (d.enc a.2.1)&&(plW (e.enc a.2.2)&&true)))=true;rw[lu c a.1,lu d a.2.1,lu e a.2.2] <;> rfl
 | .option c,none=>rfl
 | .option c,some x=>lu c x
theorem sN:∀(b:List Codec)(a:Hs b),xV (Gb b a)=true
 | [],_=>rfl
 | c::b,a=>by
  show(plW (c.enc a.1)&&xV (Gb b a.2))=true;rw[lu c a.1,sN b a.2] <;> rfl
theorem kI:∀{xs:List WData}{d:WData},d∈xs->d.weight<=FK xs
 | [],d,h=>absurd h (by simp)
 | x::r,d,h=>by
  show d.weight<=x.weight+1+FK r;rcases Am.mp h with e|m
  ·rw[e]
   omega
  ·have z:=kI m
   omega
noncomputable def toV:Ai->V
 | .none=>.non
 | .bool b=>.bl b
 | .int i _=>.int i
 | .str x _=>.str x
 | .bytes b _=>.byt b
 | .ref a=>.ref a
 | _=>.non
def OkU(A:List Ag):Ai->Prop
 | .none=>True
 | .bool _=>True
 | .int _ _=>True
 | .str _ _=>True
 | .bytes _ _=>True
 | .ref a=>a∈A
 | _=>False
theorem OkU.mono{A B:List Ag}(h:∀a∈A,a∈B):∀{u:Ai},OkU A u->OkU B u:=fun{u} x=>by
 cases u with
 | ref a=>exact h a x
 | none=>trivial
 | bool b=>trivial
 | int i t=>trivial
 | str s t=>trivial
 | bytes b t=>trivial
 | _=>exact Ck x
theorem acI{A:List Ag}{u:Ai}(x:OkU A u):RelV (toV u) u:=by
 cases u with
 | ref a=>rfl
 | none=>rfl
 | bool b=>rfl
 | int i t=>exact⟨t,rfl⟩
 | str s t=>exact⟨t,rfl⟩
 | bytes b t=>exact⟨t,rfl⟩
 | _=>exact Ck x
theorem iC{A:List Ag}:∀{vs:List Ai},(∀u∈vs,OkU A u)->Vals (vs.map toV) vs
 | [],_=>.nil
 | u::r,h=>.cons (acI (h u (Ad ..))) (iC fun x a=>h x (Ac _ a))
def lL(h:B1)(A:List Ag)(a:Ag):Prop:=∃vs:List Ai,vs.length<=sizeLine/\(∀u∈vs,OkU A u) /\
 (h.get? a=some { cls:=.type "list",data:=.seq vs.toArray }\/h.get? a=some { cls:=.type "tuple",data:=.seq vs.toArray })
theorem lL.mono{h:B1}{A B:List Ag}{a:Ag}(k:∀a∈A,a∈B)(x:lL h A a):lL h B a:=by
 obtain⟨vs,b,c,d⟩:=x;exact⟨vs,b,fun u e=>(c u e).mono k,d⟩
theorem fN{P:IB}{h:B1}:∀{vs:List Ai}{a:List WData},WellAll P h vs a->vs.length=a.length
 | _,_,.nil=>rfl
 | _,_,.cons _ b=>by
  show _+1=_+1;rw[fN b]
theorem rO{P:IB}{h:B1}{v:Ai}{c:List WData}(x:Well P h v (.list c)):∃(a:Ag)(vs:List Ai),v=.ref a/\h.get? a=some { cls:=.type "list",data:=.seq vs.toArray }/\WellAll P h vs c:=by
 cases x with
 | list d b=>exact⟨_,_,rfl,d,b⟩
theorem oX{P:IB}{h:B1}{v:Ai}{c:List WData}(x:Well P h v (.tuple c)):∃(a:Ag)(vs:List Ai),v=.ref a/\h.get? a=some { cls:=.type "tuple",data:=.seq vs.toArray }/\WellAll P h vs c:=by
 cases x with
 | tuple d b=>exact⟨_,_,rfl,d,b⟩
theorem rR{P:IB}{h:B1}{us:List Ai}{d:WData}{c:List WData}(x:WellAll P h us (d::c)):∃(v:Ai)(vs:List Ai),us=v::vs/\Well P h v d/\WellAll P h vs c:=by
 cases x with
 | cons a b=>exact⟨_,_,rfl,a,b⟩
theorem aaM{n:Nat}(h:n<=1048576):n<=sizeLine:=Br h (by decide)
section
variable{P:IB}{h:B1}
mutual
theorem aci:∀(d:WData)(v:Ai),Well P h v d->plW d=true->d.weight<=1048576->∃A:List Ag,OkU A v/\∀a∈A,lL h A a
 | .none,_,x,_,_=>by
  cases x
  exact⟨[],trivial,fun a m=>absurd m (by simp)⟩
 | .bool b,_,x,_,_=>by
  cases x
  exact⟨[],trivial,fun a m=>absurd m (by simp)⟩
 | .int i,_,x,_,_=>by
  cases x
  exact⟨[],trivial,fun a m=>absurd m (by simp)⟩
 | .str s,_,x,_,_=>by
  cases x
  exact⟨[],trivial,fun a m=>absurd m (by simp)⟩
 | .bytes b,_,x,_,_=>by
  cases x
  exact⟨[],trivial,fun a m=>absurd m (by simp)⟩
 | .list ds,_,x,p,z=>by
  obtain⟨a,vs,rfl,j,c⟩:=rO x;have g:FK ds<=1048576:=z;obtain⟨A,l,n⟩:=lS ds _ c p fun d o=>Br (kI o) g;have k:∀b∈A,b∈a::A:=fun b f=>Ac _ f;refine⟨a::A,Ad ..,fun b f => ?_⟩;rcases Am.mp f with e|m
  ·rw[e]
   exact⟨vs,aaM (by rw[fN c];exact Br (FL ds) g),fun u q=>(l u q).mono k,.inl j⟩
  ·exact(n b m).mono k
 | .tuple ds,_,x,p,z=>by
  obtain⟨a,vs,rfl,j,c⟩:=oX x;have g:FK ds<=1048576:=z;obtain⟨A,l,n⟩:=lS ds _ c p fun d o=>Br (kI o) g;have k:∀b∈A,b∈a::A:=fun b f=>Ac _ f;refine⟨a::A,Ad ..,fun b f => ?_⟩;rcases Am.mp f with e|m
  ·rw[e]
   exact⟨vs,aaM (by rw[fN c];exact Br (FL ds) g),fun u q=>(l u q).mono k,.inr j⟩
  ·exact(n b m).mono k
 | .float _,_,_,p,_=>Bu (show false=true from p)
 | .dict _,_,_,p,_=>Bu (show false=true from p)
 | .bytearray _,_,_,p,_=>Bu (show false=true from p)
 | .set _,_,_,p,_=>Bu (show false=true from p)
 | .frozenset _,_,_,p,_=>Bu (show false=true from p)
 | .obj _ _,_,_,p,_=>Bu (show false=true from p)
theorem lS:∀(c:List WData)(vs:List Ai),WellAll P h vs c->xV c=true->(∀d∈c,d.weight<=1048576)->∃A:List Ag,(∀u∈vs,OkU A u)/\∀a∈A,lL h A a
 | [],_,x,_,_=>by
  cases x
  exact⟨[],fun u m=>absurd m (by simp),fun a m=>absurd m (by simp)⟩
 | d::c,_,x,p,z=>by
  obtain⟨v,vs,rfl,j,l⟩:=rR x;have q:plW d=true/\xV c=true:=HG.mp p;obtain⟨A,n,o⟩:=aci d v j q.1 (z d (Ad ..));obtain⟨B,r,s⟩:=lS c vs l q.2 fun e he=>z e (Ac _ he);have g:∀b∈A,b∈A++B:=fun b f=>A4.mpr (.inl f);have i:∀b∈B,b∈A++B:=fun b f=>A4.mpr (.inr f);refine⟨A++B,fun u w => ?_,fun b f => ?_⟩
  ·rcases Am.mp w with e|m
   ·rw[e]
    exact n.mono g
   ·exact(r u m).mono i
  ·rcases A4.mp f with m|m
   ·exact(o b m).mono g
   ·exact(s b m).mono i
end
end
noncomputable def ahJ(o:D5):Option HO:=match o.data with
 | .seq vs _=>if (o.cls==Dx "list")=true then some (.frz o (.lst (vs.toList.map toV))) else some (.frz o (.tup (vs.toList.map toV)))
 | _=>none
noncomputable def n9(K:Lf)(h:B1)(A:List Ag):Hp:=fun b=>if b∈A then (if (K.lookup b).isNone=true then (h.get? b).bind ahJ else none) else none
def agA(H:Hp):Prop:=∀b,H b=none\/∃o u,H b=some (.frz o u)
theorem wA(vs:List Ai):ahJ { cls:=.type "list",data:=.seq vs.toArray }=some (.frz { cls:=.type "list",data:=.seq vs.toArray } (.lst (vs.map toV))):=by
 show(if (Dx "list" == Dx "list")=true then some (HO.frz { cls:=.type "list",data:=.seq vs.toArray } (.lst (vs.toArray.toList.map toV))) else some (HO.frz { cls:=.type "list",data:=.seq vs.toArray } (.tup (vs.toArray.toList.map toV))))=_;rw[As (E3 _)]
theorem wc(vs:List Ai):ahJ { cls:=.type "tuple",data:=.seq vs.toArray }=some (.frz { cls:=.type "tuple",data:=.seq vs.toArray } (.tup (vs.map toV))):=by
 show(if (Dx "tuple" == Dx "list")=true then some (HO.frz { cls:=.type "tuple",data:=.seq vs.toArray } (.lst (vs.toArray.toList.map toV))) else some (HO.frz { cls:=.type "tuple",data:=.seq vs.toArray } (.tup (vs.toArray.toList.map toV))))=_;rw[Ar (by decide)]
section
variable{P:AI}{w:AZ}{K:Lf}{h:B1}{A:List Ag}
theorem qm{b:Ag}{o:D5}(a:b∈A)(c:K.lookup b=none)(e:h.get? b=some o):n9 K h A b=ahJ o:=by
 unfold n9;rw[As a,c,As (show(none:Option D5).isNone=true from rfl),e] <;> rfl
theorem aeN{b:Ag}{u:HO}(q:n9 K h A b=some u):b∈A/\K.lookup b=none:=by
 unfold n9 at q
 by_cases hb:b∈A
 ·rw[As hb] at q
  cases hk:K.lookup b with
  | none=>exact⟨hb,rfl⟩
  | some o =>
   rw[hk,Ar (by simp)] at q;cases q
 ·rw[Ar hb] at q
  cases q
theorem mL(ar:∀a∈A,lL h A a){b:Ag}{u:HO}(q:n9 K h A b=some u):K.lookup b=none/\∃vs:List Ai,vs.length<=sizeLine/\(∀u∈vs,OkU A u) /\
  ((h.get? b=some { cls:=.type "list",data:=.seq vs.toArray }/\u=.frz { cls:=.type "list",data:=.seq vs.toArray } (.lst (vs.map toV))) \/
   (h.get? b=some { cls:=.type "tuple",data:=.seq vs.toArray }/\u=.frz { cls:=.type "tuple",data:=.seq vs.toArray } (.tup (vs.map toV)))):=by
 obtain⟨c,d⟩:=aeN q;obtain⟨vs,f,g,i⟩:=ar b c;refine⟨d,vs,f,g,?_⟩;rcases i with e|e
 ·rw[qm c d e,wA] at q
  exact .inl ⟨e,(Ah q).symm⟩
 ·rw[qm c d e,wc] at q
  exact .inr ⟨e,(Ah q).symm⟩
theorem zC(ar:∀a∈A,lL h A a):agA (n9 K h A):=fun b=>by
 cases q:n9 K h A b with
 | none=>exact .inl rfl
 | some u =>
  obtain⟨_,vs,_,_,⟨_,e⟩|⟨_,e⟩⟩:=mL ar q
  ·exact .inr ⟨_,_,by rw[e]⟩
  ·exact .inr ⟨_,_,by rw[e]⟩
theorem aeM(ar:∀a∈A,lL h A a):HOk P w (n9 K h A) h:=fun b u q=>by
 obtain⟨_,vs,c,d,⟨e,rfl⟩|⟨e,rfl⟩⟩:=mL ar q
 ·exact⟨e,by rw[Ab];exact c,vs,_,iC d,e⟩
 ·exact⟨e,by rw[Ab];exact c,vs,iC d,_,e,rfl,_,rfl⟩
theorem qD{c c':Ai}{vs us:List Ai}(e:(some { cls:=c,data:=.seq vs.toArray }:Option D5)=some { cls:=c',data:=.seq us.toArray }):c=c'/\vs=us:=by
 have e1:=Ah e;have a:c=c':=B2 Obj.cls e1;have b:JL vs.toArray=JL us.toArray:=B2 Obj.data e1;injection b with e4
 refine⟨a,?_⟩;have d:=B2 IK e4
 simpa using d
theorem ajI(f:K.In h)(ar:∀a∈A,lL h A a){a:Ag}{vs:List Ai}(b:a∈A)(e:h.get? a=some { cls:=.type "list",data:=.seq vs.toArray }):(∀u∈vs,OkU A u)/\SqL K (n9 K h A) a (vs.map toV):=by
 obtain⟨us,g,c,i⟩:=ar a b;have j:us=vs:=by
  rcases i with q|q
  ·rw[e] at q
   exact(qD q).2.symm
  ·rw[e] at q
   exact absurd (Es (qD q).1) (by decide)
 subst j;refine⟨c,?_⟩;cases hk:K.lookup a with
 | none=>exact .inl (.inr ⟨_,by rw[qm b hk e,wA]⟩)
 | some o =>
  have d:=f a o hk;rw[e] at d;obtain rfl:=Ah d;exact .inr ⟨_,us.toArray,_,hk,rfl,rfl,rfl,by rw[A9];exact g,by simpa using iC c⟩
theorem ajw(f:K.In h)(ar:∀a∈A,lL h A a){a:Ag}{vs:List Ai}(b:a∈A)(e:h.get? a=some { cls:=.type "tuple",data:=.seq vs.toArray }):(∀u∈vs,OkU A u)/\SqT K (n9 K h A) a (vs.map toV):=by
 obtain⟨us,g,c,i⟩:=ar a b;have j:us=vs:=by
  rcases i with q|q
  ·rw[e] at q
   exact absurd (Es (qD q).1) (by decide)
  ·rw[e] at q
   exact(qD q).2.symm
 subst j;refine⟨c,?_⟩;cases hk:K.lookup a with
 | none=>exact .inl (.inr ⟨_,by rw[qm b hk e,wc]⟩)
 | some o =>
  have d:=f a o hk;rw[e] at d;obtain rfl:=Ah d;exact .inr ⟨_,us.toArray,_,hk,rfl,rfl,by rw[A9];exact g,by simpa using iC c⟩
mutual
theorem af0{Pm:IB}(e:K.In h)(ar:∀a∈A,lL h A a):∀(d:WData)(v:Ai),Well Pm h v d->plW d=true->OkU A v->Dw K (n9 K h A) (toV v) d
 | .none,_,x,_,_=>by
  cases x
  exact .non
 | .bool b,_,x,_,_=>by
  cases x
  exact .bl b
 | .int i,_,x,_,_=>by
  cases x
  exact .int i
 | .str s,_,x,_,_=>by
  cases x
  exact .str s
 | .bytes b,_,x,_,_=>by
  cases x
  have z:=Dw.byt (K:=K) (H:=n9 K h A) b.toArray;exact z
 | .list ds,_,x,p,hu=>by
  obtain⟨a,vs,rfl,f,c⟩:=rO x;obtain⟨g,j⟩:=ajI e ar hu f;exact .lst j (wz e ar ds _ c p g)
 | .tuple ds,_,x,p,hu=>by
  obtain⟨a,vs,rfl,f,c⟩:=oX x;obtain⟨g,j⟩:=ajw e ar hu f;exact .tup j (wz e ar ds _ c p g)
 | .float _,_,_,p,_=>Bu (show false=true from p)
 | .dict _,_,_,p,_=>Bu (show false=true from p)
 | .bytearray _,_,_,p,_=>Bu (show false=true from p)
 | .set _,_,_,p,_=>Bu (show false=true from p)
 | .frozenset _,_,_,p,_=>Bu (show false=true from p)
 | .obj _ _,_,_,p,_=>Bu (show false=true from p)
theorem wz{Pm:IB}(c:K.In h)(ar:∀a∈A,lL h A a):∀(b:List WData)(vs:List Ai),WellAll Pm h vs b->xV b=true->(∀u∈vs,OkU A u)->kL K (n9 K h A) (vs.map toV) b
 | [],_,x,_,_=>by
  cases x
  exact .nil
 | d::b,_,x,p,hu=>by
  obtain⟨v,vs,rfl,e,f⟩:=rR x;have q:plW d=true/\xV b=true:=HG.mp p;exact .cons (af0 c ar d v e q.1 (hu _ (Ad ..))) (wz c ar b vs f q.2 fun u m=>hu u (Ac _ m))
end
end
theorem oE{a:List WData}(h:WData.layableAll a=true):∀d∈a,d.weight<=1048576:=fun d b =>
 (PySem.W.layableW_iff.mp (Ds.mp h d b)).2.2
theorem oO:∀(b:List Codec)(a:Hs b),(Gb b a).length=b.length
 | [],_=>rfl
 | c::b,a=>by
  show(Gb b a.2).length+1=b.length+1;rw[oO b a.2]
end L2
end
namespace Geo
noncomputable def sm{α:Type}(l:List α)(f:α->Int):Int:=match l with
 | []=>0
 | a::r=>f a+sm r f
theorem rP{α:Type}(f:α->Int):sm [] f=0:=rfl
theorem bh{α:Type}(a:α)(r:List α)(f:α->Int):sm (a::r) f=f a+sm r f:=rfl
theorem aJ{α:Type}{l:List α}{f g:α->Int}(h:∀a∈l,f a=g a):sm l f=sm l g:=by
 induction l with
 | nil=>rfl
 | cons a r c =>
  rw[bh,bh,h a (Ad ..),c fun b d=>h b (Ac _ d)]
theorem eG{α:Type}(l:List α)(f g:α->Int):sm l (fun a=>f a+g a)=sm l f+sm l g:=by
 induction l with
 | nil=>rfl
 | cons a r b=>simp only[bh,b];omega
theorem mS{α:Type}(l:List α)(f g:α->Int):sm l (fun a=>f a-g a)=sm l f-sm l g:=by
 induction l with
 | nil=>rfl
 | cons a r b=>simp only[bh,b];omega
theorem ahv{α:Type}(l:List α)(f:α->Int):sm l (fun a => - f a) = - sm l f:=by
 induction l with
 | nil=>rfl
 | cons a r b=>simp only[bh,b];omega
theorem gE{α:Type}(l:List α):sm l (fun _=>0)=0:=by
 induction l with
 | nil=>rfl
 | cons a r b=>simp only[bh,b];omega
theorem gh{α:Type}(l:List α)(k:Int)(f:α->Int):sm l (fun a=>k*f a)=k*sm l f:=by
 induction l with
 | nil=>simp[sm]
 | cons a r b=>simp only[bh,b,Cw]
theorem qA{α β:Type}(l:List α)(m:List β)(f:α->β->Int):sm l (fun a=>sm m (f a))=sm m (fun b=>sm l (fun a=>f a b)):=by
 induction l with
 | nil=>simp only[rP,gE]
 | cons a r c=>simp only[bh,eG,c]
theorem rW{α:Type}(l m:List α)(f:α->Int):sm (l++m) f=sm l f+sm m f:=by
 induction l with
 | nil=>simp[sm]
 | cons a r b=>simp only[E2,bh,b];omega
theorem mT{α:Type}{l:List α}{f:α->Int}(h:∀a∈l,0<=f a):0<=sm l f:=by
 induction l with
 | nil=>exact F8 0
 | cons a r c =>
  rw[bh];have e:=h a (Ad ..);have g:=c fun b d=>h b (Ac _ d);omega
theorem ada{α:Type}{l:List α}{f:α->Int}(h:∀a∈l,0<=f a){b:α}(d:b∈l)(hf:0<f b):0<sm l f:=by
 induction l with
 | nil=>cases d
 | cons a r i =>
  rw[bh];have m:=h a (Ad ..);have g:=fun c j=>h c (Ac a j);have n:=mT g;rcases Am.mp d with e|e
  ·subst e;omega
  ·have:=i g e;omega
theorem af2{α β:Type}(g:α->β)(l:List α)(f:β->Int):sm (l.map g) f=sm l (fun a=>f (g a)):=by
 induction l with
 | nil=>rfl
 | cons a r b=>simp only[AA,bh,b]
theorem aac{α:Type}{l m:List α}(h:l.Perm m)(f:α->Int):sm l f=sm m f:=by
 induction h with
 | nil=>rfl
 | cons a _ c=>simp only[bh,c]
 | swap a b l=>simp only[bh];omega
 | trans _ _ d e=>exact d.trans e
noncomputable def ind(p:Prop)[Decidable p]:Int:=if p then 1 else 0
theorem aN{p:Prop}[Decidable p](h:p):ind p=1:=As h
theorem ay{p:Prop}[Decidable p](h:¬p):ind p=0:=Ar h
theorem aD{p q:Prop}[Decidable p][Decidable q](h:p↔q):ind p=ind q:=by
 by_cases hp:p
 ·rw[aN hp,aN (h.mp hp)]
 ·rw[ay hp,ay fun a=>hp (h.mpr a)]
theorem jK{α:Type}(l:List α)(p:α->Prop)[DecidablePred p](f:α->Int):sm (l.filter fun a=>decide (p a)) f=sm l (fun a=>ind (p a)*f a):=by
 induction l with
 | nil=>rfl
 | cons a r b =>
  by_cases h:p a
  ·rw[Bz (by simpa using h),bh,bh,b,aN h];omega
  ·rw[BF (by simpa using h),bh,b,ay h];omega
theorem kr{α:Type}[DecidableEq α]{l:List α}(d:l.Nodup){b:α}(g:b∈l)(f:α->Int):sm l (fun a=>ind (a=b)*f a)=f b:=by
 induction l with
 | nil=>cases g
 | cons a r i =>
  rw[Bx] at d;rw[bh]
  by_cases e:a=b
  ·subst e
   have z:sm r (fun c=>ind (c=a)*f c)=0:=by
    rw[<- gE r];refine aJ fun c j => ?_;have:¬c=a:=fun e=>d.1 (by rw[<- e];exact j);rw[ay this];omega
   rw[z,aN rfl];omega
  ·rw[ay e,i d.2 (by
    rcases Am.mp g with h|h
    ·exact absurd h.symm e
    ·exact h)];omega
theorem aS{a b:Int}(h:a*b<0)(c:0<b):a<0:=by
 refine EM.mp fun d => ?_;have:=Be d (Dd c);omega
theorem bq{a b:Int}(h:0<a*b)(c:0<b):0<a:=by
 refine EM.mp fun d => ?_;have:=Be (show 0 <= -a by omega) (Dd c);rw[Dk] at this;omega
theorem dY{a b:Int}(h:a*b=0)(c:0<b):a=0:=by
 rcases EI.mp h with e|e
 ·exact e
 ·omega
theorem b0{a b:Int}(c:a<0)(d:0<b):a*b<0:=CC c d
theorem cO{a b:Int}(c:0<a)(d:b<0):a*b<0:=Gx c d
theorem nz{a b:Int}(c:a<0)(d:b<0):0<a*b:=Gy c d
theorem dZ{a b:Int}(c:0<a)(d:0<b):0<a*b:=Bk c d
structure Pos where
 x:Int
 h:Int
noncomputable def tn(p q r:Pos):Int:=(q.x-p.x)*(r.h-q.h)-(q.h-p.h)*(r.x-q.x)
theorem af8(a x y:Int):a*(x-y) = - ((y-x)*a):=by rw[Bl,<- Dk,Int.neg_sub]
theorem zR(p q r:Pos):tn q r p=tn p q r:=by unfold tn;grind
theorem adX(p q r:Pos):tn q p r = - tn p q r:=by unfold tn;grind
theorem jA(p q r:Pos):tn p r q = - tn p q r:=by unfold tn;grind
theorem acG(p q:Pos):tn p q q=0:=by unfold tn;grind
theorem acq(p q:Pos):tn p q p=0:=by unfold tn;grind
def og(p q u v:Pos):Prop:=tn p q u*tn p q v<0/\tn u v p*tn u v q<0
theorem afQ(a b c d:Pos):tn a c d*(c.h-b.h)=tn b c d*(c.h-a.h)+tn a b c*(d.h-c.h):=by unfold tn;grind
theorem af3(a b c d:Pos):tn a b d*(c.h-b.h)=tn b c d*(b.h-a.h)+tn a b c*(d.h-b.h):=by unfold tn;grind
theorem ahC{a b c d:Pos}(n:a.h<b.h)(o:b.h<c.h)(p:c.h<d.h)(l:¬og a c b d)(q:tn a c b≠0)(r:tn b d c≠0):
  0<tn a c b↔tn b d c<0:=by
 have e1:=afQ a b c d;have s:=af3 a b c d;have u:=jA a b c;have v:=jA b c d;have w:=zR a b d
 constructor
 ·intro h
  refine EM.mp fun h'=>l ?_;have e:0<tn b d c:=by omega
  have k1:tn a c d*(c.h-b.h)<0:=by
   have f:=b0 (a:=tn b c d) (b:=c.h-a.h) (by omega) (by omega);have g:=b0 (a:=tn a b c) (b:=d.h-c.h) (by omega) (by omega);omega
  have i:tn a b d*(c.h-b.h)<0:=by
   have f:=b0 (a:=tn b c d) (b:=b.h-a.h) (by omega) (by omega);have g:=b0 (a:=tn a b c) (b:=d.h-b.h) (by omega) (by omega);omega
  have j:=aS k1 (by omega);have m:=aS i (by omega);exact⟨cO h j,b0 (by omega) e⟩
 ·intro h
  refine EM.mp fun h'=>l ?_;have e:tn a c b<0:=by omega
  have k1:0<tn a c d*(c.h-b.h):=by
   have f:=dZ (a:=tn b c d) (b:=c.h-a.h) (by omega) (by omega);have g:=dZ (a:=tn a b c) (b:=d.h-c.h) (by omega) (by omega);omega
  have i:0<tn a b d*(c.h-b.h):=by
   have f:=dZ (a:=tn b c d) (b:=b.h-a.h) (by omega) (by omega);have g:=dZ (a:=tn a b c) (b:=d.h-b.h) (by omega) (by omega);omega
  have j:=bq k1 (by omega);have m:=bq i (by omega);exact⟨b0 e j,cO (by omega) h⟩
theorem ahc{a b c d:Pos}(o:a.h<b.h)(p:b.h<c.h)(q:c.h<d.h)(g:¬og a d b c)(r:tn a d b≠0)(s:tn a d c≠0):
  0<tn a d b↔0<tn a d c:=by
 have u:=jA a b d;have v:=jA a c d;have i:=zR a b c;have e1:tn a b c*(d.h-a.h)=tn a b d*(c.h-a.h)-tn a c d*(b.h-a.h):=by unfold tn;grind
 have w:tn b c d*(d.h-a.h)=tn a c d*(d.h-b.h)-tn a b d*(d.h-c.h):=by unfold tn;grind
 constructor
 ·intro h
  refine EM.mp fun h'=>g ?_;have e:tn a d c<0:=by omega
  have j:=b0 (a:=tn a b d) (b:=c.h-a.h) (by omega) (by omega);have l:=dZ (a:=tn a c d) (b:=b.h-a.h) (by omega) (by omega);have m:=dZ (a:=tn a c d) (b:=d.h-b.h) (by omega) (by omega);have n:=b0 (a:=tn a b d) (b:=d.h-c.h) (by omega) (by omega);have k1:=aS (a:=tn a b c) (b:=d.h-a.h) (by omega) (by omega);have f:=bq (a:=tn b c d) (b:=d.h-a.h) (by omega) (by omega);exact⟨cO h e,by rw[i];exact b0 k1 f⟩
 ·intro h
  refine EM.mp fun h'=>g ?_;have e:tn a d b<0:=by omega
  have j:=dZ (a:=tn a b d) (b:=c.h-a.h) (by omega) (by omega);have l:=b0 (a:=tn a c d) (b:=b.h-a.h) (by omega) (by omega);have m:=b0 (a:=tn a c d) (b:=d.h-b.h) (by omega) (by omega);have n:=dZ (a:=tn a b d) (b:=d.h-c.h) (by omega) (by omega);have k1:=bq (a:=tn a b c) (b:=d.h-a.h) (by omega) (by omega);have f:=aS (a:=tn b c d) (b:=d.h-a.h) (by omega) (by omega);exact⟨b0 e h,by rw[i];exact cO k1 f⟩
structure Net where
 n:Nat
 P:Nat->Pos
 W:List (Nat×Nat)
 nx:Nat->Nat->Nat
namespace Net
variable(G:Net)
noncomputable def h(i:Nat):Int:=(G.P i).h
noncomputable def t(i j k:Nat):Int:=tn (G.P i) (G.P j) (G.P k)
def prec(v j k:Nat):Prop:=(G.h v<G.h j/\G.h k<G.h v)\/(((G.h v<G.h j/\G.h v<G.h k)\/(G.h j<G.h v/\G.h k<G.h v))/\G.t v j k<0)
instance (v j k:Nat):Decidable (G.prec v j k):=by unfold prec;infer_instance
noncomputable def hf(v u j:Nat):Nat:=if G.t v u j<0 then 0 else if 0<G.t v u j then 2 else if (G.h v<G.h u↔G.h v<G.h j) then 3 else 1
def snr(v u a b:Nat):Prop:=G.hf v u a<G.hf v u b\/(G.hf v u a=G.hf v u b/\G.t v a b<0)
structure Ok0:Prop where
 nod:G.W.Nodup
 sym:∀{i j},(i,j)∈G.W->(j,i)∈G.W
 lt:∀{i j},(i,j)∈G.W->i<G.n/\j<G.n
 ne:∀{i j},(i,j)∈G.W->i≠j
 inj:∀{i j},i<G.n->j<G.n->G.h i=G.h j->i=j
 on:∀{i j k},(i,j)∈G.W->k<G.n->G.h i<G.h k->G.h k<G.h j->G.t i j k≠0
 cr:∀{i j k l},(i,j)∈G.W->(k,l)∈G.W->¬og (G.P i) (G.P j) (G.P k) (G.P l)
structure Ok:Prop extends Ok0 G where
 nxm:∀{u v},(u,v)∈G.W->(v,G.nx u v)∈G.W
 nxs:∀{u v j},(u,v)∈G.W->(v,j)∈G.W->¬G.snr v u j (G.nx u v)
variable {G}
theorem agB(i j k:Nat):G.t j k i=G.t i j k:=zR ..
theorem vi(i j k:Nat):G.t j i k = - G.t i j k:=adX ..
theorem dB(i j k:Nat):G.t i k j = - G.t i j k:=jA ..
theorem pO(i j:Nat):G.t i j j=0:=acG ..
theorem aer(i j:Nat):G.t i j i=0:=acq ..
theorem plu(v u j k:Nat):(G.h u-G.h v)*G.t v j k-(G.h j-G.h v)*G.t v u k+(G.h k-G.h v)*G.t v u j=0:=by
 unfold t h tn;grind
namespace Ok0
variable(O:G.Ok0)
include O
theorem hne{i j:Nat}(h:(i,j)∈G.W):G.h i≠G.h j:=fun e=>O.ne h (O.inj (O.lt h).1 (O.lt h).2 e)
theorem ray{v j k:Nat}(a:(v,j)∈G.W)(b:(v,k)∈G.W)(hne:j≠k)(f:(G.h v<G.h j/\G.h v<G.h k)\/(G.h j<G.h v/\G.h k<G.h v)):G.t v j k≠0:=by
 intro e;have hh:G.h j≠G.h k:=fun e=>hne (O.inj (O.lt a).2 (O.lt b).2 e);rcases f with⟨c,d⟩|⟨c,d⟩
 ·by_cases h3:G.h j<G.h k
  ·exact O.on b (O.lt a).2 c h3 (by rw[dB,e];rfl)
  ·exact O.on a (O.lt b).2 d (by omega) e
 ·by_cases h3:G.h j<G.h k
  ·exact O.on (O.sym a) (O.lt b).2 h3 d (by rw[vi,e];rfl)
  ·refine O.on (O.sym b) (O.lt a).2 (by omega) c (by rw[vi,dB,e];rfl)
theorem cY{v j k:Nat}(c:(v,j)∈G.W)(d:(v,k)∈G.W)(hne:j≠k):G.prec v j k\/G.prec v k j:=by
 have e:=O.hne c;have f:=O.hne d;have g:=dB (G:=G) v j k;unfold prec
 by_cases a:G.h v<G.h j <;> by_cases b:G.h v<G.h k
 ·have:=O.ray c d hne (.inl ⟨a,b⟩);clear hne e f;omega
 ·clear hne e;omega
 ·clear hne f;omega
 ·have:=O.ray c d hne (.inr ⟨by omega,by omega⟩);clear hne;omega
omit O in
theorem bT{v j:Nat}:¬G.prec v j j:=by
 have a:=pO (G:=G) v j;unfold prec;omega
omit O in
theorem fK{v j k:Nat}(h:G.prec v j k):¬G.prec v k j:=by
 have a:=dB (G:=G) v j k;unfold prec at *;omega
omit O in
theorem fI{v i j k:Nat}(o:G.prec v i j)(p:G.prec v j k):G.prec v i k:=by
 have e:=plu (G:=G) v i j k;unfold prec at *
 by_cases a:G.h v<G.h i <;> by_cases b:G.h k<G.h v
 ·exact .inl ⟨a,b⟩
 ·
  have g:G.h v<G.h j:=by omega
  have l:G.h v<G.h k:=by omega
  have c:G.t v i j<0:=by omega
  have d:G.t v j k<0:=by omega
  have m:=cO (a:=G.h i-G.h v) (b:=G.t v j k) (by omega) d;have n:=cO (a:=G.h k-G.h v) (b:=G.t v i j) (by omega) c;have f:G.t v i k*(G.h j-G.h v)<0:=by rw[Bl];omega
  exact .inr ⟨.inl ⟨a,l⟩,aS f (by omega)⟩
 ·have g:G.h i<G.h v:=by omega
  have l:G.h j<G.h v:=by omega
  have c:G.t v i j<0:=by omega
  have d:G.t v j k<0:=by omega
  have m:=nz (a:=G.h i-G.h v) (b:=G.t v j k) (by omega) d;have n:=nz (a:=G.h k-G.h v) (b:=G.t v i j) (by omega) c;have f:G.t v i k*(G.h v-G.h j)<0:=by
   have:G.t v i k*(G.h v-G.h j) = - ((G.h j-G.h v)*G.t v i k):=af8 _ _ _;omega
  exact .inr ⟨.inr ⟨g,b⟩,aS f (by omega)⟩
 ·exfalso;omega
theorem adu{v u j k:Nat}(i:(v,u)∈G.W)(l:(v,j)∈G.W)(m:(v,k)∈G.W)(n:G.prec v u j)(o:G.prec v k u):G.snr v u j k:=by
 have e:=plu (G:=G) v u j k;have p:=O.hne i;have q:=O.hne l;have r:=O.hne m;have y:=dB (G:=G) v u k;unfold prec at n o;unfold snr
 by_cases a:G.h v<G.h u
 ·have d:G.h v<G.h k/\0<G.t v u k:=by omega
  have c:G.hf v u k=2:=by unfold hf;rw[Ar (by omega),As d.2]
  by_cases ta:G.t v u j<0
  ·left;rw[c];unfold hf;rw[As ta];omega
  ·have z:G.h j<G.h v:=by omega
   by_cases tb:0<G.t v u j
   ·right
    refine⟨by rw[c];unfold hf;rw[Ar ta,As tb],?_⟩;have s:=b0 (a:=G.h j-G.h v) (b:=G.t v u k) (by omega) d.2;have w:=dZ (a:=G.h k-G.h v) (b:=G.t v u j) (by omega) tb;refine aS (b:=G.h u-G.h v) ?_ (by omega);rw[Bl];omega
   ·left;rw[c];unfold hf;rw[Ar ta,Ar tb,Ar (by omega)];omega
 ·have f:G.h j<G.h v/\G.t v u j<0:=by omega
  have g:G.hf v u j=0:=by unfold hf;rw[As f.2]
  by_cases tb:G.t v u k<0
  ·right
   refine⟨by rw[g];unfold hf;rw[As tb],?_⟩;have A:G.h v<G.h k:=by omega
   have s:=nz (a:=G.h j-G.h v) (b:=G.t v u k) (by omega) tb;have w:=cO (a:=G.h k-G.h v) (b:=G.t v u j) (by omega) f.2;refine aS (b:=G.h v-G.h u) ?_ (by omega);have:G.t v j k*(G.h v-G.h u) = - ((G.h u-G.h v)*G.t v j k):=af8 _ _ _;omega
  ·left;rw[g];unfold hf;rw[Ar tb];split
   ·omega
   ·split <;> omega
theorem adm{v u j k:Nat}(l:(v,u)∈G.W)(m:(v,j)∈G.W)(n:(v,k)∈G.W)(o:G.prec v u j)(p:G.prec v u k)(q:G.prec v j k):G.snr v u j k:=by
 have e:=plu (G:=G) v u j k;have r:=O.hne l;have s:=O.hne m;have w:=O.hne n;unfold prec at o p q;unfold snr
 by_cases a:G.h v<G.h u
 ·by_cases ju:G.h v<G.h j
  ·have f:G.t v u j<0:=by omega
   have d:G.hf v u j=0:=by unfold hf;rw[As f]
   by_cases tb:G.t v u k<0
   ·right
    refine⟨by rw[d];unfold hf;rw[As tb],?_⟩
    by_cases ku:G.h v<G.h k
    ·omega
    ·have y:=cO (a:=G.h j-G.h v) (b:=G.t v u k) (by omega) tb
     have g:=nz (a:=G.h k-G.h v) (b:=G.t v u j) (by omega) f;refine aS (b:=G.h u-G.h v) ?_ (by omega);rw[Bl];omega
   ·left;rw[d];unfold hf;rw[Ar tb];split
    ·omega
    ·split <;> omega
  ·have kd:G.h k<G.h v:=by omega
   have c:G.t v j k<0:=by omega
   have m0:=cO (a:=G.h u-G.h v) (b:=G.t v j k) (by omega) c
   by_cases ta:G.t v u j<0
   ·have d:G.hf v u j=0:=by unfold hf;rw[As ta]
    by_cases tb:G.t v u k<0
    ·right
     exact⟨by rw[d];unfold hf;rw[As tb],c⟩
    ·left;rw[d];unfold hf;rw[Ar tb];split
     ·omega
     ·split <;> omega
   ·have y:(G.h k-G.h v)*G.t v u j<=0:=Dz (by omega) (by omega)
    have g:0<G.t v u k:=by
     refine bq (b:=G.h v-G.h j) ?_ (by omega);have:G.t v u k*(G.h v-G.h j) = - ((G.h j-G.h v)*G.t v u k):=af8 _ _ _;have B:(G.h j-G.h v)*G.t v u k=(G.h u-G.h v)*G.t v j k+(G.h k-G.h v)*G.t v u j:=by omega
     omega
    have i:G.hf v u k=2:=by unfold hf;rw[Ar (by omega),As g]
    by_cases tb:0<G.t v u j
    ·right
     exact⟨by rw[i];unfold hf;rw[Ar ta,As tb],c⟩
    ·left;rw[i];unfold hf;rw[Ar ta,Ar tb,Ar (by omega)];omega
 ·right
  have z:G.t v u j<0:=by omega
  have A:G.t v u k<0:=by omega
  refine⟨by unfold hf;rw[As z,As A],by omega⟩
theorem adL{v u j k:Nat}(z:(v,u)∈G.W)(A:(v,j)∈G.W)(B:(v,k)∈G.W)(i:G.prec v j u)(l:G.prec v k u)(m:G.prec v j k):G.snr v u j k:=by
 have e:=plu (G:=G) v u j k;have g:=O.hne z;have d:=O.hne A;have f:=O.hne B;have n:=dB (G:=G) v u j;have o:=dB (G:=G) v u k;unfold prec at i l m;unfold snr
 by_cases a:G.h v<G.h u
 ·right
  have q:0<G.t v u j:=by clear l m g d f e o;omega
  have C:0<G.t v u k:=by clear i m g d f e n q;omega
  refine⟨by unfold hf;rw[Ar (by omega),As q,Ar (by omega),As C],by clear i e n o q g d;omega⟩
 ·by_cases ku:G.h v<G.h k
  ·have E:G.h v<G.h j:=by clear i l e n o g f;omega
   have c:G.t v j k<0:=by clear i l e n o g d f;omega
   have H:G.h u-G.h v<0:=by clear i l m e n o d f;omega
   clear i l m g d f;have m0:=nz (a:=G.h u-G.h v) (b:=G.t v j k) H c
   by_cases ta:G.t v u j<0
   ·have s:G.hf v u j=0:=by unfold hf;rw[As ta]
    by_cases tb:G.t v u k<0
    ·right
     exact⟨by rw[s];unfold hf;rw[As tb],c⟩
    ·left;rw[s];unfold hf;rw[Ar tb];split
     ·omega
     ·split <;> omega
   ·have w:0<=(G.h k-G.h v)*G.t v u j:=Be (by omega) (by omega)
    have r:0<G.t v u k:=by
     refine bq (b:=G.h j-G.h v) ?_ (by omega);rw[Bl];omega
    have p:G.hf v u k=2:=by unfold hf;rw[Ar (by omega),As r]
    by_cases tb:0<G.t v u j
    ·right
     exact⟨by rw[p];unfold hf;rw[Ar ta,As tb],c⟩
    ·left;rw[p];unfold hf;rw[Ar ta,Ar tb,Ar (by omega)];omega
  ·have y:0<G.t v u k:=by clear i m e n d;omega
   have p:G.hf v u k=2:=by unfold hf;rw[Ar (by omega),As y]
   by_cases ta:G.t v u j<0
   ·left;rw[p];unfold hf;rw[As ta];omega
   ·by_cases tb:0<G.t v u j
    ·right
     refine⟨by rw[p];unfold hf;rw[Ar ta,As tb],?_⟩
     by_cases E:G.h v<G.h j
     ·have w:=dZ (a:=G.h j-G.h v) (b:=G.t v u k) (by omega) y
      have r:=b0 (a:=G.h k-G.h v) (b:=G.t v u j) (by omega) tb;refine aS (b:=G.h v-G.h u) ?_ (by clear i l m e n o d f w r;omega);have:G.t v j k*(G.h v-G.h u) = - ((G.h u-G.h v)*G.t v j k):=af8 _ _ _;omega
     ·omega
    ·left;rw[p];unfold hf;rw[Ar ta,Ar tb,Ar (by omega)];omega
theorem jH{v u j:Nat}(a:(v,u)∈G.W)(b:(v,j)∈G.W)(h:j≠u):G.snr v u j u:=by
 left
 have d:=O.hne a;have f:=O.hne b;have e:=pO (G:=G) v u;have g:G.hf v u u=3:=by unfold hf;rw[Ar (by omega),Ar (by omega),As Le]
 rw[g];unfold hf
 by_cases ta:G.t v u j<0
 ·rw[As ta];omega
 ·by_cases tb:0<G.t v u j
  ·rw[Ar ta,As tb];omega
  ·rw[Ar ta,Ar tb]
   by_cases c:(G.h v<G.h u↔G.h v<G.h j)
   ·exfalso
    have:(G.h v<G.h u/\G.h v<G.h j)\/(G.h u<G.h v/\G.h j<G.h v):=by omega
    have:=O.ray a b (Ne.symm h) this;omega
   ·rw[Ar c];omega
def cyc(G:Net)(v u a b:Nat):Prop:=(G.prec v u a/\G.prec v u b/\G.prec v a b)\/(G.prec v u a/\G.prec v b u)\/(G.prec v a u/\G.prec v b u/\G.prec v a b)\/(a≠u/\b=u)
theorem kh{v u a b:Nat}(c:(v,u)∈G.W)(d:(v,a)∈G.W)(e:(v,b)∈G.W)(h:cyc G v u a b):G.snr v u a b:=by
 rcases h with⟨p,q,r⟩|⟨p,q⟩|⟨p,q,r⟩|⟨p,q⟩
 ·exact O.adm c d e p q r
 ·exact O.adu c d e p q
 ·exact O.adL c d e p q r
 ·subst q;exact O.jH c d p
theorem tE{v u a b:Nat}(f:(v,u)∈G.W)(d:(v,a)∈G.W)(e:(v,b)∈G.W)(c:a≠b):cyc G v u a b\/cyc G v u b a:=by
 by_cases au:a=u
 ·subst au;exact .inr (.inr (.inr (.inr ⟨Ne.symm c,rfl⟩)))
 ·by_cases bu:b=u
  ·subst bu;exact .inl (.inr (.inr (.inr ⟨c,rfl⟩)))
  ·rcases O.cY f d (Ne.symm au) with p|p <;> rcases O.cY f e (Ne.symm bu) with q|q
   ·rcases O.cY d e c with r|r
    ·exact .inl (.inl ⟨p,q,r⟩)
    ·exact .inr (.inl ⟨q,p,r⟩)
   ·exact .inl (.inr (.inl ⟨p,q⟩))
   ·exact .inr (.inr (.inl ⟨q,p⟩))
   ·rcases O.cY d e c with r|r
    ·exact .inl (.inr (.inr (.inl ⟨p,q,r⟩)))
    ·exact .inr (.inr (.inr (.inl ⟨q,p,r⟩)))
omit O in
theorem sJ{v u a b:Nat}(h:G.snr v u a b):¬G.snr v u b a:=by
 have s:=dB (G:=G) v a b;unfold snr at *;omega
omit O in
theorem pY{v u a:Nat}:¬G.snr v u a a:=fun h=>sJ h h
theorem zM{v u a b:Nat}(c:(v,u)∈G.W)(d:(v,a)∈G.W)(f:(v,b)∈G.W)(h:G.snr v u a b):cyc G v u a b:=by
 have g:a≠b:=fun e=>by rw[e] at h;exact pY h
 rcases O.tE c d f g with z|z
 ·exact z
 ·exact absurd (O.kh c f d z) (sJ h)
omit O in
theorem zP{v u a b c:Nat}(i:cyc G v u a b)(j:cyc G v u b c):cyc G v u a c:=by
 rcases i with⟨p,q,r⟩|⟨p,q⟩|⟨p,q,r⟩|⟨p,q⟩ <;> rcases j with⟨d,f,g⟩|⟨d,f⟩|⟨d,f,g⟩|⟨d,f⟩
 ·exact .inl ⟨p,f,fI r g⟩
 ·exact .inr (.inl ⟨p,f⟩)
 ·exact absurd q (fK d)
 ·exact .inr (.inr (.inr ⟨fun e=>by rw[e] at p;exact bT p,f⟩))
 ·exact absurd q (fK d)
 ·exact absurd q (fK d)
 ·exact .inr (.inl ⟨p,f⟩)
 ·exact .inr (.inr (.inr ⟨fun e=>by rw[e] at p;exact bT p,f⟩))
 ·exact absurd q (fK d)
 ·exact absurd q (fK d)
 ·exact .inr (.inr (.inl ⟨p,f,fI r g⟩))
 ·exact .inr (.inr (.inr ⟨fun e=>by rw[e] at p;exact bT p,f⟩))
 ·rw[q] at d;exact absurd d bT
 ·rw[q] at d;exact absurd d bT
 ·rw[q] at d;exact absurd d bT
 ·exact absurd q d
theorem mN{v u a b c:Nat}(d:(v,u)∈G.W)(e:(v,a)∈G.W)(f:(v,b)∈G.W)(g:(v,c)∈G.W)(i:G.snr v u a b)(j:G.snr v u b c):G.snr v u a c :=
 O.kh d e g (zP (O.zM d e f i) (O.zM d f g j))
end Ok0
namespace Ok
variable(O:G.Ok)
include O
theorem ro{u v:Nat}(h:(u,v)∈G.W):
  (G.prec v u (G.nx u v)/\∀j,(v,j)∈G.W->G.prec v u j->¬G.prec v j (G.nx u v)) \/
  ((∀j,(v,j)∈G.W->¬G.prec v u j)/\∀j,(v,j)∈G.W->¬G.prec v j (G.nx u v)):=by
 have c:=O.sym h;have b:=O.nxm h;have d:=fun j a=>O.nxs (j:=j) h a;generalize G.nx u v=w at *
 by_cases ex:∃j,(v,j)∈G.W/\G.prec v u j
 ·left
  obtain⟨j,a,f⟩:=ex;have g:G.prec v u w:=by
   by_cases e:w=u
   ·subst e
    exact absurd (O.jH c a (fun e=>Ok0.bT (by rw[e] at f;exact f))) (d j a)
   ·rcases O.cY c b (Ne.symm e) with q|q
    ·exact q
    ·exact absurd (O.adu c a b f q) (d j a)
  exact⟨g,fun k i m n=>d k i (O.adm c i b m g n)⟩
 ·right
  have l:∀j,(v,j)∈G.W->¬G.prec v u j:=fun j a p=>ex ⟨j,a,p⟩;refine⟨l,fun j a p => ?_⟩
  by_cases e:w=u
  ·subst e
   exact d j a (O.jH b a fun e=>Ok0.bT (by rw[e] at p;exact p))
  ·rcases O.cY c b (Ne.symm e) with q|q
   ·exact l w b q
   ·exact d j a (O.adL c a b (Ok0.fI p q) q p)
theorem afR{u c v:Nat}(h:(u,v)∈G.W)(h':(c,v)∈G.W)(e:G.nx u v=G.nx c v):u=c:=by
 have m:=O.sym h;have d:=O.sym h';refine AU fun n => ?_;have key:∀{a b:Nat},(a,v)∈G.W->(b,v)∈G.W->G.nx a v=G.nx b v->G.prec v a b->False:=by
  intro a b i f e p;rcases O.ro i with⟨o,g⟩|⟨g,j⟩
  ·rcases O.ro f with⟨l,j⟩|⟨j,q⟩
   ·rw[<- e] at l
    exact g b (O.sym f) p l
   ·exact q a (O.sym i) (by rw[<- e];exact o)
  ·exact g b (O.sym f) p
 rcases O.cY m d n with p|p
 ·exact key h h' e p
 ·exact key h' h e.symm p
end Ok
end Net
namespace Net
variable(G:Net)
noncomputable def U:List (Nat×Nat):=G.W.filter fun f=>decide (G.h f.1<G.h f.2)
noncomputable def net(c:Nat×Nat->Int)(f:Nat×Nat):Int:=c f-c (f.2,f.1)
def Flow(c:Nat×Nat->Int):Prop:=∀w,sm G.U (fun f=>net c f*(ind (f.1=w)-ind (f.2=w)))=0
def rt(v:Nat)(f:Nat×Nat):Prop:=G.h f.1<G.h v/\G.h v<G.h f.2/\0<G.t f.1 f.2 v
instance (v:Nat) (f:Nat×Nat):Decidable (G.rt v f):=by unfold rt;infer_instance
def bot(e f:Nat×Nat):Prop:=G.rt e.1 f\/(f.1=e.1/\(f.2=e.2\/G.t e.1 e.2 f.2<0))
noncomputable def top(e f:Nat×Nat):Prop:=G.rt e.2 f\/(f.2=e.2/\(f.1=e.1\/G.t e.1 e.2 f.1<0))
instance (e f:Nat×Nat):Decidable (G.bot e f):=by unfold bot;infer_instance
instance (e f:Nat×Nat):Decidable (G.top e f):=by unfold top;infer_instance
noncomputable def Lb(c:Nat×Nat->Int)(e:Nat×Nat):Int:=sm G.U (fun f=>net c f*ind (G.bot e f))
noncomputable def Lt(c:Nat×Nat->Int)(e:Nat×Nat):Int:=sm G.U (fun f=>net c f*ind (G.top e f))
noncomputable def L(c:Nat×Nat->Int)(e:Nat×Nat):Int:=if G.h e.1<G.h e.2 then G.Lb c e else G.Lb c (e.2,e.1)-net c (e.2,e.1)
def sd(e:Nat×Nat)(w:Nat):Prop:=G.h e.1<G.h w/\G.h w<G.h e.2/\G.t e.1 e.2 w<0
instance (e:Nat×Nat) (w:Nat):Decidable (G.sd e w):=by unfold sd;infer_instance
variable {G}
theorem bN{f:Nat×Nat}:f∈G.U↔f∈G.W/\G.h f.1<G.h f.2:=by
 unfold U;simp
theorem yT(c:Nat×Nat->Int)(i j:Nat):net c (i,j) = - net c (j,i):=by
 unfold net;dsimp only;omega
theorem qF{c:Nat×Nat->Int}(j:G.Flow c)(S:Nat->Prop)[DecidablePred S](d:∀f∈G.U,f.1<G.n/\f.2<G.n):
  sm G.U (fun f=>net c f*ind (S f.1))=sm G.U (fun f=>net c f*ind (S f.2)):=by
 have e:sm ((An G.n).filter fun w=>decide (S w)) (fun w=>sm G.U (fun f=>net c f*(ind (f.1=w)-ind (f.2=w))))=0:=by
  rw[aJ (g:=fun _=>0) fun w _=>j w,gE]
 rw[qA] at e;have k:∀f∈G.U,sm ((An G.n).filter fun w=>decide (S w)) (fun w=>net c f*(ind (f.1=w)-ind (f.2=w)))=net c f*ind (S f.1)-net c f*ind (S f.2):=by
  intro f hf;have b:∀i,i<G.n->sm ((An G.n).filter fun w=>decide (S w)) (fun w=>ind (i=w))=ind (S i):=by
   intro i l;rw[jK];have:sm (An G.n) (fun a=>ind (a=i)*ind (S a))=ind (S i):=kr Fu (A6.mpr l) (fun a=>ind (S a));rw[<- this];refine aJ fun a _ => ?_;rw[aD (p:=i=a) (q:=a=i) ⟨Eq.symm,Eq.symm⟩,Bl]
  rw[gh,mS,b _ (d f hf).1,b _ (d f hf).2,DQ]
 rw[aJ k,mS] at e;omega
namespace Ok
variable(O:G.Ok)
include O
theorem yN:∀f∈G.U,f.1<G.n/\f.2<G.n:=fun f hf=>O.lt (i:=f.1) (j:=f.2) (bN.mp hf).1
theorem abM:G.U.Nodup:=O.nod.filter _
theorem heq{i j:Nat}(a:i<G.n)(b:j<G.n):G.h i=G.h j↔i=j:=⟨O.inj a b,fun e=>by rw[e]⟩
set_option maxHeartbeats 2000000 in
theorem yP{e f:Nat×Nat}(he:e∈G.U)(hf:f∈G.U):ind (G.bot e f)+ind (G.sd e f.1)=ind (G.top e f)+ind (G.sd e f.2):=by
 obtain⟨u,v⟩:=e;obtain⟨p,q⟩:=f;obtain⟨g,he⟩:=bN.mp he;obtain⟨j,hf⟩:=bN.mp hf;dsimp only at he hf;show ind (G.bot (u,v) (p,q))+ind (G.sd (u,v) p)=ind (G.top (u,v) (p,q))+ind (G.sd (u,v) q);have A:=(O.lt g).1;have iv:=(O.lt g).2;have n:=(O.lt j).1;have o:=(O.lt j).2
 by_cases c1:p=u
 ·subst c1
  by_cases c2:q=v
  ·subst c2
   rw[aN (show G.bot (p,q) (p,q) from .inr ⟨rfl,.inl rfl⟩),aN (show G.top (p,q) (p,q) from .inr ⟨rfl,.inl rfl⟩),
    ay (show ¬G.sd (p,q) p by unfold sd;dsimp only;omega),ay (show ¬G.sd (p,q) q by unfold sd;dsimp only;omega)]
  ·have s:=dB (G:=G) p v q
   have r:G.h q≠G.h v:=fun e=>c2 (O.inj o iv e);rw[ay (show ¬G.sd (p,v) p by unfold sd;dsimp only;omega)]
   by_cases c3:G.h q<G.h v
   ·rw[ay (show ¬G.top (p,v) (p,q) by unfold top rt;dsimp only;omega),
     aD (p:=G.bot (p,v) (p,q)) (q:=G.sd (p,v) q) (by unfold bot sd rt;dsimp only;omega)]
    omega
   ·rw[ay (show ¬G.sd (p,v) q by unfold sd;dsimp only;omega),
     aD (p:=G.bot (p,v) (p,q)) (q:=G.top (p,v) (p,q)) (by unfold bot top rt;dsimp only;omega)]
 ·have y:G.h p≠G.h u:=fun e=>c1 (O.inj n A e)
  by_cases c2:q=v
  ·subst c2
   have I:=dB (G:=G) p u q;have J:=agB (G:=G) p u q;rw[ay (show ¬G.sd (u,q) q by unfold sd;dsimp only;omega)]
   by_cases c3:G.h u<G.h p
   ·rw[ay (show ¬G.bot (u,q) (p,q) by unfold bot rt;dsimp only;omega),
     aD (p:=G.top (u,q) (p,q)) (q:=G.sd (u,q) p) (by unfold top sd rt;dsimp only;omega)]
    omega
   ·rw[ay (show ¬G.sd (u,q) p by unfold sd;dsimp only;omega),
     aD (p:=G.bot (u,q) (p,q)) (q:=G.top (u,q) (p,q)) (by unfold bot top rt;dsimp only;omega)]
  ·have r:G.h q≠G.h v:=fun e=>c2 (O.inj o iv e)
   have C:¬og (G.P p) (G.P q) (G.P u) (G.P v):=O.cr j g;have w:¬og (G.P u) (G.P v) (G.P p) (G.P q):=O.cr g j;have l:G.h q<=G.h u\/G.h v<=G.h p\/(G.h u<G.h q/\G.h p<G.h v):=by omega
   rcases l with z|z|⟨l,m⟩
   ·rw[ay (show ¬G.bot (u,v) (p,q) by unfold bot rt;dsimp only;omega),ay (show ¬G.top (u,v) (p,q) by unfold top rt;dsimp only;omega),
     ay (show ¬G.sd (u,v) p by unfold sd;dsimp only;omega),ay (show ¬G.sd (u,v) q by unfold sd;dsimp only;omega)]
   ·rw[ay (show ¬G.bot (u,v) (p,q) by unfold bot rt;dsimp only;omega),ay (show ¬G.top (u,v) (p,q) by unfold top rt;dsimp only;omega),
     ay (show ¬G.sd (u,v) p by unfold sd;dsimp only;omega),ay (show ¬G.sd (u,v) q by unfold sd;dsimp only;omega)]
   ·by_cases y1:G.h p<G.h u <;> by_cases y2:G.h q<G.h v
    ·rw[ay (show ¬G.top (u,v) (p,q) by unfold top rt;dsimp only;omega),ay (show ¬G.sd (u,v) p by unfold sd;dsimp only;omega)]
     have k:0<G.t p q u↔G.t u v q<0:=ahC (a:=G.P p) (b:=G.P u) (c:=G.P q) (d:=G.P v) y1 l y2 C (O.on j A y1 l) (O.on g o l y2);clear y r;rw[aD (p:=G.bot (u,v) (p,q)) (q:=G.sd (u,v) q) (by unfold bot sd rt;dsimp only;omega)];clear k;omega
    ·have i:G.h v<G.h q:=by omega
     rw[ay (show ¬G.sd (u,v) p by unfold sd;dsimp only;omega),ay (show ¬G.sd (u,v) q by unfold sd;dsimp only;omega)];have k:0<G.t p q u↔0<G.t p q v:=ahc (a:=G.P p) (b:=G.P u) (c:=G.P v) (d:=G.P q) y1 he i C (O.on j A y1 l) (O.on j iv m i);clear y r;rw[aD (p:=G.bot (u,v) (p,q)) (q:=G.top (u,v) (p,q)) (by unfold bot top rt;dsimp only;omega)]
    ·have i:G.h u<G.h p:=by omega
     rw[ay (show ¬G.top (u,v) (p,q) by unfold top rt;dsimp only;omega),ay (show ¬G.bot (u,v) (p,q) by unfold bot rt;dsimp only;omega)];have k:0<G.t u v p↔0<G.t u v q:=ahc (a:=G.P u) (b:=G.P p) (c:=G.P q) (d:=G.P v) i hf y2 w (O.on g n i m) (O.on g o l y2);have E:=O.on g n i m;have H:=O.on g o l y2;clear y r;rw[aD (p:=G.sd (u,v) p) (q:=G.sd (u,v) q) (by unfold sd;dsimp only;omega)]
    ·have i:G.h u<G.h p:=by omega
     have B:G.h v<G.h q:=by omega
     rw[ay (show ¬G.bot (u,v) (p,q) by unfold bot rt;dsimp only;omega),ay (show ¬G.sd (u,v) q by unfold sd;dsimp only;omega)];have k:0<G.t u v p↔G.t p q v<0:=ahC (a:=G.P u) (b:=G.P p) (c:=G.P v) (d:=G.P q) i m B w (O.on g n i m) (O.on j iv m B);have E:=O.on g n i m;have H:=O.on j iv m B;clear y r;rw[aD (p:=G.sd (u,v) p) (q:=G.top (u,v) (p,q)) (by unfold sd top rt;dsimp only;omega)];clear k E H;omega
theorem ends{c:Nat×Nat->Int}(a:G.Flow c){e:Nat×Nat}(he:e∈G.U):G.Lb c e=G.Lt c e:=by
 have k:=qF a (G.sd e) O.yN;have s:sm G.U (fun f=>net c f*ind (G.bot e f)+net c f*ind (G.sd e f.1))=sm G.U (fun f=>net c f*ind (G.top e f)+net c f*ind (G.sd e f.2)):=by
  refine aJ fun f hf => ?_;rw[<- Cw,<- Cw,O.yP he hf]
 rw[eG,eG] at s;unfold Lb Lt;omega
end Ok
variable (G)
noncomputable def Pre(c:Nat×Nat->Int)(v k:Nat):Int:=sm G.U (fun f=>net c f*(ind (f.1=v/\G.prec v f.2 k)-ind (f.2=v/\G.prec v f.1 k)))
noncomputable def K(c:Nat×Nat->Int)(v:Nat):Int:=sm G.U (fun f=>net c f*(ind (G.rt v f)+ind (f.1=v)))
variable {G}
namespace Ok
variable(O:G.Ok)
include O
theorem ahb{c:Nat×Nat->Int}(n:G.Flow c){v k:Nat}(i:(v,k)∈G.W):G.L c (v,k)+G.Pre c v k=G.K c v:=by
 have hh:=O.hne i;unfold L
 by_cases a:G.h v<G.h k
 ·rw[As a]
  unfold Lb Pre K;rw[<- eG];refine aJ fun f hf => ?_;rw[<- Cw]
  congr 1
  obtain⟨p,q⟩:=f;obtain⟨l,hf⟩:=bN.mp hf;dsimp only at hf ⊢
  by_cases c1:p=v
  ·subst c1
   have d:q≠p:=fun e=>by rw[e] at hf;omega
   rw[ay (show ¬(q=p/\G.prec p p k) from fun z=>d z.1),ay (show ¬G.rt p (p,q) by unfold rt;dsimp only;omega),aN rfl]
   by_cases c2:q=k
   ·subst c2
    rw[aN (show G.bot (p,q) (p,q) from .inr ⟨rfl,.inl rfl⟩),ay (show ¬(p=p/\G.prec p q q) from fun z=>Ok0.bT z.2)];omega
   ·have r:=O.ray l i c2 (.inl ⟨hf,a⟩)
    have s:=dB (G:=G) p k q
    by_cases c3:G.t p q k<0
    ·rw[ay (show ¬G.bot (p,k) (p,q) by unfold bot rt;dsimp only;omega),aN (show p=p/\G.prec p q k from⟨rfl,.inr ⟨.inl ⟨hf,a⟩,c3⟩⟩)]
     omega
    ·rw[aN (show G.bot (p,k) (p,q) by unfold bot rt;dsimp only;omega),ay (show ¬(p=p/\G.prec p q k) by unfold prec;omega)]
     omega
  ·rw[ay (show ¬(p=v/\G.prec v q k) from fun z=>c1 z.1),ay (show ¬(q=v/\G.prec v p k) by
     rintro⟨e,z⟩;subst e;unfold prec at z;omega),ay c1,
    aD (p:=G.bot (v,k) (p,q)) (q:=G.rt v (p,q)) ⟨fun z=>z.elim id fun w=>absurd w.1 c1,.inl⟩]
   omega
 ·rw[Ar a]
  have b:G.h k<G.h v:=by omega
  have m:(k,v)∈G.U:=bN.mpr ⟨O.sym i,b⟩;dsimp only;rw[O.ends n m];have j:net c (k,v)=sm G.U (fun f=>net c f*ind (f=(k,v))):=by
   rw[aJ (g:=fun f=>ind (f=(k,v))*net c f) fun f _=>Bl _ _,kr O.abM m]
  rw[j];unfold Lt Pre K;rw[<- mS,<- eG];refine aJ fun f hf => ?_;rw[<- DQ,<- Cw]
  congr 1
  obtain⟨p,q⟩:=f;obtain⟨l,hf⟩:=bN.mp hf;dsimp only at hf ⊢
  by_cases c1:p=v
  ·subst c1
   have d:q≠p:=fun e=>by rw[e] at hf;omega
   rw[ay (show ¬(q=p/\G.prec p p k) from fun z=>d z.1),ay (show ¬G.rt p (p,q) by unfold rt;dsimp only;omega),aN rfl,
    ay (show ¬G.top (k,p) (p,q) by unfold top rt;dsimp only;omega),ay (show ¬(p,q)=(k,p) from fun e=>d (CM e).2),
    aN (show p=p/\G.prec p q k from⟨rfl,.inl ⟨hf,b⟩⟩)]
   omega
  ·rw[ay (show ¬(p=v/\G.prec v q k) from fun z=>c1 z.1),ay c1]
   by_cases c2:q=v
   ·subst c2
    rw[ay (show ¬G.rt q (p,q) by unfold rt;dsimp only;omega)];have s:=agB (G:=G) k q p
    by_cases c3:p=k
    ·subst c3
     rw[aN (show G.top (p,q) (p,q) from .inr ⟨rfl,.inl rfl⟩),aN rfl,ay (show ¬(q=q/\G.prec q p p) from fun z=>Ok0.bT z.2)];omega
    ·rw[ay (show ¬(p,q)=(k,q) from fun e=>c3 (CM e).1),
      aD (p:=G.top (k,q) (p,q)) (q:=q=q/\G.prec q p k) (by unfold top rt prec;dsimp only;omega)]
     omega
   ·rw[ay (show ¬(q=v/\G.prec v p k) from fun z=>c2 z.1),ay (show ¬(p,q)=(k,v) from fun e=>c2 (CM e).2),
     aD (p:=G.top (k,v) (p,q)) (q:=G.rt v (p,q)) ⟨fun z=>z.elim id fun w=>absurd w.1 c2,.inl⟩]
    omega
theorem afT{c:Nat×Nat->Int}{v k:Nat}(b:(v,k)∈G.W):G.L c (v,k)-G.L c (k,v)=net c (v,k):=by
 have hh:=O.hne b;unfold L;dsimp only at *
 have e:=yT c v k
 by_cases a:G.h v<G.h k
 ·rw[As a,Ar (by omega)];omega
 ·rw[Ar a,As (by omega)];omega
theorem aej{c:Nat×Nat->Int}{v u:Nat}(b:(v,u)∈G.W):sm G.U (fun f=>net c f*(ind (f.1=v/\f.2=u)-ind (f.2=v/\f.1=u)))=net c (v,u):=by
 have hh:=O.hne b
 by_cases a:G.h v<G.h u
 ·have d:(v,u)∈G.U:=bN.mpr ⟨b,a⟩
  rw[<- kr O.abM d (net c)];refine aJ fun f hf => ?_;obtain⟨p,q⟩:=f;obtain⟨e,hf⟩:=bN.mp hf;dsimp only at *
  rw[Bl,ay (show ¬(q=v/\p=u) from fun z=>by rw[z.1,z.2] at hf;omega),
   aD (p:=p=v/\q=u) (q:=(p,q)=(v,u)) ⟨fun z=>by rw[z.1,z.2],fun z=>CM z⟩,E4]
 ·have d:(u,v)∈G.U:=bN.mpr ⟨O.sym b,by dsimp only at *;omega⟩
  rw[yT,<- kr O.abM d (net c),<- ahv];refine aJ fun f hf => ?_;obtain⟨p,q⟩:=f;obtain⟨e,hf⟩:=bN.mp hf;dsimp only at *
  rw[Bl,ay (show ¬(p=v/\q=u) from fun z=>by rw[z.1,z.2] at hf;omega),
   aD (p:=q=v/\p=u) (q:=(p,q)=(u,v)) ⟨fun z=>by rw[z.1,z.2],fun z=>⟨(CM z).2,(CM z).1⟩⟩]
  grind
theorem agK{c:Nat×Nat->Int}(n:G.Flow c){u v:Nat}(h:(u,v)∈G.W):G.Pre c v (G.nx u v)=G.Pre c v u+net c (v,u):=by
 have g:=O.sym h;have o:=O.nxm h;rw[<- O.aej g];rcases O.ro h with⟨l,i⟩|⟨i,m⟩
 ·generalize G.nx u v=w at *
  unfold Pre;rw[<- eG];have key:∀j,(v,j)∈G.W->ind (G.prec v j w)=ind (G.prec v j u)+ind (j=u):=by
   intro j d
   by_cases e:j=u
   ·subst e
    rw[aN l,ay Ok0.bT,aN rfl];rfl
   ·rw[ay e,aD (p:=G.prec v j w) (q:=G.prec v j u)]
    ·omega
    ·refine⟨fun q => ?_,fun q=>Ok0.fI q l⟩
     rcases O.cY d g e with z|z
     ·exact z
     ·exact absurd q (i j d z)
  refine aJ fun f hf => ?_;obtain⟨p,q⟩:=f;obtain⟨a,hf⟩:=bN.mp hf;dsimp only at *
  rw[<- Cw]
  congr 1
  by_cases c1:p=v
  ·subst c1
   have b:q≠p:=fun e=>by rw[e] at hf;omega
   have k:=key q a;rw[ay (show ¬(q=p/\G.prec p p w) from fun z=>b z.1),ay (show ¬(q=p/\G.prec p p u) from fun z=>b z.1),ay (show ¬(q=p/\p=u) from fun z=>b z.1),
    aD (p:=p=p/\G.prec p q w) (q:=G.prec p q w) ⟨Ec,fun z=>⟨rfl,z⟩⟩,aD (p:=p=p/\G.prec p q u) (q:=G.prec p q u) ⟨Ec,fun z=>⟨rfl,z⟩⟩,
    aD (p:=p=p/\q=u) (q:=q=u) ⟨Ec,fun z=>⟨rfl,z⟩⟩]
   omega
  ·rw[ay (show ¬(p=v/\G.prec v q w) from fun z=>c1 z.1),ay (show ¬(p=v/\G.prec v q u) from fun z=>c1 z.1),ay (show ¬(p=v/\q=u) from fun z=>c1 z.1)]
   by_cases c2:q=v
   ·subst c2
    have k:=key p (O.sym a);rw[aD (p:=q=q/\G.prec q p w) (q:=G.prec q p w) ⟨Ec,fun z=>⟨rfl,z⟩⟩,aD (p:=q=q/\G.prec q p u) (q:=G.prec q p u) ⟨Ec,fun z=>⟨rfl,z⟩⟩,
     aD (p:=q=q/\p=u) (q:=p=u) ⟨Ec,fun z=>⟨rfl,z⟩⟩]
    omega
   ·rw[ay (show ¬(q=v/\G.prec v p w) from fun z=>c2 z.1),ay (show ¬(q=v/\G.prec v p u) from fun z=>c2 z.1),ay (show ¬(q=v/\p=u) from fun z=>c2 z.1)]
    omega
 ·generalize G.nx u v=w at *
  have z:G.Pre c v w=0:=by
   unfold Pre;rw[<- gE G.U];refine aJ fun f hf => ?_;obtain⟨p,q⟩:=f;obtain⟨a,hf⟩:=bN.mp hf;dsimp only at *
   rw[ay (show ¬(p=v/\G.prec v q w) from fun z=>m q (z.1▸a) z.2),ay (show ¬(q=v/\G.prec v p w) from fun z=>m p (z.1▸O.sym a) z.2)];omega
  rw[z];have k:=n v;rw[<- k];unfold Pre;rw[<- eG];have key:∀j,(v,j)∈G.W->1=ind (G.prec v j u)+ind (j=u):=by
   intro j d
   by_cases e:j=u
   ·subst e
    rw[ay Ok0.bT,aN rfl];rfl
   ·rw[ay e,aN (p:=G.prec v j u)]
    ·rfl
    ·rcases O.cY d g e with z|z
     ·exact z
     ·exact absurd z (i j d)
  refine aJ fun f hf => ?_;obtain⟨p,q⟩:=f;obtain⟨a,hf⟩:=bN.mp hf;dsimp only at *
  rw[<- Cw]
  congr 1
  by_cases c1:p=v
  ·subst c1
   have b:q≠p:=fun e=>by rw[e] at hf;omega
   have k:=key q a;rw[ay (show ¬(q=p) from fun z=>b z),ay (show ¬(q=p/\G.prec p p u) from fun z=>b z.1),ay (show ¬(q=p/\p=u) from fun z=>b z.1),
    aN (show p=p from rfl),aD (p:=p=p/\G.prec p q u) (q:=G.prec p q u) ⟨Ec,fun z=>⟨rfl,z⟩⟩,
    aD (p:=p=p/\q=u) (q:=q=u) ⟨Ec,fun z=>⟨rfl,z⟩⟩]
   omega
  ·rw[ay c1,ay (show ¬(p=v/\G.prec v q u) from fun z=>c1 z.1),ay (show ¬(p=v/\q=u) from fun z=>c1 z.1)]
   by_cases c2:q=v
   ·subst c2
    have k:=key p (O.sym a);rw[aN (show q=q from rfl),aD (p:=q=q/\G.prec q p u) (q:=G.prec q p u) ⟨Ec,fun z=>⟨rfl,z⟩⟩,
     aD (p:=q=q/\p=u) (q:=p=u) ⟨Ec,fun z=>⟨rfl,z⟩⟩]
    omega
   ·rw[ay c2,ay (show ¬(q=v/\G.prec v p u) from fun z=>c2 z.1),ay (show ¬(q=v/\p=u) from fun z=>c2 z.1)]
    omega
theorem ai2{c:Nat×Nat->Int}(a:G.Flow c){u v:Nat}(h:(u,v)∈G.W):G.L c (v,G.nx u v)=G.L c (u,v):=by
 have e1:=O.ahb a (O.nxm h);have b:=O.ahb a (O.sym h);have d:=O.agK a h;have e:=O.afT (c:=c) (O.sym h);omega
end Ok
end Net
theorem filter_lt{α:Type}{l:List α}{p q:α->Bool}(h:∀a∈l,p a=true->q a=true){b:α}(j:b∈l)(m:q b=true)(n:p b=false):
  (l.filter p).length<(l.filter q).length:=by
 induction l with
 | nil=>cases j
 | cons a r g =>
  have f:∀c∈r,p c=true->q c=true:=fun c o=>h c (Ac _ o);have le:∀{r:List α},(∀c∈r,p c=true->q c=true)->(r.filter p).length<=(r.filter q).length:=by
   intro r f
   induction r with
   | nil=>exact Ak _
   | cons c s g =>
    have i:=g fun d u=>f d (Ac _ u);have k:=f c (Ad ..)
    by_cases pc:p c=true
    ·rw[Bz pc,Bz (k pc)];simp only[A7];omega
    ·rw[BF pc]
     by_cases qc:q c=true
     ·rw[Bz qc];simp only[A7];omega
     ·rw[BF qc];exact i
  rcases Am.mp j with e|e
  ·subst e
   have:=le f;rw[BF (by rw[n];exact AS),Bz m];simp only[A7];omega
  ·have i:=g f e
   have k:=h a (Ad ..)
   by_cases pc:p a=true
   ·rw[Bz pc,Bz (k pc)];simp only[A7];omega
   ·rw[BF pc]
    by_cases qc:q a=true
    ·rw[Bz qc];simp only[A7];omega
    ·rw[BF qc];exact i
namespace Net
variable(G:Net)
noncomputable def gam(c:Nat×Nat->Int)(e:Nat×Nat):Int:=G.L c e-c e
noncomputable def phi(e:Nat×Nat):Nat×Nat:=(e.2,G.nx e.1 e.2)
noncomputable def it:Nat->Nat×Nat->Nat×Nat
 | 0,e=>e
 | k+1,e=>G.phi (it k e)
structure afr:Prop where
 all:∀P:Nat->Prop,P 0->(∀i j,(i,j)∈G.W->P i->P j)->∀i,i<G.n->P i
 but:∀p,p<G.n->∀P:Nat->Prop,P (if p=0 then 1 else 0)->(∀i j,(i,j)∈G.W->i≠p->j≠p->P i->P j)->∀i,i<G.n->i≠p->P i
variable {G}
namespace Ok
variable(O:G.Ok)
include O
theorem mR{c:Nat×Nat->Int}{v k:Nat}(h:(v,k)∈G.W):G.gam c (v,k)=G.gam c (k,v):=by
 have e:=O.afT (c:=c) h;unfold gam;unfold net at e;dsimp only at e;omega
theorem aat{c:Nat×Nat->Int}(a:G.Flow c){u v:Nat}(h:(u,v)∈G.W)(e:c (v,G.nx u v)=c (u,v)):G.gam c (v,G.nx u v)=G.gam c (v,u):=by
 rw[O.mR (O.sym h)];have:=O.ai2 a h;unfold gam;omega
theorem qX{c:Nat×Nat->Int}(i:G.Flow c){v:Nat}(n:∀u,(u,v)∈G.W->c (v,G.nx u v)=c (u,v)):
  ∀(m:Nat)(k:Nat),(v,k)∈G.W->(G.W.filter fun e=>decide (e.1=v/\G.prec v k e.2)).length<=m ->
   ∃f,(v,f)∈G.W/\(∀j,(v,j)∈G.W->¬G.prec v j f)/\G.gam c (v,k)=G.gam c (v,f):=by
 intro m
 induction m with
 | zero =>
  intro k o s;have b:=O.sym o;rcases O.ro b with⟨d,_⟩|⟨_,r⟩
  ·exfalso
   have g:=O.nxm b;have:(v,G.nx k v)∈G.W.filter fun e=>decide (e.1=v/\G.prec v k e.2):=by
    rw[Bw];exact⟨g,by simpa using d⟩
   have:=List.length_pos_of_mem this;omega
  ·exact⟨G.nx k v,O.nxm b,r,(O.aat i b (n k b)).symm⟩
 | succ m w =>
  intro k o s;have b:=O.sym o;rcases O.ro b with⟨d,_⟩|⟨_,r⟩
  ·have g:=O.nxm b
   have lt:=filter_lt (l:=G.W) (p:=fun e=>decide (e.1=v/\G.prec v (G.nx k v) e.2)) (q:=fun e=>decide (e.1=v/\G.prec v k e.2))
    (fun a _ h=>by
     simp only[A5] at h ⊢;exact⟨h.1,Ok0.fI d h.2⟩) g (by simpa using d) (by simpa using Ok0.bT)
   obtain⟨f,y,z,A⟩:=w (G.nx k v) g (by omega);exact⟨f,y,z,(O.aat i b (n k b)).symm.trans A⟩
  ·exact⟨G.nx k v,O.nxm b,r,(O.aat i b (n k b)).symm⟩
theorem rJ{c:Nat×Nat->Int}(g:G.Flow c){v:Nat}(i:∀u,(u,v)∈G.W->c (v,G.nx u v)=c (u,v)){j k:Nat}(n:(v,j)∈G.W)(o:(v,k)∈G.W):
  G.gam c (v,j)=G.gam c (v,k):=by
 obtain⟨f,l,p,q⟩:=O.qX g i _ j n (Ak _);obtain⟨m,a,b,d⟩:=O.qX g i _ k o (Ak _);have e:f=m:=by
  refine AU fun r => ?_;rcases O.cY l a r with z|z
  ·exact b f l z
  ·exact p m a z
 rw[q,d,e]
theorem aeQ{c:Nat×Nat->Int}(d:G.Flow c)(C:G.afr)(f:∀u v,(u,v)∈G.W->c (v,G.nx u v)=c (u,v)):∃g,∀e∈G.W,G.gam c e=g:=by
 by_cases ex:∃k,(0,k)∈G.W
 ·obtain⟨k,p⟩:=ex
  refine⟨G.gam c (0,k),?_⟩;have:=C.all (fun i=>∀j,(i,j)∈G.W->G.gam c (i,j)=G.gam c (0,k)) (fun j m=>O.rJ d (fun u b=>f u 0 b) m p)
   (fun i j a n l o=>by
    rw[<- n j a,O.mR a];exact O.rJ d (fun u b=>f u j b) o (O.sym a))
  intro e he;exact this e.1 (O.lt (i:=e.1) (j:=e.2) he).1 e.2 he
 ·refine⟨0,?_⟩
  have:=C.all (fun i=>∀j,(i,j)∈G.W->G.gam c (i,j)=0) (fun j m=>absurd ⟨j,m⟩ ex)
   (fun i j a n l o=>by
    rw[<- n j a,O.mR a];exact O.rJ d (fun u b=>f u j b) o (O.sym a))
  intro e he;exact this e.1 (O.lt (i:=e.1) (j:=e.2) he).1 e.2 he
theorem aeu{c:Nat×Nat->Int}(q:G.Flow c)(C:G.afr){p:Nat}(r:p<G.n)(s:∀u v,(u,v)∈G.W->v≠p->c (v,G.nx u v)=c (u,v)):∃g,∀e∈G.W,G.gam c e=g:=by
 have w:(if p=0 then 1 else 0)≠p:=by split <;> omega
 have d:∀g,(∀i,i<G.n->i≠p->∀j,(i,j)∈G.W->G.gam c (i,j)=g)->∀e∈G.W,G.gam c e=g:=by
  intro g h e he;obtain⟨i,j⟩:=e
  by_cases ip:i=p
  ·have f:j≠p:=fun e=>O.ne he (ip.trans e.symm)
   rw[O.mR he];exact h j (O.lt he).2 f i (O.sym he)
  ·exact h i (O.lt he).1 ip j he
 have a:∀g i j,(i,j)∈G.W->i≠p->j≠p->(∀l,(i,l)∈G.W->G.gam c (i,l)=g)->∀l,(j,l)∈G.W->G.gam c (j,l)=g:=by
  intro g i j b _ f y l z;rw[<- y j b,O.mR b];exact O.rJ q (fun u m=>s u j m f) z (O.sym b)
 by_cases ex:∃k,((if p=0 then 1 else 0),k)∈G.W
 ·obtain⟨k,A⟩:=ex
  exact⟨_,d _ (C.but p r _ (fun j o=>O.rJ q (fun u m=>s u _ m w) o A) (a _))⟩
 ·exact⟨0,d 0 (C.but p r _ (fun j o=>absurd ⟨j,o⟩ ex) (a 0))⟩
theorem aeE{e:Nat×Nat}(h:e∈G.W):G.phi e∈G.W:=O.nxm (u:=e.1) (v:=e.2) h
theorem tJ{e f:Nat×Nat}(he:e∈G.W)(hf:f∈G.W)(h:G.phi e=G.phi f):e=f:=by
 obtain⟨u,v⟩:=e;obtain⟨a,b⟩:=f;have c:v=b:=(CM h).1;subst c;have d:G.nx u v=G.nx a v:=(CM h).2;rw[O.afR he hf d]
theorem bP{e:Nat×Nat}(h:e∈G.W):∀k,G.it k e∈G.W
 | 0=>h
 | k+1=>O.aeE (bP h k)
omit O in
theorem gJ(k:Nat)(e:Nat×Nat):G.it (k+1) e=G.phi (G.it k e):=rfl
omit O in
theorem fE(j k:Nat)(e:Nat×Nat):G.it (j+k) e=G.it j (G.it k e):=by
 induction j with
 | zero=>rw[Ks];rfl
 | succ j a=>rw[Nat.succ_add,gJ,gJ,a]
theorem yI{e f:Nat×Nat}(he:e∈G.W)(hf:f∈G.W):∀k,G.it k e=G.it k f->e=f
 | 0,h=>h
 | k+1,h=>yI he hf k (O.tJ (O.bP he k) (O.bP hf k) h)
theorem qa{e:Nat×Nat}(he:e∈G.W){i j:Nat}(a:i<=j)(h:G.it i e=G.it j e):G.it (j-i) e=e:=by
 have e1:G.it j e=G.it i (G.it (j-i) e):=by rw[<- fE];congr 1;omega
 exact(O.yI he (O.bP he _) i (h.trans e1)).symm
theorem ahu{e:Nat×Nat}(he:e∈G.W):∃m,0<m/\m<=G.W.length/\G.it m e=e/\∀k,0<k->k<m->G.it k e≠e:=by
 have g:∃m,0<m/\m<=G.W.length/\G.it m e=e:=by
  refine AU fun p => ?_;have q:((An (G.W.length+1)).map fun k=>G.it k e).Nodup:=by
   unfold Fv;rw[C4];refine EE ?_ (Dg (n:=G.W.length+1));intro a b _ r lt s;rw[A6] at r;exact p ⟨b-a,by omega,by omega,O.qa he (by omega) s⟩
  have:=q.length_le_of_subset (l₂:=G.W) (by
   intro x u;obtain⟨k,_,rfl⟩:=Ax.mp u;exact O.bP he k)
  rw[Ab,AG] at this;omega
 obtain⟨m,i,w,j⟩:=g;have:∀m,0<m->G.it m e=e->∃f,0<f/\f<=m/\G.it f e=e/\∀k,0<k->k<f->G.it k e≠e:=by
  intro m
  induction m using J5 with
  | _ m v =>
   intro i j
   by_cases g:∃k,0<k/\k<m/\G.it k e=e
   ·obtain⟨k,k1,l,o⟩:=g
    obtain⟨f,a,b,c,d⟩:=v k l k1 o;exact⟨f,a,by omega,c,d⟩
   ·exact⟨m,i,Ak _,j,fun k k1 l o=>g ⟨k,k1,l,o⟩⟩
 obtain⟨f,a,b,c,d⟩:=this m i j;exact⟨f,a,by omega,c,d⟩
theorem gL{e:Nat×Nat}(he:e∈G.W){m:Nat}(c:∀k,0<k->k<m->G.it k e≠e){i j:Nat}(l:j<=m):((CN i (j-i)).map fun k=>G.it k e).Nodup:=by
 unfold Fv;rw[C4];refine EE ?_ (List.pairwise_lt_range' (s:=i) (n:=j-i));intro a b d f lt g;rw[Ej] at d f;exact c (b-a) (by omega) (by omega) (O.qa he (by omega) g)
def ajj(ws:List (Nat×Nat)):Prop:=∀w,sm ws (fun e=>ind (e.1=w))=sm ws (fun e=>ind (e.2=w))
theorem zc(F:Nat×Nat->Int):sm G.W F=sm G.U (fun f=>F f+F (f.2,f.1)):=by
 have h:(G.W.filter fun f=>decide (¬G.h f.1<G.h f.2)).Perm (G.U.map fun f=>(f.2,f.1)):=by
  rw[Et (O.nod.filter _)]
  ·intro a
   rw[Bw,Ax]
   constructor
   ·intro ⟨c,d⟩
    refine⟨(a.2,a.1),bN.mpr ⟨O.sym c,?_⟩,rfl⟩;have:=O.hne (i:=a.1) (j:=a.2) c;simp only[A5] at d;dsimp only;omega
   ·rintro⟨f,hf,rfl⟩
    obtain⟨c,d⟩:=bN.mp hf;refine⟨O.sym c,?_⟩;simp only[A5];omega
  ·unfold Fv
   rw[C4];refine List.Pairwise.imp ?_ O.abM;intro a b g e;exact g (JM (CM e).2 (CM e).1)
 have e:sm G.W F=sm G.U F+sm (G.W.filter fun f=>decide (¬G.h f.1<G.h f.2)) F:=by
  unfold U;rw[jK G.W (fun f=>G.h f.1<G.h f.2),jK G.W (fun f=>¬G.h f.1<G.h f.2),<- eG];refine aJ fun f _ => ?_
  by_cases h:G.h f.1<G.h f.2
  ·rw[aN h,ay (fun z=>z h)];omega
  ·rw[ay h,aN h];omega
 rw[e,aac h,af2,<- eG]
theorem agY{ws:List (Nat×Nat)}(b:ws.Nodup)(c:∀e∈ws,e∈G.W)(F:Nat×Nat->Int):sm G.W (fun e=>ind (e∈ws)*F e)=sm ws F:=by
 rw[<- jK G.W (fun e=>e∈ws)];refine aac ?_ F;rw[Et (O.nod.filter _) b];intro a;rw[Bw];exact⟨fun z=>by simpa using z.2,fun z=>⟨c a z,by simpa using z⟩⟩
theorem aaO{ws:List (Nat×Nat)}(a:ws.Nodup)(b:∀e∈ws,e∈G.W)(he:ajj ws):G.Flow (fun e=>ind (e∈ws)):=by
 intro w;have k:=O.zc (fun e=>ind (e∈ws)*(ind (e.1=w)-ind (e.2=w)));rw[O.agY a b,mS,he w] at k;rw[Fd] at k;rw[k];refine aJ fun f _ => ?_;unfold net;dsimp only
 grind
omit O in
theorem af1(k:Nat)(e:Nat×Nat):(G.it k e).2=(G.it (k+1) e).1:=rfl
omit O in
theorem vP{w:Nat}{e:Nat×Nat}:∀(n i:Nat),sm ((CN i n).map fun k=>G.it k e) (fun e=>ind (e.1=w))+ind ((G.it (i+n) e).1=w)=sm ((CN i n).map fun k=>G.it k e) (fun e=>ind (e.2=w))+ind ((G.it i e).1=w)
 | 0,i=>by simp[sm]
 | n+1,i=>by
  have a:=vP (w:=w) (e:=e) n (i+1);rw[Jp,AA,bh,bh,af1];rw[show i+1+n=i+(n+1) by omega] at a;omega
omit O in
theorem u7{e:Nat×Nat}{i j:Nat}(a:i<=j)(h:(G.it i e).1=(G.it j e).1):ajj ((CN i (j-i)).map fun k=>G.it k e):=by
 intro w;have k:=vP (G:=G) (w:=w) (e:=e) (j-i) i;rw[show i+(j-i)=j by omega,h] at k;omega
omit O in
theorem aax{e:Nat×Nat}{m k:Nat}(a:G.it m e=e)(c:0<m):G.it k e∈((An m).map fun k=>G.it k e):=by
 induction k using J5 with
 | _ k b =>
  by_cases h:k<m
  ·exact Ax.mpr ⟨k,A6.mpr h,rfl⟩
  ·have:=b (k-m) (by omega)
   rw[show k=(k-m)+m by omega,fE,a];exact this
theorem once{e:Nat×Nat}(he:e∈G.W)(C:G.afr){m:Nat}(X:G.it m e=e)(w:∀k,0<k->k<m->G.it k e≠e){i j:Nat}(I:i<j)(J:j<m):(G.it i e).1≠(G.it j e).1:=by
 intro y;have M:=O.gL he w (i:=i) (j:=j) (by omega);have P:∀f∈((CN i (j-i)).map fun k=>G.it k e),f∈G.W:=by
  intro f hf;obtain⟨k,_,rfl⟩:=Ax.mp hf;exact O.bP he k
 have fl:=O.aaO M P (u7 (by omega) y);have a:∀k,i<=k->k<j->G.it k e∈((CN i (j-i)).map fun k=>G.it k e):=fun k A R =>
  Ax.mpr ⟨k,Ej.mpr ⟨A,by omega⟩,rfl⟩
 have o:∀k,j<=k->k<m->¬G.it k e∈((CN i (j-i)).map fun k=>G.it k e):=by
  intro k A R h;obtain⟨l,c,e1⟩:=Ax.mp h;rw[Ej] at c;exact w (k-l) (by omega) (by omega) (O.qa he (by omega) e1)
 have pn:=(O.lt (i:=(G.it i e).1) (j:=(G.it i e).2) (O.bP he i)).1;obtain⟨g,B⟩:=O.aeu fl C pn (fun u v p E=>by
  refine aD ⟨fun h => ?_,fun h => ?_⟩
  ·obtain⟨l,c,e1⟩:=Ax.mp h
   rw[Ej] at c;have Y:l≠i:=fun z=>E (by
    have b:=B2 HH e1;dsimp only at b;rw[<- z,<- b])
   obtain⟨n,rfl⟩:∃n,l=n+1:=⟨l-1,by omega⟩;rw[gJ] at e1;have d:=O.tJ (O.bP he n) p e1;rw[<- d];exact a n (by omega) (by omega)
  ·obtain⟨l,c,e1⟩:=Ax.mp h
   rw[Ej] at c;have b:G.phi (G.it l e)=(v,G.nx u v):=by rw[e1];rfl
   have Z:l+1≠j:=fun z=>E (by
    have d:=B2 HH b;rw[<- gJ,z] at d;dsimp only at d;rw[y,d])
   rw[<- b,<- gJ];exact a (l+1) (by omega) (by omega))
 have H:=O.bP he (j-1);have q:=B _ H;have r:=B _ (O.bP he j);have e1:G.it j e=G.phi (G.it (j-1) e):=by rw[<- gJ];congr 1;omega
 have a3:=O.ai2 fl (u:=(G.it (j-1) e).1) (v:=(G.it (j-1) e).2) H;have S:ind (G.it (j-1) e∈((CN i (j-i)).map fun k=>G.it k e))=1:=aN (a (j-1) (by omega) (by omega));have T:ind (G.it j e∈((CN i (j-i)).map fun k=>G.it k e))=0:=ay (o j (Ak _) J);unfold gam at q r;dsimp only at q r;rw[S] at q;rw[T] at r;have b:G.it j e=((G.it (j-1) e).2,G.nx (G.it (j-1) e).1 (G.it (j-1) e).2):=e1;rw[<- b] at a3;have a4:G.L (fun s=>ind (s∈((CN i (j-i)).map fun k=>G.it k e))) (G.it j e)=G.L (fun s=>ind (s∈((CN i (j-i)).map fun k=>G.it k e))) (G.it (j-1) e):=a3;omega
theorem aik{e:Nat×Nat}(he:e∈G.W)(C:G.afr){m:Nat}(d:0<m)(a:G.it m e=e)(q:∀k,0<k->k<m->G.it k e≠e):
  G.Flow (fun f=>ind (f∈((An m).map fun k=>G.it k e)))/\∃g,∀f∈G.W,G.L (fun f=>ind (f∈((An m).map fun k=>G.it k e))) f=g+ind (f∈((An m).map fun k=>G.it k e)):=by
 have n:=O.gL he q (i:=0) (j:=m) (Ak _);have o:=u7 (e:=e) (i:=0) (j:=m) (AN _) (by rw[a];rfl);rw[DU,<- DF] at n o;have r:∀f∈((An m).map fun k=>G.it k e),f∈G.W:=by
  intro f hf;obtain⟨k,_,rfl⟩:=Ax.mp hf;exact O.bP he k
 have fl:=O.aaO n r o;refine⟨fl,?_⟩;obtain⟨g,s⟩:=O.aeQ fl C (fun u v b=>by
  refine aD ⟨fun h => ?_,fun h => ?_⟩
  ·obtain⟨l,p,e1⟩:=Ax.mp h
   rw[A6] at p;have c:G.it (l+m) e=G.phi (u,v):=by rw[fE,a,e1];rfl
   have w:G.phi (G.it (l+m-1) e)=G.phi (u,v):=by rw[<- gJ,<- c];congr 1;omega
   rw[<- O.tJ (O.bP he _) b w];exact aax a d
  ·obtain⟨l,p,e1⟩:=Ax.mp h
   have c:G.it (l+1) e=(v,G.nx u v):=by rw[gJ,e1];rfl
   rw[<- c];exact aax a d)
 refine⟨g,fun f hf => ?_⟩;have:=s f hf;unfold gam at this;dsimp only at this;omega
end Ok
end Net
noncomputable def prod{α:Type}(f:α->Int):List α->Int
 | []=>1
 | a::r=>f a*prod f r
theorem wo{α:Type}{f:α->Int}:∀{l:List α},(∀a∈l,0<f a)->0<prod f l
 | [],_=>(by decide:(0:Int)<1)
 | a::r,h=>Bk (h a (Ad ..)) (wo fun b c=>h b (Ac _ c))
theorem wy{α:Type}{f:α->Int}:∀{l:List α}{a:α},a∈l->∃m,f a*m=prod f l
 | b::r,a,h=>by
  rcases Am.mp h with e|e
  ·subst e;exact⟨prod f r,rfl⟩
  ·obtain⟨m,c⟩:=wy (f:=f) e
   refine⟨f b*m,?_⟩;show f a*(f b*m)=f b*prod f r;rw[<- c];grind
namespace Net
variable(G:Net)
noncomputable def x(i:Nat):Int:=(G.P i).x
noncomputable def D(f:Nat×Nat):Int:=G.h f.2-G.h f.1
noncomputable def N(s:Int)(f:Nat×Nat):Int:=G.x f.1*(G.h f.2-s)+G.x f.2*(s-G.h f.1)
noncomputable def PP:Int:=prod G.D G.U
noncomputable def key(s:Int)(f:Nat×Nat):Int:=G.N s f*(G.PP / G.D f)
def at_(s:Int)(f:Nat×Nat):Prop:=G.h f.1<s/\s<G.h f.2
instance (s:Int) (f:Nat×Nat):Decidable (G.at_ s f):=by unfold at_;infer_instance
def sl(s:Int)(e:Nat×Nat)(w:Nat):Prop:=G.h e.1<G.h w/\G.h w<s/\G.t e.1 e.2 w<0
instance (s:Int) (e:Nat×Nat) (w:Nat):Decidable (G.sl s e w):=by unfold sl;infer_instance
variable {G}
theorem xy{f:Nat×Nat}(hf:f∈G.U):0<G.D f:=by
 have:=(bN.mp hf).2;unfold D;omega
theorem zr:0<G.PP:=wo fun _=>xy
theorem share{f:Nat×Nat}(hf:f∈G.U):G.D f*(G.PP / G.D f)=G.PP/\0<G.PP / G.D f:=by
 obtain⟨m,a⟩:=wy (f:=G.D) hf;have c:=xy hf;have e:G.PP / G.D f=m:=by
  show prod G.D G.U / G.D f=m;rw[<- a,Int.mul_ediv_cancel_left _ (by omega)]
 have d:G.D f*m=G.PP:=a;rw[e];refine⟨d,?_⟩;have:=zr (G:=G);exact bq (b:=G.D f) (by rw[Bl];omega) c
noncomputable def F(G:Net)(s:Int)(e f:Nat×Nat):Int:=G.D e*G.N s f-G.D f*G.N s e
theorem aid{s:Int}{e f:Nat×Nat}(he:e∈G.U)(hf:f∈G.U):G.D e*G.D f*(G.key s f-G.key s e)=G.PP*F G s e f:=by
 obtain⟨g,_⟩:=share he;obtain⟨i,_⟩:=share hf;unfold key F;generalize G.PP / G.D e=a at *
 generalize G.PP / G.D f=b at *
 generalize G.PP=P at *
 generalize G.D e=d at *
 generalize G.D f=d' at *
 generalize G.N s f=n at *
 generalize G.N s e=c at *
 have:d*d'*(n*b-c*a)=d*n*(d'*b)-d'*c*(d*a):=by grind
 rw[this,g,i];grind
theorem ag6{s:Int}{e f:Nat×Nat}(he:e∈G.U)(hf:f∈G.U):G.key s e<=G.key s f↔0<=F G s e f:=by
 have k:=aid (s:=s) he hf;have a:=Bk (xy he) (xy hf);have b:=zr (G:=G)
 constructor
 ·intro h
  refine D0.mp fun z => ?_;have:=cO b z;have h':0<=G.key s f-G.key s e:=by omega
  have:=Be (Dd a) h';omega
 ·intro h
  refine D0.mp fun z => ?_;have h':G.key s f-G.key s e<0:=by omega
  have:=cO a h';have:=Be (Dd b) h;omega
theorem ail(s a b:Int)(e f:Nat×Nat):F G s e f*(b-a)=F G a e f*(b-s)+F G b e f*(s-a):=by
 unfold F N;grind
theorem afF(e f:Nat×Nat):F G (G.h e.1) e f=G.D e*G.t f.1 f.2 e.1:=by
 unfold F N D t tn h x;grind
theorem af4(e f:Nat×Nat):F G (G.h e.2) e f=G.D e*G.t f.1 f.2 e.2:=by
 unfold F N D t tn h x;grind
theorem agv(e f:Nat×Nat):F G (G.h f.1) e f = - (G.D f*G.t e.1 e.2 f.1):=by
 unfold F N D t tn h x;grind
theorem age(e f:Nat×Nat):F G (G.h f.2) e f = - (G.D f*G.t e.1 e.2 f.2):=by
 unfold F N D t tn h x;grind
theorem zD{a b s Fs Fa Fb:Int}(g:a<s)(i:s<b)(e:Fs*(b-a)=Fa*(b-s)+Fb*(s-a))(c:0<=Fa)(d:0<=Fb)(f:0<Fa\/0<Fb):0<Fs:=by
 refine bq (b:=b-a) ?_ (by omega);have j:=Be c (show 0<=b-s by omega);have l:=Be d (show 0<=s-a by omega);rcases f with z|z
 ·have:=Bk z (show 0<b-s by omega);omega
 ·have:=Bk z (show 0<s-a by omega);omega
theorem adZ{a b s Fs Fa Fb:Int}(c:a<s)(d:s<b)(e:Fs*(b-a)=Fa*(b-s)+Fb*(s-a))(f:Fa<=0)(g:Fb<=0)(i:Fa<0\/Fb<0):Fs<0:=by
 have:=zD (Fs := -Fs) (Fa := -Fa) (Fb := -Fb) c d (by rw[Dk,Dk,Dk];omega) (by omega) (by omega) (by omega);omega
theorem eE{a b s Fs Fa Fb o p c d:Int}{X:Prop}(q:a<s)(r:s<b)(e:Fs*(b-a)=Fa*(b-s)+Fb*(s-a))(f:Fa=o*c)(g:Fb=p*d)(i:0<o)(j:0<p)(u:X->0<=c/\0<=d/\(0<c\/0<d))(v:¬X->c<=0/\d<=0/\(c<0\/d<0)):Fs≠0/\(0<Fs↔X):=by
 by_cases x:X
 ·obtain⟨l,m,n⟩:=u x
  have:0<Fs:=zD q r e (by rw[f];exact Be (Dd i) l) (by rw[g];exact Be (Dd j) m)
   (n.elim (fun z=>.inl (by rw[f];exact Bk i z)) fun z=>.inr (by rw[g];exact Bk j z))
  exact⟨by omega,fun _=>x,fun _=>this⟩
 ·obtain⟨l,m,n⟩:=v x
  have:Fs<0:=adZ q r e (by rw[f];exact D1 (Dd i) l) (by rw[g];exact D1 (Dd j) m)
   (n.elim (fun z=>.inl (by rw[f];exact cO i z)) fun z=>.inr (by rw[g];exact cO j z))
  exact⟨by omega,fun z=>by omega,fun z=>absurd z x⟩
theorem aco{a b:Int}(k:0<a↔0<b)(c:a≠0)(d:b≠0):(0<a->0<=a/\0<=b/\(0<a\/0<b))/\(¬0<a->a<=0/\b<=0/\(a<0\/b<0)):=by omega
theorem ahn{a b:Int}(c:a≠0)(d:b=0):(0<a->0<=a/\0<=b/\(0<a\/0<b))/\(¬0<a->a<=0/\b<=0/\(a<0\/b<0)):=by omega
theorem agx{a b:Int}(c:a=0)(d:b≠0):(0<b->0<=a/\0<=b/\(0<a\/0<b))/\(¬0<b->a<=0/\b<=0/\(a<0\/b<0)):=by omega
theorem aed{a b:Int}(h:¬a<b)(n:a≠b):b<a:=by omega
theorem adv{a:Int}:0 < -a↔a<0:=by omega
theorem t9{a:Int}(h:a≠0): -a≠0:=by omega
theorem aha{a b:Int}(k:0<a↔b<0)(c:a≠0)(d:b≠0):(0<a↔0 < -b)/\(0 < -a↔0<b):=by omega
theorem ah1{a b:Int}(k:0<a↔0<b)(c:a≠0)(d:b≠0):(0 < -a↔0 < -b):=by omega
namespace Ok
variable(O:G.Ok)
include O
theorem side{s:Int}{e f:Nat×Nat}(he:e∈G.U)(hf:f∈G.U)(ne:f≠e)(l:G.at_ s e)(n:G.at_ s f):
  F G s e f≠0/\(0<F G s e f↔(G.bot e f\/G.sl s e f.1))/\¬(G.bot e f/\G.sl s e f.1):=by
 have o:=xy he;have R:=xy hf;have S:=afF (G:=G) e f;have T:=af4 (G:=G) e f;have Y:=agv (G:=G) e f;have Z:=age (G:=G) e f;rw[<- KD] at Y Z;obtain⟨u,v⟩:=e;obtain⟨p,q⟩:=f;obtain⟨H,he⟩:=bN.mp he;obtain⟨I,hf⟩:=bN.mp hf;have A:=fun a b=>ail (G:=G) s a b (u,v) (p,q);unfold at_ at l n;dsimp only at he hf S T Y Z l n ⊢;have iu:=(O.lt H).1;have iv:=(O.lt H).2;have ip:=(O.lt I).1;have iq:=(O.lt I).2;have pu:=(O.heq ip iu).mp;have qv:=(O.heq iq iv).mp;have a5:=fun a b=>O.on I iu a b;have a0:=fun a b=>O.on I iv a b;have a6:=fun a b=>O.on H ip a b;have a3:=fun a b=>O.on H iq a b;have cr:¬og (G.P p) (G.P q) (G.P u) (G.P v):=O.cr I H;have a4:¬og (G.P u) (G.P v) (G.P p) (G.P q):=O.cr H I
 by_cases c1:p=u
 ·subst c1
  have B:q≠v:=fun z=>ne (by rw[z]);have r:=O.ray H I (Ne.symm B) (.inl ⟨he,hf⟩);have C:G.bot (p,v) (p,q)↔G.t p v q<0:=⟨fun z=>z.elim (fun w=>absurd w.1 (Ig _)) fun w=>w.2.elim (fun w=>absurd w B) id,fun z=>.inr ⟨rfl,.inr z⟩⟩;have E:¬G.sl s (p,v) p:=fun z=>Ig _ z.1;have s3:=aer (G:=G) p q;have g:F G s (p,v) (p,q)≠0/\(0<F G s (p,v) (p,q)↔0 < - G.t p v q):=by
   by_cases y:G.h q<G.h v
   ·obtain⟨i,j⟩:=agx s3 (t9 r)
    exact eE n.1 n.2 (A _ _) S Z o R i j
   ·obtain⟨i,j⟩:=agx s3 (t9 r)
    refine eE l.1 l.2 (A _ _) S ?_ o o i j;rw[T,dB]
  exact⟨g.1,(g.2.trans adv).trans ⟨fun z=>.inl (C.mpr z),fun z=>z.elim C.mp fun w=>absurd w E⟩,fun z=>E z.2⟩
 ·by_cases y1:G.h p<G.h u
  ·have uq:G.h u<G.h q:=Hk l.1 n.2
   have C:G.bot (u,v) (p,q)↔0<G.t p q u:=⟨fun z=>z.elim (fun w=>w.2.2) fun w=>absurd w.1 c1,fun z=>.inl ⟨y1,uq,z⟩⟩;have E:¬G.sl s (u,v) p:=fun z=>Kt y1 z.1;have W:=a5 y1 uq;have g:F G s (u,v) (p,q)≠0/\(0<F G s (u,v) (p,q)↔0<G.t p q u):=by
    by_cases B:q=v
    ·subst B
     obtain⟨i,j⟩:=ahn W (pO (G:=G) p q);exact eE l.1 l.2 (A _ _) S T o o i j
    ·by_cases y2:G.h q<G.h v
     ·have J:=a3 uq y2
      have k:0<G.t p q u↔G.t u v q<0:=ahC (a:=G.P p) (b:=G.P u) (c:=G.P q) (d:=G.P v) y1 uq y2 cr W J;obtain⟨i,j⟩:=aco (aha k W J).1 W (t9 J);exact eE l.1 n.2 (A _ _) S Z o R i j
     ·have y3:G.h v<G.h q:=aed y2 fun z=>B (qv z)
      have X:=a0 (Hk y1 he) y3;have k:0<G.t p q u↔0<G.t p q v:=ahc (a:=G.P p) (b:=G.P u) (c:=G.P v) (d:=G.P q) y1 he y3 cr W X;obtain⟨i,j⟩:=aco k W X;exact eE l.1 l.2 (A _ _) S T o o i j
   exact⟨g.1,g.2.trans ⟨fun z=>.inl (C.mpr z),fun z=>z.elim C.mp fun w=>absurd w E⟩,fun z=>E z.2⟩
  ·have m:G.h u<G.h p:=aed y1 fun z=>c1 (pu z)
   have pv:G.h p<G.h v:=Hk n.1 l.2;have C:¬G.bot (u,v) (p,q):=fun z=>z.elim (fun w=>Kt m w.1) fun w=>c1 w.1;have E:G.sl s (u,v) p↔G.t u v p<0:=⟨fun z=>z.2.2,fun z=>⟨m,n.1,z⟩⟩;have M:=a6 m pv;have g:F G s (u,v) (p,q)≠0/\(0<F G s (u,v) (p,q)↔0 < - G.t u v p):=by
    by_cases B:q=v
    ·subst B
     obtain⟨i,j⟩:=ahn (t9 M) (pO (G:=G) p q);exact eE n.1 l.2 (A _ _) Y T R o i j
    ·by_cases y2:G.h q<G.h v
     ·have J:=a3 (Hk m hf) y2
      have k:0<G.t u v p↔0<G.t u v q:=ahc (a:=G.P u) (b:=G.P p) (c:=G.P q) (d:=G.P v) m hf y2 a4 M J;obtain⟨i,j⟩:=aco (ah1 k M J) (t9 M) (t9 J);exact eE n.1 n.2 (A _ _) Y Z R R i j
     ·have y3:G.h v<G.h q:=aed y2 fun z=>B (qv z)
      have X:=a0 pv y3;have k:0<G.t u v p↔G.t p q v<0:=ahC (a:=G.P u) (b:=G.P p) (c:=G.P v) (d:=G.P q) m pv y3 a4 M X;obtain⟨i,j⟩:=aco (aha k M X).2 (t9 M) X;exact eE n.1 l.2 (A _ _) Y T R o i j
   exact⟨g.1,(g.2.trans adv).trans ⟨fun z=>.inr (E.mpr z),fun z=>z.elim (fun w=>absurd w C) E.mp⟩,fun z=>C z.1⟩
set_option maxHeartbeats 1000000 in
theorem xg{s:Int}(A:∀i,i<G.n->G.h i≠s){e f:Nat×Nat}(he:e∈G.U)(hf:f∈G.U)(j:G.at_ s e):
  ind (G.bot e f)+ind (G.sl s e f.1)=ind (G.at_ s f/\G.key s e<=G.key s f)+ind (G.sl s e f.2):=by
 by_cases ne:f=e
 ·subst ne
  have:=(bN.mp hf).2;unfold at_ at j;rw[aN (show G.bot f f from .inr ⟨rfl,.inl rfl⟩),aN (show G.at_ s f/\G.key s f<=G.key s f from⟨j,F8 _⟩),
   ay (show ¬G.sl s f f.1 by unfold sl;omega),ay (show ¬G.sl s f f.2 by unfold sl;omega)]
 ·by_cases af:G.at_ s f
  ·obtain⟨S,B,H⟩:=O.side he hf ne j af
   have C:=ag6 (s:=s) he hf;have:¬G.sl s e f.2:=by unfold sl;unfold at_ at af;omega
   rw[ay this,aD (p:=G.at_ s f/\G.key s e<=G.key s f) (q:=G.bot e f\/G.sl s e f.1) ⟨fun z=>B.mp (by have:=C.mp z.2;omega),fun z=>⟨af,C.mpr (by have:=B.mpr z;omega)⟩⟩]
   by_cases b:G.bot e f
   ·have c:¬G.sl s e f.1:=fun c=>H ⟨b,c⟩
    rw[aN b,ay c,aN (.inl b)]
   ·rw[ay b,aD (p:=G.bot e f\/G.sl s e f.1) (q:=G.sl s e f.1) ⟨fun z=>z.elim (fun w=>absurd w b) id,.inr⟩];omega
  ·rw[ay (show ¬(G.at_ s f/\G.key s e<=G.key s f) from fun z=>af z.1)]
   obtain⟨u,v⟩:=e;obtain⟨p,q⟩:=f;obtain⟨g,he⟩:=bN.mp he;obtain⟨l,hf⟩:=bN.mp hf;show ind (G.bot (u,v) (p,q))+ind (G.sl s (u,v) p)=0+ind (G.sl s (u,v) q);unfold at_ at j af;dsimp only at he hf j af;have E:=(O.lt g).1;have iv:=(O.lt g).2;have o:=(O.lt l).1;have r:=(O.lt l).2;have sp:=A p o;have T:=A q r;have I:¬og (G.P p) (G.P q) (G.P u) (G.P v):=O.cr l g;have y:¬og (G.P u) (G.P v) (G.P p) (G.P q):=O.cr g l
   by_cases z:s<G.h p
   ·have W:p≠u:=fun e=>by rw[e] at z;omega
    rw[ay (show ¬G.bot (u,v) (p,q) by unfold bot rt;dsimp only;omega),ay (show ¬G.sl s (u,v) p by unfold sl;dsimp only;omega),ay (show ¬G.sl s (u,v) q by unfold sl;dsimp only;omega)]
   ·have J:G.h q<s:=by omega
    have X:q≠v:=fun e=>by rw[e] at J;omega
    by_cases c1:p=u
    ·subst c1
     rw[ay (show ¬G.sl s (p,v) p by unfold sl;dsimp only;omega),aD (p:=G.bot (p,v) (p,q)) (q:=G.sl s (p,v) q) (by unfold bot sl rt;dsimp only;omega)];omega
    ·have Y:G.h p≠G.h u:=fun e=>c1 (O.inj o E e)
     by_cases y1:G.h p<G.h u
     ·rw[ay (show ¬G.sl s (u,v) p by unfold sl;dsimp only;omega)]
      by_cases y2:G.h u<G.h q
      ·have k:0<G.t p q u↔G.t u v q<0:=ahC (a:=G.P p) (b:=G.P u) (c:=G.P q) (d:=G.P v) y1 y2 (show G.h q<G.h v by omega) I (O.on l E y1 y2) (O.on g r y2 (by omega))
       rw[aD (p:=G.bot (u,v) (p,q)) (q:=G.sl s (u,v) q) (by unfold bot sl rt;dsimp only;omega)];omega
      ·rw[ay (show ¬G.bot (u,v) (p,q) by unfold bot rt;dsimp only;omega),ay (show ¬G.sl s (u,v) q by unfold sl;dsimp only;omega)]
     ·have m:G.h u<G.h p:=by omega
      have M:=O.on g o m (by omega);have R:=O.on g r (by omega) (by omega);have k:0<G.t u v p↔0<G.t u v q:=ahc (a:=G.P u) (b:=G.P p) (c:=G.P q) (d:=G.P v) m hf (show G.h q<G.h v by omega) y M R;rw[ay (show ¬G.bot (u,v) (p,q) by unfold bot rt;dsimp only;omega),aD (p:=G.sl s (u,v) p) (q:=G.sl s (u,v) q) (by unfold sl;dsimp only;omega)]
theorem level{c:Nat×Nat->Int}(a:G.Flow c){s:Int}(b:∀i,i<G.n->G.h i≠s){e:Nat×Nat}(he:e∈G.U)(d:G.at_ s e):
  sm G.U (fun f=>net c f*ind (G.at_ s f/\G.key s e<=G.key s f))=G.L c e:=by
 have k:=qF a (G.sl s e) O.yN;have q:sm G.U (fun f=>net c f*ind (G.bot e f)+net c f*ind (G.sl s e f.1))=sm G.U (fun f=>net c f*ind (G.at_ s f/\G.key s e<=G.key s f)+net c f*ind (G.sl s e f.2)):=by
  refine aJ fun f hf => ?_;rw[<- Cw,<- Cw,O.xg b he hf d]
 rw[eG,eG] at q;unfold L;rw[As (bN.mp he).2];unfold Lb;omega
theorem rm{c:Nat×Nat->Int}(d:G.Flow c){s:Int}(e:∀i,i<G.n->G.h i≠s):sm G.U (fun f=>net c f*ind (G.at_ s f))=0:=by
 have k:=qF d (fun w=>G.h w<s) O.yN;have q:sm G.U (fun f=>net c f*ind (G.at_ s f))=sm G.U (fun f=>net c f*ind (G.h f.1<s)-net c f*ind (G.h f.2<s)):=by
  refine aJ fun f hf => ?_;rw[<- DQ]
  congr 1
  have g:=(bN.mp hf).2;have j:=e f.2 (O.yN f hf).2
  by_cases a:G.h f.1<s
  ·by_cases b:G.h f.2<s
   ·rw[aN a,aN b,ay (show ¬G.at_ s f by unfold at_;omega)];rfl
   ·rw[aN a,ay b,aN (show G.at_ s f by unfold at_;omega)];rfl
  ·rw[ay a,ay (show ¬G.h f.2<s by omega),ay (show ¬G.at_ s f by unfold at_;omega)];rfl
 rw[q,mS];omega
end Ok
theorem least{α:Type}(k:α->Int)(p:α->Prop):∀(l:List α),(∀a∈l,¬p a)\/∃a∈l,p a/\∀b∈l,p b->k a<=k b
 | []=>.inl fun _ h=>nomatch h
 | a::r=>by
  rcases least k p r with h|⟨b,i,pb,g⟩
  ·by_cases pa:p a
   ·refine .inr ⟨a,Ad ..,pa,fun c f d => ?_⟩
    rcases Am.mp f with e|e
    ·rw[e];exact F8 _
    ·exact absurd d (h c e)
   ·refine .inl fun c f d => ?_
    rcases Am.mp f with e|e
    ·rw[e] at d;exact pa d
    ·exact h c e d
  ·by_cases pa:p a/\k a<=k b
   ·refine .inr ⟨a,Ad ..,pa.1,fun c f d => ?_⟩
    rcases Am.mp f with e|e
    ·rw[e];exact F8 _
    ·have:=g c e d;omega
   ·refine .inr ⟨b,Ac _ i,pb,fun c f d => ?_⟩
    rcases Am.mp f with e|e
    ·subst e
     exact D0.mp fun z=>pa ⟨d,by omega⟩
    ·exact g c e d
namespace Ok
variable(O:G.Ok)
include O
theorem suffix{s:Int}(d:∀i,i<G.n->G.h i≠s)(k:Int):
  (∀f∈G.U,¬(G.at_ s f/\k<=G.key s f)) \/
  ∃e∈G.U,(G.at_ s e/\k<=G.key s e)/\(∀f∈G.U,G.at_ s f/\k<=G.key s f->G.key s e<=G.key s f) /\
   ∀c,G.Flow c->sm G.U (fun f=>net c f*ind (G.at_ s f/\k<=G.key s f))=G.L c e:=by
 rcases least (G.key s) (fun f=>G.at_ s f/\k<=G.key s f) G.U with h|⟨e,he,a,b⟩
 ·exact .inl h
 ·refine .inr ⟨e,he,a,b,fun c g => ?_⟩
  rw[<- O.level g d he a.1];refine aJ fun f hf => ?_;rw[aD (p:=G.at_ s f/\k<=G.key s f) (q:=G.at_ s f/\G.key s e<=G.key s f) ⟨fun z=>⟨z.1,b f hf z⟩,fun z=>⟨z.1,by have:=z.2;omega⟩⟩]
end Ok
end Net
theorem bounded{α:Type}(k:α->Int):∀(l:List α),∃B:Nat,∀a∈l,-(B:Int)<k a/\k a<B
 | []=>⟨0,fun _ h=>nomatch h⟩
 | a::r=>by
  obtain⟨B,b⟩:=bounded k r;refine⟨B+(k a).natAbs+1,fun c d => ?_⟩;rcases Am.mp d with e|e
  ·subst e;omega
  ·have:=b c e;omega
theorem abS(b κ:Int):∀R:Nat,b<=κ->κ<=b+R->sm (An R) (fun r=>ind (b+r+1<=κ))=κ-b:=by
 have a:∀R:Nat,b+R<=κ->sm (An R) (fun r=>ind (b+r+1<=κ))=R:=by
  intro R
  induction R with
  | zero=>intro _;rfl
  | succ R c =>
   intro h;rw[Ce,rW,c (by omega),bh,rP,aN (by omega)];omega
 intro R
 induction R with
 | zero=>intro d e;rw[List.range_zero,rP];omega
 | succ R c =>
  intro d e
  by_cases z:κ<=b+R
  ·rw[Ce,rW,c d z,bh,rP,ay (by omega)]
   omega
  ·rw[a (R+1) (by omega)];omega
theorem arith(α β:Int)(a K:Nat):∀d:Nat,a+d<=K->2*sm (An K) (fun k=>ind (a<=k/\k<a+d)*(α+β*(k:Int)))=(d:Int)*(2*α+β*(2*a+d-1)):=by
 intro d
 induction d with
 | zero =>
  intro _;rw[aJ (g:=fun _=>0) fun k _=>by rw[ay (by omega),CK],gE];simp
 | succ d b =>
  intro h;have e:sm (An K) (fun k=>ind (a<=k/\k<a+(d+1))*(α+β*(k:Int)))=sm (An K) (fun k=>ind (a<=k/\k<a+d)*(α+β*(k:Int)))+(α+β*((a+d:Nat):Int)):=by
   rw[<- kr (l:=An K) Fu (A6.mpr (show a+d<K by omega)) (fun k=>α+β*(k:Int)),<- eG];refine aJ fun k _ => ?_;rw[<- Int.add_mul]
   congr 1
   by_cases h1:k=a+d
   ·rw[aN (show a<=k/\k<a+(d+1) by omega),ay (show ¬(a<=k/\k<a+d) by omega),aN h1];rfl
   ·rw[ay h1,aD (p:=a<=k/\k<a+(d+1)) (q:=a<=k/\k<a+d) (by omega)];omega
  rw[e,Cw,b (by omega)]
  grind
namespace Net
variable{G:Net}
noncomputable def ar(G:Net)(e:Nat×Nat):Int:=G.x e.1*G.h e.2-G.x e.2*G.h e.1
theorem tT{c:Nat×Nat->Int}(j:G.Flow c)(ω:Nat->Int)(d:∀f∈G.U,f.1<G.n/\f.2<G.n):
  sm G.U (fun f=>net c f*(ω f.1-ω f.2))=0:=by
 have e:sm (An G.n) (fun w=>sm G.U (fun f=>ω w*(net c f*(ind (f.1=w)-ind (f.2=w)))))=0:=by
  rw[aJ (g:=fun _=>0) fun w _=>by rw[gh,j w,Dh],gE]
 rw[qA] at e;rw[<- e];refine aJ fun f hf => ?_;have b:∀i,i<G.n->sm (An G.n) (fun w=>ind (i=w)*ω w)=ω i:=by
  intro i m;rw[<- kr (l:=An G.n) Fu (A6.mpr m) ω];exact aJ fun a _=>by rw[aD (p:=i=a) (q:=a=i) ⟨Eq.symm,Eq.symm⟩]
 have k:sm (An G.n) (fun w=>ω w*(net c f*(ind (f.1=w)-ind (f.2=w))))=sm (An G.n) (fun w=>net c f*(ind (f.1=w)*ω w-ind (f.2=w)*ω w)):=by
  refine aJ fun w _ => ?_
  grind
 rw[k,gh,mS,b _ (d f hf).1,b _ (d f hf).2]
namespace Ok
variable(O:G.Ok)
include O
theorem acT{ws:List (Nat×Nat)}(a:ws.Nodup)(b:∀e∈ws,e∈G.W)(F:Nat×Nat->Int):sm ws F=sm G.U (fun f=>ind (f∈ws)*F f+ind ((f.2,f.1)∈ws)*F (f.2,f.1)):=by
 rw[<- O.agY a b F];exact O.zc (fun e=>ind (e∈ws)*F e)
theorem agE{c:Nat×Nat->Int}(a:G.Flow c):sm G.U (fun f=>net c f*G.ar f)=sm G.U (fun f=>net c f*((G.x f.1+G.x f.2)*G.D f)):=by
 have k:=tT a (fun i=>G.x i*G.h i) O.yN;have e:sm G.U (fun f=>net c f*G.ar f)=sm G.U (fun f=>net c f*((G.x f.1+G.x f.2)*G.D f)+net c f*(G.x f.1*G.h f.1-G.x f.2*G.h f.2)):=by
  refine aJ fun f _ => ?_;unfold ar D;grind
 rw[e,eG];omega
theorem uM{f:Nat×Nat}(hf:f∈G.U){η:Nat->Int}(b:∀i,G.h i=2*η i){B:Nat}(c:∀i,i<G.n -> -(B:Int)<η i/\η i<B):
  4*sm (An (2*B)) (fun k=>ind (G.at_ (2*k+1-2*B) f)*G.key (2*k+1-2*B) f)=G.PP*((G.x f.1+G.x f.2)*G.D f):=by
 obtain⟨g,_⟩:=share hf;have lt:=(bN.mp hf).2;have l:=c f.1 (O.yN f hf).1;have m:=c f.2 (O.yN f hf).2;have e1:=b f.1;have o:=b f.2;obtain⟨a,r⟩:∃a:Nat,η f.1=a-B:=⟨(η f.1+B).toNat,by omega⟩;obtain⟨d,s⟩:∃d:Nat,η f.2=η f.1+d:=⟨(η f.2-η f.1).toNat,by omega⟩;have k:=arith (G.x f.1*(2*a+2*d-1)+G.x f.2*(1-2*a)) (2*(G.x f.2-G.x f.1)) a (2*B) d (by omega);have e:sm (An (2*B)) (fun k=>ind (G.at_ (2*k+1-2*B) f)*G.key (2*k+1-2*B) f) =
   G.PP / G.D f*sm (An (2*B)) (fun k=>ind (a<=k/\k<a+d)*(G.x f.1*(2*a+2*d-1)+G.x f.2*(1-2*a)+2*(G.x f.2-G.x f.1)*(k:Int))):=by
  rw[<- gh];refine aJ fun k _ => ?_;rw[aD (p:=G.at_ (2*k+1-2*B) f) (q:=a<=k/\k<a+d) (by unfold at_;omega)];unfold key N;rw[show G.h f.2-(2*(k:Int)+1-2*B)=2*a+2*d-1-2*k by omega,show(2*(k:Int)+1-2*B)-G.h f.1=2*k+1-2*a by omega]
  grind
 have j:G.D f=2*d:=by unfold D;omega
 rw[e];generalize sm (An (2*B)) (fun k=>ind (a<=k/\k<a+d)*(G.x f.1*(2*a+2*d-1)+G.x f.2*(1-2*a)+2*(G.x f.2-G.x f.1)*(k:Int)))=S at *
 generalize G.PP / G.D f=M at *
 rw[<- g,j];have:4*(M*S)=2*M*(2*S):=by grind
 rw[this,k];generalize G.x f.1=u;generalize G.x f.2=v;generalize (d:Int)=w;generalize (a:Int)=y
 grind
theorem pA{c:Nat×Nat->Int}(l:G.Flow c){s:Int}(m:∀i,i<G.n->G.h i≠s)(σ:Int)(q:∀e∈G.U,0<=σ*G.L c e):
  0<=σ*sm G.U (fun f=>net c f*(ind (G.at_ s f)*G.key s f)) /\
  ((∃e∈G.U,G.at_ s e/\0<σ*G.L c e)->0<σ*sm G.U (fun f=>net c f*(ind (G.at_ s f)*G.key s f))):=by
 obtain⟨B,o⟩:=bounded (G.key s) G.U;have p:=O.rm l m;have e:sm G.U (fun f=>net c f*(ind (G.at_ s f)*G.key s f))=sm (An (2*B)) (fun r=>sm G.U (fun f=>net c f*ind (G.at_ s f /\ -(B:Int)+r+1<=G.key s f))):=by
  rw[<- qA];have:sm G.U (fun f=>net c f*(ind (G.at_ s f)*G.key s f))=sm G.U (fun f=>net c f*(ind (G.at_ s f)*(G.key s f+B))-B*(net c f*ind (G.at_ s f))):=by
   refine aJ fun f _ => ?_
   grind
  rw[this,mS,gh,p,Dh,E4];refine aJ fun f hf => ?_;rw[gh]
  congr 1
  have u:=abS (-(B:Int)) (G.key s f) (2*B) (by have:=o f hf;omega) (by have:=o f hf;omega)
  by_cases a:G.at_ s f
  ·rw[aN a,Int.one_mul,show G.key s f+B=G.key s f-(-(B:Int)) by omega,<- u]
   exact aJ fun r _=>aD ⟨fun z=>⟨a,z⟩,Ec⟩
  ·rw[ay a,CK,aJ (g:=fun _=>0) fun r _=>ay fun z=>a z.1,gE]
 have pos:∀r∈An (2*B),0<=σ*sm G.U (fun f=>net c f*ind (G.at_ s f /\ -(B:Int)+r+1<=G.key s f)):=by
  intro r _;rcases O.suffix m (-(B:Int)+r+1) with h|⟨e,he,_,_,h⟩
  ·rw[aJ (g:=fun _=>0) fun f hf=>by rw[ay (h f hf),Dh],gE,Dh]
   exact F8 _
  ·rw[h c l];exact q e he
 rw[e,<- gh];refine⟨mT pos,?_⟩;rintro⟨j,d,v,w⟩;have y:=o j d;refine ada pos (b:=(G.key s j+B-1).toNat) (A6.mpr (by omega)) ?_;have:(-(B:Int)+((G.key s j+B-1).toNat:Int)+1)=G.key s j:=by omega
 rw[this,O.level l m d v];exact w
theorem rK{ws:List (Nat×Nat)}(o:ws.Nodup)(q:∀e∈ws,e∈G.W)(g:G.Flow (fun e=>ind (e∈ws))){η:Nat->Int}(d:∀i,G.h i=2*η i)(σ:Int)(j:∀e∈G.U,0<=σ*G.L (fun e=>ind (e∈ws)) e):
  0<=σ*sm ws G.ar/\((∃e∈G.U,0<σ*G.L (fun e=>ind (e∈ws)) e)->0<σ*sm ws G.ar):=by
 obtain⟨B,r⟩:=bounded η (An G.n);have a:∀i,i<G.n -> -(B:Int)<η i/\η i<B:=fun i s=>r i (A6.mpr s);have e1:sm ws G.ar=sm G.U (fun f=>net (fun e=>ind (e∈ws)) f*G.ar f):=by
  rw[O.acT o q];refine aJ fun f _ => ?_;unfold net ar;dsimp only;grind
 have u:G.PP*sm ws G.ar=4*sm (An (2*B)) (fun k=>sm G.U (fun f=>net (fun e=>ind (e∈ws)) f*(ind (G.at_ (2*k+1-2*B) f)*G.key (2*k+1-2*B) f))):=by
  rw[e1,O.agE g,<- gh,<- qA,<- gh];refine aJ fun f hf => ?_;rw[gh];have:=O.uM hf d a
  grind
 have c:∀k:Nat,∀i,i<G.n->G.h i≠(2*(k:Int)+1-2*B):=fun k i _=>by rw[d i];omega
 have w:G.PP*(σ*sm ws G.ar)=4*sm (An (2*B)) (fun k=>σ*sm G.U (fun f=>net (fun e=>ind (e∈ws)) f*(ind (G.at_ (2*k+1-2*B) f)*G.key (2*k+1-2*B) f))):=by
  rw[gh];have:G.PP*(σ*sm ws G.ar)=σ*(G.PP*sm ws G.ar):=by grind
  rw[this,u];grind
 have l:∀k∈An (2*B),0<=σ*sm G.U (fun f=>net (fun e=>ind (e∈ws)) f*(ind (G.at_ (2*k+1-2*B) f)*G.key (2*k+1-2*B) f)) :=
  fun k _=>(O.pA g (c k) σ j).1
 have m:=zr (G:=G)
 constructor
 ·have:=mT l
  refine D0.mp fun z => ?_;have:=cO m z;omega
 ·rintro⟨e,he,v⟩
  have y:=a e.1 (O.yN e he).1;have A:=a e.2 (O.yN e he).2;have C:=d e.1;have E:=d e.2;have lt:=(bN.mp he).2;have p:=ada l (b:=(η e.1+B).toNat) (A6.mpr (by omega)) ((O.pA g (c _) σ j).2 ⟨e,he,by unfold at_;omega,v⟩);exact bq (b:=G.PP) (by rw[Bl];omega) m
end Ok
def rz(G:Net)(z:Pos)(f:Nat×Nat):Prop:=G.h f.1<z.h/\z.h<G.h f.2/\0<tn (G.P f.1) (G.P f.2) z
instance (z:Pos) (f:Nat×Nat):Decidable (G.rz z f):=by unfold rz;infer_instance
theorem y6{z:Pos}{f:Nat×Nat}(hf:f∈G.U):G.rz z f↔G.at_ z.h f/\G.PP*z.x+1<=G.key z.h f:=by
 obtain⟨g,d⟩:=share hf;have e:G.key z.h f-G.PP*z.x=G.PP / G.D f*tn (G.P f.1) (G.P f.2) z:=by
  unfold key;generalize G.PP / G.D f=M at *
  rw[<- g];clear g d hf;unfold N D tn h x;grind
 unfold rz at_
 constructor
 ·rintro⟨a,b,c⟩
  have:=Bk d c;exact⟨⟨a,b⟩,by omega⟩
 ·rintro⟨⟨a,b⟩,c⟩
  exact⟨a,b,bq (b:=G.PP / G.D f) (by rw[Bl];omega) d⟩
def Q(G:Net)(e:Nat×Nat):Prop:=∀r,r<G.n->G.t e.1 e.2 r<=0
namespace Ok
variable(O:G.Ok)
include O
theorem tQ{z:Pos}(hz:∀i,i<G.n->G.h i≠z.h)(a:∃f∈G.U,G.rz z f):
  ∃e∈G.U,G.rz z e/\∀c,G.Flow c->sm G.U (fun f=>net c f*ind (G.rz z f))=G.L c e:=by
 rcases O.suffix hz (G.PP*z.x+1) with h|⟨e,he,b,_,h⟩
 ·obtain⟨f,hf,d⟩:=a
  exact absurd ((y6 hf).mp d) (h f hf)
 ·refine⟨e,he,(y6 he).mpr b,fun c g => ?_⟩
  rw[<- h c g];refine aJ fun f hf => ?_;rw[aD (y6 hf)]
theorem afW{ws:List (Nat×Nat)}(a:ws.Nodup)(b:∀e∈ws,e∈G.W)(z:Pos):
  ∃k,sm ws (fun e=>ind (G.rz z e\/G.rz z (e.2,e.1)))=sm G.U (fun f=>net (fun e=>ind (e∈ws)) f*ind (G.rz z f))+2*k:=by
 refine⟨sm G.U (fun f=>ind ((f.2,f.1)∈ws)*ind (G.rz z f)),?_⟩;rw[O.acT a b,<- gh,<- eG];refine aJ fun f hf => ?_;have lt:=(bN.mp hf).2;have n:¬G.rz z (f.2,f.1):=by unfold rz;dsimp only;omega
 dsimp only;rw[aD (p:=G.rz z f\/G.rz z (f.2,f.1)) (q:=G.rz z f) ⟨fun z=>z.elim id fun w=>absurd w n,.inl⟩,
  aD (p:=G.rz z (f.2,f.1)\/G.rz z (f.1,f.2)) (q:=G.rz z f) ⟨fun z=>z.elim (fun w=>absurd w n) id,.inr⟩]
 unfold net;dsimp only
 grind
theorem aiF(Y:∀e∈G.W,G.Q e->∃k,(e.2,k)∈G.W/\G.Q (e.2,k))(Z:∀e∈G.W,∃r,r<G.n/\G.t e.1 e.2 r≠0){e:Nat×Nat}(he:e∈G.W)(q:G.Q e):G.Q (G.phi e):=by
 obtain⟨u,v⟩:=e;obtain⟨k,f,i⟩:=Y _ he q;obtain⟨C,j,d⟩:=Z _ he;have A:=O.sym he;have l:=O.nxm he;have E:=O.nxs he f;show G.Q (v,G.nx u v);dsimp only at f i d;generalize G.nx u v=w at *
 unfold Q at q i;dsimp only at q i;have H:∀r,r<G.n->0<=G.t v u r:=fun r I=>by have:=q r I;have:=vi (G:=G) u v r;omega
 have m:=O.hne A;have o:=O.hne l;have s:=O.hne f;have y:k≠u:=by
  intro e;subst e;have a:=q C j;have b:=i C j;have c:=vi (G:=G) k v C;clear m o s;omega
 have B:w≠u:=by
  intro e;subst e;exact E (O.jH A f y)
 have tw:=H w (O.lt l).2
 by_cases z:G.t v u w=0
 ·have g:(G.h v<G.h u/\G.h w<G.h v)\/(G.h u<G.h v/\G.h v<G.h w):=by
   refine AU fun n => ?_;exact O.ray A l (Ne.symm B) (by clear s d y B;omega) z
  intro r I;show G.t v w r<=0;have e:=plu (G:=G) v u w r;rw[z,Dh] at e;have S:=H r I;refine D0.mp fun p => ?_;rcases g with⟨a,b⟩|⟨a,b⟩
  ·have J:=dZ (a:=G.h u-G.h v) (b:=G.t v w r) (by omega) p
   have M:(G.h w-G.h v)*G.t v u r<=0:=Dz (by omega) S;omega
  ·have J:=b0 (a:=G.h u-G.h v) (b:=G.t v w r) (by omega) p
   have M:0<=(G.h w-G.h v)*G.t v u r:=Be (by omega) S;omega
 ·have P:0<G.t v u w:=by omega
  have tk:=H k (O.lt f).2;have T:G.hf v u w=2:=by unfold hf;rw[Ar (by omega),As P]
  by_cases zk:G.t v u k=0
  ·exfalso
   refine E (.inl ?_);rw[T];unfold hf;rw[Ar (by omega),Ar (by omega),Ar]
   ·omega
   ·intro c
    exact O.ray A f (Ne.symm y) (by clear o d B y z;omega) zk
  ·have R:0<G.t v u k:=by omega
   have fk:G.hf v u k=2:=by unfold hf;rw[Ar (by omega),As R]
   have t0:¬G.t v k w<0:=fun z=>E (.inr ⟨by rw[T,fk],z⟩);have t1:=i w (O.lt l).2;have X:G.t v k w=0:=by omega
   by_cases kw:k=w
   ·subst kw;exact i
   ·exfalso
    have g:(G.h v<G.h k/\G.h w<G.h v)\/(G.h k<G.h v/\G.h v<G.h w) :=
     AU fun n=>O.ray f l kw (by clear m d y B z zk kw;omega) X
    have e:=plu (G:=G) v u k w;rw[X,Dh] at e;rcases g with⟨a,b⟩|⟨a,b⟩
    ·have J:=dZ (a:=G.h k-G.h v) (b:=G.t v u w) (by omega) P
     have M:=b0 (a:=G.h w-G.h v) (b:=G.t v u k) (by omega) R;omega
    ·have J:=b0 (a:=G.h k-G.h v) (b:=G.t v u w) (by omega) P
     have M:=dZ (a:=G.h w-G.h v) (b:=G.t v u k) (by omega) R;omega
theorem ajb(a:∀e∈G.W,G.Q e->∃k,(e.2,k)∈G.W/\G.Q (e.2,k))(b:∀e∈G.W,∃r,r<G.n/\G.t e.1 e.2 r≠0){e:Nat×Nat}(he:e∈G.W)(q:G.Q e):∀k,G.Q (G.it k e)
 | 0=>q
 | k+1=>O.aiF a b (O.bP he k) (ajb a b he q k)
include O
theorem ab3{s:Int}(j:∀i,i<G.n->G.h i≠s)(a:∀i,i<G.n->0<=G.x i)(w:∃f∈G.U,G.at_ s f/\G.x f.1=0/\G.x f.2=0):
  ∃e∈G.U,G.at_ s e/\G.Q e/\∀c,G.Flow c->G.L c e=0:=by
 obtain⟨f,hf,l,y,A⟩:=w;rcases least (G.key s) (fun f=>G.at_ s f) G.U with h|⟨e,he,d,m⟩
 ·exact absurd l (h f hf)
 ·refine⟨e,he,d,?_,fun c o => ?_⟩
  ·have k:=m f hf l
   have B:G.key s f=0:=by unfold key N;rw[y,A];simp
   rw[B] at k;obtain⟨_,C⟩:=share he;have E:=a e.1 (O.yN e he).1;have H:=a e.2 (O.yN e he).2;unfold at_ at d;have R:=Be E (show 0<=G.h e.2-s by omega);have S:=Be H (show 0<=s-G.h e.1 by omega);have I:G.N s e<=0:=by
    refine D0.mp fun z => ?_;have:=Bk z C;unfold key at k;omega
   unfold N at I;have u:G.x e.1=0:=dY (b:=G.h e.2-s) (by omega) (by omega);have v:G.x e.2=0:=dY (b:=s-G.h e.1) (by omega) (by omega);intro r J;have M:=a r J;have lt:=(bN.mp he).2;have:G.t e.1 e.2 r = - ((G.h e.2-G.h e.1)*G.x r):=by
    unfold t tn;unfold x at u v ⊢;unfold h;rw[u,v];grind
   rw[this];have:=Be (show 0<=G.h e.2-G.h e.1 by omega) M;omega
  ·rw[<- O.level o j he d,<- O.rm o j]
   refine aJ fun g P => ?_;rw[aD (p:=G.at_ s g/\G.key s e<=G.key s g) (q:=G.at_ s g) ⟨And.left,fun z=>⟨z,m g P z⟩⟩]
theorem within(C:G.afr){η:Nat->Int}(E:∀i,G.h i=2*η i)(R:∀i,i<G.n->0<=G.x i)(S:∀e∈G.W,G.Q e->∃k,(e.2,k)∈G.W/\G.Q (e.2,k))(T:∀e∈G.W,∃r,r<G.n/\G.t e.1 e.2 r≠0){z:Pos}(hz:∀i,i<G.n->G.h i≠z.h)(o:∃f∈G.U,G.rz z f)(u:∃f∈G.U,G.at_ z.h f/\G.x f.1=0/\G.x f.2=0)(X:∀e∈G.W,G.Q e->tn (G.P e.1) (G.P e.2) z<=0):
  ∃e∈G.W,∀s∈G.W,∀m,0<m->G.it m s=s->(∀k,0<k->k<m->G.it k s≠s) ->
   (0<sm ((An m).map fun k=>G.it k s) G.ar ->
    (sm ((An m).map fun k=>G.it k s) (fun e=>ind (G.rz z e\/G.rz z (e.2,e.1))) % 2=1↔e∈((An m).map fun k=>G.it k s))) /\
   (e∈((An m).map fun k=>G.it k s)->0<sm ((An m).map fun k=>G.it k s) G.ar):=by
 obtain⟨e,he,Y,Z⟩:=O.tQ hz o;obtain⟨v,b,_,q0,h0⟩:=O.ab3 hz R u;refine⟨e,(bN.mp he).1,fun s w m m0 H I => ?_⟩;have l:=O.gL w I (i:=0) (j:=m) (Ak _);rw[DU,<- DF] at l;have y:∀f∈((An m).map fun k=>G.it k s),f∈G.W:=by
  intro f hf;obtain⟨k,_,rfl⟩:=Ax.mp hf;exact O.bP w k
 obtain⟨fl,g,d⟩:=O.aik w C m0 H I;have A:=h0 _ fl;rw[d v (bN.mp b).1] at A
 by_cases c:v∈((An m).map fun k=>G.it k s)
 ·rw[aN c] at A
  have J:=(O.rK l y fl E (-1) (fun f hf=>by
   rw[d f (bN.mp hf).1];unfold ind;split <;> omega)).1
  refine⟨fun p=>by omega,fun a => ?_⟩
  exfalso
  obtain⟨j,_,ej⟩:=Ax.mp c;obtain⟨k,_,B⟩:=Ax.mp a;rw[A6] at *
  have M:=O.ajb S T (bN.mp b).1 q0 (k+(m-j));have:G.it (k+(m-j)) v=e:=by
   rw[<- ej,<- fE,show k+(m-j)+j=k+m by omega,fE,H,B]
  rw[this] at M;have:=X e (bN.mp he).1 M;have:=Y.2.2;omega
 ·rw[ay c] at A
  have J:=O.rK l y fl E 1 (fun f hf=>by
   rw[d f (bN.mp hf).1];unfold ind;split <;> omega)
  refine⟨fun _ => ?_,fun a => ?_⟩
  ·obtain⟨k,B⟩:=O.afW l y z
   rw[B,Z _ fl,d e (bN.mp he).1]
   by_cases a:e∈((An m).map fun k=>G.it k s)
   ·rw[aN a]
    exact⟨fun _=>a,fun _=>by omega⟩
   ·rw[ay a]
    exact⟨fun q=>by omega,fun q=>absurd q a⟩
  ·have:=J.2 ⟨e,he,by rw[d e (bN.mp he).1,aN a];omega⟩
   omega
end Ok
end Net
open Gla
theorem eF{α:Type}{p:Nat->α->Bool}{l:List α}(h:firstAt p l=none)(i:Nat)(a:i<l.length):p i l[i]=false:=by
 unfold firstAt at h;rw[Di,Cc] at h;have:=h (l[i],i) (by rw[FN];simp[a])
 simpa using this
theorem cB{α:Type}{ok:α->Bool}{b:α->α->Bool}{l:List α}(h:firstBad ok b l=none):
  (∀i (a:i<l.length),ok l[i]=true)/\(∀i (a:i+1<l.length),b l[i] l[i+1]=true):=by
 have k:=eF h;refine⟨fun i a => ?_,fun i a => ?_⟩
 ·have:=k i a
  rw[BO] at this
  simpa using this.1
 ·have:=k (i+1) a
  rw[BO] at this;have t:=this.2;have e:l[i+1-1]? = some l[i]:=by simp
  rw[e] at t
  simpa using t
theorem ur{α:Type}{r:α->α->Prop}(g:∀a b c,r a b->r b c->r a c){l:List α}(h:∀i (n:i+1<l.length),r l[i] l[i+1]):
  ∀i j (e:i<j) (f:j<l.length),r l[i] l[j]:=by
 intro i j e;obtain⟨d,rfl⟩:∃d,j=i+1+d:=⟨j-i-1,by omega⟩
 induction d with
 | zero=>intro f;exact h i f
 | succ d m=>intro f;exact g _ _ _ (m (by omega) (by omega)) (h (i+1+d) (by omega))
noncomputable def NN(S:Plan):Int:=(S.w:Int)+1
noncomputable def posOf(S:Plan)(z:Pt):Pos:=⟨z.x,2*(NN S*z.y-z.x)⟩
noncomputable def ao(S:Plan):Net:=⟨S.pts.length,fun i=>posOf S (S.pt i),ways S,S.next⟩
theorem sQ(S:Plan):0<NN S:=by unfold NN;omega
theorem tL(S:Plan)(p q r:Pt):tn (posOf S p) (posOf S q) (posOf S r)=2*NN S*turn p q r:=by
 unfold tn posOf turn dx dy;dsimp only;generalize NN S=k
 grind
theorem d3(S:Plan)(p q r:Pt):(0<tn (posOf S p) (posOf S q) (posOf S r)↔0<turn p q r)/\(tn (posOf S p) (posOf S q) (posOf S r)<0↔turn p q r<0)/\(tn (posOf S p) (posOf S q) (posOf S r)=0↔turn p q r=0):=by
 rw[tL];have k:=sQ S;have a:0<2*NN S:=by omega
 refine⟨⟨fun h=>bq (b:=2*NN S) (by rw[Bl];exact h) a,fun h=>Bk a h⟩,
  ⟨fun h=>aS (b:=2*NN S) (by rw[Bl];exact h) a,fun h=>cO a h⟩,
  ⟨fun h=>dY (b:=2*NN S) (by rw[Bl];exact h) a,fun h=>by rw[h,Dh]⟩⟩
structure Rules(S:Plan):Prop where
 w1:1<=S.w
 h1:1<=S.h
 r4:firstBad (fun(p:Pt)=>decide (p.x<=S.w)&&decide (p.y<=S.h)) Pt.below S.pts=none
 r5:firstBad (fun(l:Nat×Nat)=>decide (l.1<l.2)&&decide (l.2<S.pts.length)) lineBelow S.lines=none
 r6:frameOk S=true
 r7:firstAt (touches S) S.lines=none
 r8:((An S.pts.length).find? fun(i:Nat)=>decide ((S.near i).length<2))=none
 r9:((An S.pts.length).find? fun(i:Nat) => !((seenFrom S.nears S.pts.length 0 (noneSeen S.pts.length)).getD i false))=none
 r10:(An S.pts.length).find? (cuts S.nears S.pts.length)=none
namespace Rules
variable{S:Plan}(R:Rules S)
include R
theorem ace{i:Nat}(a:i<S.pts.length):S.pt i=S.pts[i]:=by
 unfold Plan.pt;rw[Az,Aa a];rfl
theorem pl{i:Nat}(a:i<S.pts.length):(S.pt i).x<=S.w/\(S.pt i).y<=S.h:=by
 have:=(cB R.r4).1 i a;rw[R.ace a]
 simpa using this
theorem po{i j:Nat}(d:i<j)(e:j<S.pts.length):(S.pt i).y<(S.pt j).y\/((S.pt i).y=(S.pt j).y/\(S.pt i).x<(S.pt j).x):=by
 have:=ur (r:=fun(p q:Pt)=>p.y<q.y\/(p.y=q.y/\p.x<q.x)) (by intro a b c g m;omega) (l:=S.pts) (fun i f=>by
  have:=(cB R.r4).2 i f;unfold Pt.below at this
  simpa using this) i j d e
 rw[R.ace e,R.ace (by omega)];exact this
theorem ln{l:Nat×Nat}(h:l∈S.lines):l.1<l.2/\l.2<S.pts.length:=by
 obtain⟨i,a,rfl⟩:=AQ.mp h;have:=(cB R.r5).1 i a
 simpa using this
theorem lo:S.lines.Pairwise fun a b=>a.1<b.1\/(a.1=b.1/\a.2<b.2):=by
 rw[D6];intro i j e f d;exact ur (r:=fun(a b:Nat×Nat)=>a.1<b.1\/(a.1=b.1/\a.2<b.2)) (by intro a b c g m;omega) (l:=S.lines) (fun i e=>by
  have:=(cB R.r5).2 i e;unfold lineBelow at this
  simpa using this) i j d f
theorem dM{e:Nat×Nat}:e∈ways S↔e∈S.lines\/(e.2,e.1)∈S.lines:=by
 unfold ways;rw[Bc]
 constructor
 ·rintro⟨l,a,he⟩
  rcases Am.mp he with z|z
  ·exact .inl (z▸a)
  ·rw[Ao.mp z];exact .inr a
 ·rintro(h|h)
  ·exact⟨e,h,Ad ..⟩
  ·exact⟨(e.2,e.1),h,Ac _ (Ao.mpr rfl)⟩
theorem wR:(ways S).Nodup:=by
 have key:∀l:List (Nat×Nat),(l.Pairwise fun a b=>a.1<b.1\/(a.1=b.1/\a.2<b.2))->(∀a∈l,a.1<a.2)->(l.flatMap fun(l:Nat×Nat)=>[l,(l.2,l.1)]).Nodup:=by
  intro l
  induction l with
  | nil=>intro _ _;exact EZ
  | cons a r f =>
   intro g i;rw[BH] at g;have n:=i a (Ad ..);have f:=f g.2 fun b c=>i b (Ac _ c);rw[BN,Bm];refine⟨?_,f,?_⟩
   ·rw[Bx]
    refine⟨fun h => ?_,by simp⟩;have e:=Ao.mp h;have:=B2 HH e;dsimp only at this;omega
   ·intro x j y d e
    subst e;rw[Bc] at d;obtain⟨b,c,d⟩:=d;have k:=g.1 b c;have o:=i b (Ac _ c);rcases Am.mp j with z|z <;> rcases Am.mp d with y|y
    ·subst z;subst y;omega
    ·have y:=Ao.mp y;subst z;rw[y] at *;dsimp only at *;omega
    ·have z:=Ao.mp z;subst y;rw[z] at *;dsimp only at *;omega
    ·have z:=Ao.mp z
     have y:=Ao.mp y;rw[z] at y;have e1:=B2 HH y;have m:=B2 La y;dsimp only at e1 m;omega
 exact key S.lines R.lo fun a h=>(R.ln h).1
theorem bC{i j:Nat}(h:(i,j)∈ways S):i<S.pts.length/\j<S.pts.length/\i≠j:=by
 rcases R.dM.mp h with h|h <;> have:=R.ln h <;> dsimp only at this <;> omega
theorem cZ{i j:Nat}:j∈S.near i↔(i,j)∈ways S:=by
 rw[R.dM];unfold Plan.near;rw[EK]
 constructor
 ·rintro⟨l,a,h⟩
  split at h
  ·rename_i e
   obtain rfl:=Ah h;subst e;exact .inl a
  ·split at h
   ·rename_i e
    obtain rfl:=Ah h;subst e;exact .inr a
   ·cases h
 ·rintro(h|h)
  ·exact⟨(i,j),h,by rw[As rfl]⟩
  ·have:=R.ln h
   dsimp only at this;refine⟨(j,i),h,?_⟩;rw[Ar (by dsimp only;omega),As rfl]
theorem sO{i j:Nat}(a:i<S.pts.length)(b:j<S.pts.length)(e:S.pt i=S.pt j):i=j:=by
 rcases BY i j with h|h|h
 ·have:=R.po h b;rw[e] at this;omega
 ·exact h
 ·have:=R.po h a;rw[e] at this;omega
omit R in
theorem qI{p q:Pt}(d:p.x<=S.w)(f:q.x<=S.w)(e:(posOf S p).h=(posOf S q).h):p=q:=by
 unfold posOf NN at e;dsimp only at e;have c:((S.w:Int)+1)*p.y-p.x=((S.w:Int)+1)*q.y-q.x:=by omega
 have a:p.y=q.y:=by
  rcases BY p.y q.y with h|h|h
  ·exfalso
   have m:((S.w:Int)+1)*((p.y:Int)+1)<=((S.w:Int)+1)*q.y:=Cn (by omega) (by omega);rw[Cw] at m;omega
  ·exact h
  ·exfalso
   have m:((S.w:Int)+1)*((q.y:Int)+1)<=((S.w:Int)+1)*p.y:=Cn (by omega) (by omega);rw[Cw] at m;omega
 have b:p.x=q.x:=by rw[a] at c;omega
 cases p;cases q;simp only at a b;rw[a,b]
theorem free{l:Nat×Nat}(h:l∈S.lines){k:Nat}(a:k<S.pts.length)(b:k≠l.1)(c:k≠l.2):isOn (S.pt l.1) (S.pt l.2) (S.pt k)=false:=by
 obtain⟨i,d,rfl⟩:=AQ.mp h;have:=eF R.r7 i d;unfold touches at this;rw[BO] at this;have:=this.1;rw[Eh] at this;have:=this k (A6.mpr a);simp[b,c] at this
 simpa using this
theorem apart{l m:Nat×Nat}(h:l∈S.lines)(c:m∈S.lines):crosses (S.pt l.1) (S.pt l.2) (S.pt m.1) (S.pt m.2)=false:=by
 obtain⟨i,a,rfl⟩:=AQ.mp h;obtain⟨j,b,rfl⟩:=AQ.mp c;have key:∀i (a:i<S.lines.length) j (b:j<S.lines.length),j<i->crosses (S.pt S.lines[i].1) (S.pt S.lines[i].2) (S.pt S.lines[j].1) (S.pt S.lines[j].2)=false:=by
  intro i a j b d;have:=eF R.r7 i a;unfold touches at this;rw[BO] at this;have:=this.2;rw[Eh] at this;have:=this S.lines[j] (by
   rw[AQ];exact⟨j,by rw[AO];omega,by rw[G8]⟩)
  simpa using this
 rcases BY j i with z|z|z
 ·exact key i a j b z
 ·subst z
  unfold crosses turn dx dy;simp only[Bool.and_eq_false_iff,DP]
  left
  have:(((S.pt S.lines[j].2).x:Int)-(S.pt S.lines[j].1).x)*(((S.pt S.lines[j].1).y:Int)-(S.pt S.lines[j].2).y)-(((S.pt S.lines[j].2).y:Int)-(S.pt S.lines[j].1).y)*(((S.pt S.lines[j].1).x:Int)-(S.pt S.lines[j].2).x)=0:=by grind
  rw[this,CK];omega
 ·have:=key j b i a z
  unfold crosses at this ⊢;rw[Ih];exact this
end Rules
theorem ai6{D E d x:Int}(h:D*x=d*E)(b:0<E)(c:E<D):(0<=d->0<=x/\x<=d)/\(d<=0->d<=x/\x<=0):=by
 have key:∀{d x:Int},D*x=d*E->0<=d->0<=x/\x<=d:=by
  intro d x h a;have e:=Be a (Dd b);have f:d*E<=d*D:=Cn (Dd c) a
  constructor
  ·refine D0.mp fun z => ?_
   have:=cO (show 0<D by omega) z;omega
  ·refine D0.mp fun z => ?_
   have:0<D*(x-d):=Bk (by omega) (by omega);rw[DQ,Bl D d] at this;omega
 refine⟨key h,fun a => ?_⟩;have:=key (d := -d) (x := -x) (by rw[KD,Dk,h]) (by omega);omega
theorem kF(p q r:Pt):turn q p r = - turn p q r:=by unfold turn dx dy;grind
namespace Rules
variable{S:Plan}(R:Rules S)
include R
theorem afB{i j k:Nat}(h:(i,j)∈ways S)(A:k<S.pts.length)(c:(posOf S (S.pt i)).h<(posOf S (S.pt k)).h)(d:(posOf S (S.pt k)).h<(posOf S (S.pt j)).h):turn (S.pt i) (S.pt j) (S.pt k)≠0:=by
 intro f;have a:k≠i:=fun e=>by rw[e] at c;omega
 have b:k≠j:=fun e=>by rw[e] at d;omega
 have n:isOn (S.pt i) (S.pt j) (S.pt k)=false\/isOn (S.pt j) (S.pt i) (S.pt k)=false:=by
  rcases R.dM.mp h with z|z
  ·exact .inl (R.free z A a b)
  ·exact .inr (R.free z A b a)
 generalize S.pt i=p at *
 generalize S.pt j=q at *
 generalize S.pt k=r at *
 have o:turn q p r=0:=by
  have:turn q p r = - turn p q r:=kF p q r;omega
 unfold posOf at c d;dsimp only at c d;have k:=sQ S;generalize NN S=N at *
 have e1:(N*(q.y-p.y)-(q.x-p.x))*((r.x:Int)-p.x)=((q.x:Int)-p.x)*(N*(r.y-p.y)-(r.x-p.x)):=by
  unfold turn dx dy at f
  grind
 have s:(N*(q.y-p.y)-(q.x-p.x))*((r.y:Int)-p.y)=((q.y:Int)-p.y)*(N*(r.y-p.y)-(r.x-p.x)):=by
  unfold turn dx dy at f
  grind
 have l:0<N*((r.y:Int)-p.y)-(r.x-p.x):=by rw[DQ];omega
 have m:N*((r.y:Int)-p.y)-(r.x-p.x)<N*((q.y:Int)-p.y)-(q.x-p.x):=by rw[DQ,DQ];omega
 have B:=ai6 e1 l m;have C:=ai6 s l m;have v:between p.x q.x r.x=true:=by clear n e1 s l m c d a b f o C;unfold between;simp only[AB,A5];omega
 have g:between p.y q.y r.y=true:=by clear n e1 s l m c d a b f o B v;unfold between;simp only[AB,A5];omega
 have u:between q.x p.x r.x=true:=by clear n e1 s l m c d a b f o C v g;unfold between;simp only[AB,A5];omega
 have w:between q.y p.y r.y=true:=by clear n e1 s l m c d a b f o B v g u;unfold between;simp only[AB,A5];omega
 rcases n with z|z
 ·unfold isOn at z;rw[f,v,g] at z;simp at z
 ·unfold isOn at z;rw[o,u,w] at z;simp at z
theorem yB{i j k l:Nat}(h:(i,j)∈ways S)(h':(k,l)∈ways S):¬og (posOf S (S.pt i)) (posOf S (S.pt j)) (posOf S (S.pt k)) (posOf S (S.pt l)):=by
 intro ⟨c1,c2⟩;rw[tL,tL] at c1 c2;have r:=sQ S;have n:∀a b:Int,2*NN S*a*(2*NN S*b)=(2*NN S)*(2*NN S)*(a*b):=by intro a b;grind
 rw[n] at c1 c2;have m:0<(2*NN S)*(2*NN S):=Bk (by omega) (by omega);have f:=aS (by rw[Bl];exact c1) m;have g:=aS (by rw[Bl];exact c2) m;have e:=kF;have key:∀{a b c d:Nat},(a,b)∈S.lines->(c,d)∈S.lines->turn (S.pt a) (S.pt b) (S.pt c)*turn (S.pt a) (S.pt b) (S.pt d)<0->turn (S.pt c) (S.pt d) (S.pt a)*turn (S.pt c) (S.pt d) (S.pt b)<0->False:=by
  intro a b c d o p e1 q;have:=R.apart o p;unfold crosses at this;rw[AD e1,AD q] at this;cases this
 rcases R.dM.mp h with z|z <;> rcases R.dM.mp h' with y|y
 ·exact key z y f g
 ·refine key z y (by rw[Bl];exact f) ?_
  rw[e (S.pt k),e (S.pt k),FO];exact g
 ·refine key z y ?_ (by rw[Bl];exact g)
  rw[e (S.pt i),e (S.pt i),FO];exact f
 ·refine key z y ?_ ?_
  ·rw[e (S.pt i),e (S.pt i),FO,Bl];exact f
  ·rw[e (S.pt k),e (S.pt k),FO,Bl];exact g
theorem ok0:(ao S).Ok0 where
 nod:=R.wR
 sym:=fun h=>R.dM.mpr ((R.dM.mp h).symm)
 lt:=fun h=>⟨(R.bC h).1,(R.bC h).2.1⟩
 ne:=fun h=>(R.bC h).2.2
 inj:=fun a b e=>R.sO a b (qI (R.pl a).1 (R.pl b).1 e)
 on:=fun h c d f e=>R.afB h c d f ((d3 ..).2.2.mp e)
 cr:=fun h h'=>R.yB h h'
omit R in
theorem ad4{p q r:Pt}(d:(posOf S p).h≠(posOf S q).h)(e:(posOf S p).h≠(posOf S r).h):half (dx p q,dy p q) (dx p r,dy p r) =
  if tn (posOf S p) (posOf S q) (posOf S r)<0 then 0 else if 0<tn (posOf S p) (posOf S q) (posOf S r) then 2 else if ((posOf S p).h<(posOf S q).h↔(posOf S p).h<(posOf S r).h) then 3 else 1:=by
 unfold half;dsimp only;obtain⟨g,i,_⟩:=d3 S p q r;have n:dx p q*dy p r-dy p q*dx p r=turn p q r:=by unfold turn dx dy;grind
 rw[n]
 by_cases c1:turn p q r<0
 ·rw[As c1,As (i.mpr c1)]
 ·rw[Ar c1,Ar fun z=>c1 (i.mp z)]
  by_cases c2:0<turn p q r
  ·rw[As c2,As (g.mpr c2)]
  ·rw[Ar c2,Ar fun z=>c2 (g.mp z)]
   have s:turn p q r=0:=by omega
   have I:=sQ S;have j:=DQ (NN S) (q.y:Int) p.y;have l:=DQ (NN S) (r.y:Int) p.y;have m:((posOf S p).h<(posOf S q).h)↔0<(NN S*((q.y:Int)-p.y)-(q.x-p.x)):=by clear g i c1 c2 d e n s l;unfold posOf;dsimp only;omega
   have o:((posOf S p).h<(posOf S r).h)↔0<(NN S*((r.y:Int)-p.y)-(r.x-p.x)):=by clear g i c1 c2 d e n s j m;unfold posOf;dsimp only;omega
   have u:(NN S*((q.y:Int)-p.y)-(q.x-p.x))≠0:=by clear g i c1 c2 e n s l m o;unfold posOf at d;dsimp only at d;omega
   have J:(NN S*((r.y:Int)-p.y)-(r.x-p.x))≠0:=by clear g i c1 c2 d n s j m o u;unfold posOf at e;dsimp only at e;omega
   clear j l;generalize NN S=N at *
   have v:(N*(q.y-p.y)-(q.x-p.x))*dx p r=(N*(r.y-p.y)-(r.x-p.x))*dx p q:=by unfold turn dx dy at *;grind
   have E:(N*(q.y-p.y)-(q.x-p.x))*dy p r=(N*(r.y-p.y)-(r.x-p.x))*dy p q:=by unfold turn dx dy at *;grind
   have f:0<dx p q*dx p q+dy p q*dy p q:=by
    have M:0<=dx p q*dx p q:=by
     rcases Ku 0 (dx p q) with z|z
     ·exact Be z z
     ·exact EN z z
    have O:0<=dy p q*dy p q:=by
     rcases Ku 0 (dy p q) with z|z
     ·exact Be z z
     ·exact EN z z
    refine EM.mp fun z => ?_;have G:dx p q=0:=by
     have:dx p q*dx p q=0:=by omega
     rcases EI.mp this with w|w <;> exact w
    have H:dy p q=0:=by
     have:dy p q*dy p q=0:=by omega
     rcases EI.mp this with w|w <;> exact w
    unfold dx at G;unfold dy at H
    apply u
    rw[G,H];simp
   have P:(N*(q.y-p.y)-(q.x-p.x))*(dx p q*dx p r+dy p q*dy p r)=(N*(r.y-p.y)-(r.x-p.x))*(dx p q*dx p q+dy p q*dy p q):=by
    have:(N*(q.y-p.y)-(q.x-p.x))*(dx p q*dx p r+dy p q*dy p r)=dx p q*((N*(q.y-p.y)-(q.x-p.x))*dx p r)+dy p q*((N*(q.y-p.y)-(q.x-p.x))*dy p r):=by grind
    rw[this,v,E];grind
   generalize (N*((q.y:Int)-p.y)-(q.x-p.x))=A at *
   generalize (N*((r.y:Int)-p.y)-(r.x-p.x))=B at *
   generalize dx p q*dx p r+dy p q*dy p r=C at *
   generalize dx p q*dx p q+dy p q*dy p q=D at *
   clear v E n g i d e
   by_cases a:0<A <;> by_cases b:0<B
   ·have:=Bk b f
    have c:¬C<0:=fun z=>by have:=cO a z;omega
    rw[Ar c,As (by rw[m,o];omega)]
   ·have:=b0 (a:=B) (by omega) f
    have c:C<0:=aS (b:=A) (by rw[Bl];omega) a;rw[As c,Ar (by rw[m,o];omega)]
   ·have:=Bk b f
    have c:C<0:=EM.mp fun z=>by
     have:=Dz (a:=A) (by omega) z;omega
    rw[As c,Ar (by rw[m,o];omega)]
   ·have:=b0 (a:=B) (by omega) f
    have c:¬C<0:=fun z=>by
     have:=nz (a:=A) (by omega) z;omega
    rw[Ar c,As (by rw[m,o];omega)]
theorem yX{v u j:Nat}(a:(v,u)∈ways S)(b:(v,j)∈ways S):half (dir S v u) (dir S v j)=(ao S).hf v u j:=by
 have c:S.pt v≠S.pt u:=fun e=>(R.bC a).2.2 (R.sO (R.bC a).1 (R.bC a).2.1 e);have d:S.pt v≠S.pt j:=fun e=>(R.bC b).2.2 (R.sO (R.bC b).1 (R.bC b).2.1 e);have f:=(R.pl (R.bC a).1).1;have g:=(R.pl (R.bC a).2.1).1;have i:=(R.pl (R.bC b).2.1).1;exact ad4 (fun e=>c (qI f g e)) (fun e=>d (qI f i e))
theorem fF{v u a b:Nat}(c:(v,u)∈ways S)(d:(v,a)∈ways S)(e:(v,b)∈ways S):sooner (dir S v u) (dir S v a) (dir S v b)=true↔(ao S).snr v u a b:=by
 unfold sooner Net.snr;rw[R.yX c d,R.yX c e];have f:(dir S v a).1*(dir S v b).2-(dir S v a).2*(dir S v b).1=turn (S.pt v) (S.pt a) (S.pt b):=by unfold dir turn dx dy;grind
 rw[f];obtain⟨_,g,_⟩:=d3 S (S.pt v) (S.pt a) (S.pt b);simp only[DA,AB,A5,BL];rw[<- g];exact Le
omit R in
theorem mW{α:Type}{lt:α->α->Bool}{P:α->Prop}(n:∀a b c,P a->P b->P c->lt a b=true->lt b c=true->lt a c=true):
  ∀(l:List α)(a:α),P a->(∀b∈l,P b)->P (l.foldl (fun a b=>if lt b a=true then b else a) a) /\
   (l.foldl (fun a b=>if lt b a=true then b else a) a=a\/lt (l.foldl (fun a b=>if lt b a=true then b else a) a) a=true):=by
 intro l
 induction l with
 | nil=>intro a f _;exact⟨f,.inl rfl⟩
 | cons d s g =>
  intro a f i;rw[BK];have j:=i d (Ad ..);have e:=fun b o=>i b (Ac d o)
  by_cases k:lt d a=true
  ·rw[As k]
   obtain⟨m,p⟩:=g d j e;refine⟨m,?_⟩;rcases p with z|z
   ·rw[z];exact .inr k
   ·exact .inr (n _ d a m j f z k)
  ·rw[Ar k]
   exact g a f e
omit R in
theorem fold_min{α:Type}{lt:α->α->Bool}{P:α->Prop}(g:∀a b c,P a->P b->P c->lt a b=true->lt b c=true->lt a c=true)(q:∀a,P a->lt a a=false):
  ∀(l:List α)(a:α),P a->(∀b∈l,P b)->lt a (l.foldl (fun a b=>if lt b a=true then b else a) a)=false/\∀b∈l,lt b (l.foldl (fun a b=>if lt b a=true then b else a) a)=false:=by
 intro l
 induction l with
 | nil=>intro a d _;exact⟨q a d,fun _ h=>nomatch h⟩
 | cons c r o =>
  intro a d h;have i:=h c (Ad ..);have j:=fun b e=>h b (Ac c e);rw[BK]
  by_cases k:lt c a=true
  ·rw[As k]
   obtain⟨f,m⟩:=o c i j;obtain⟨n,p⟩:=mW g r c i j;refine⟨?_,?_⟩
   ·cases z:lt a (r.foldl (fun a b=>if lt b a=true then b else a) c) with
    | false=>rfl
    | true=>rw[g c a _ i d n k z] at f;cases f
   ·intro b e
    rcases Am.mp e with z|z
    ·rw[z];exact f
    ·exact m b z
  ·rw[Ar k]
   obtain⟨f,m⟩:=o a d j;obtain⟨n,p⟩:=mW g r a d j;refine⟨f,?_⟩;intro b e;rcases Am.mp e with z|z
   ·rw[z]
    cases w:lt c (r.foldl (fun a b=>if lt b a=true then b else a) a) with
    | false=>rfl
    | true =>
     exfalso
     rcases p with y|y
     ·rw[y] at w;exact k w
     ·exact k (g c _ a i n d w y)
   ·exact m b z
theorem pL{u v:Nat}(h:(u,v)∈ways S):(v,S.next u v)∈ways S/\∀j,(v,j)∈ways S->¬(ao S).snr v u j (S.next u v):=by
 have s:=R.ok0;have g:(v,u)∈ways S:=s.sym h;have w:u∈S.near v:=R.cZ.mpr g;have d:∀j∈S.near v,(v,j)∈ways S:=fun j l=>R.cZ.mp l;have f:∀j,(v,j)∈ways S->j∈S.near v:=fun j l=>R.cZ.mpr l;unfold Plan.next;cases e:S.near v with
 | nil=>rw[e] at w;cases w
 | cons k r =>
  rw[e] at d f;have A:∀a b c,(v,a)∈ways S->(v,b)∈ways S->(v,c)∈ways S->sooner (dir S v u) (dir S v a) (dir S v b)=true->sooner (dir S v u) (dir S v b) (dir S v c)=true->sooner (dir S v u) (dir S v a) (dir S v c)=true :=
   fun a b c m i n B C=>(R.fF g m n).mpr (s.mN g m i n ((R.fF g m i).mp B) ((R.fF g i n).mp C))
  have o:=(mW (lt:=fun a b=>sooner (dir S v u) (dir S v a) (dir S v b)) (P:=fun j=>(v,j)∈ways S) A r k (d k (Ad ..)) fun b i=>d b (Ac _ i)).1;have p:=fold_min (lt:=fun a b=>sooner (dir S v u) (dir S v a) (dir S v b)) (P:=fun j=>(v,j)∈ways S) A
   (fun a m=>by
    cases z:sooner (dir S v u) (dir S v a) (dir S v a) with
    | false=>rfl
    | true=>exact absurd ((R.fF g m m).mp z) Net.Ok0.pY)
   r k (d k (Ad ..)) fun b i=>d b (Ac _ i)
  dsimp only at p o ⊢;refine⟨o,fun j l z => ?_⟩;have q:=(R.fF g l o).mpr z;rcases Am.mp (f j l) with y|y
  ·rw[y] at q
   have:=p.1;rw[q] at this;cases this
  ·have:=p.2 j y
   rw[q] at this;cases this
theorem ok:(ao S).Ok where
 toOk0:=R.ok0
 nxm:=fun h=>(R.pL h).1
 nxs:=fun h a=>(R.pL h).2 _ a
end Rules
def ahH(A B:Nat->Prop)(n:Nat)(todo:List Nat)(seen:Array Bool):Prop :=
 seen.size=n/\(∀k∈todo,A k)/\(∀i,i<n->seen.getD i false=true->A i\/B i)/\(∀i,B i->seen.getD i true=true)
theorem qf{A B:Nat->Prop}{n:Nat}:∀(l:List Nat)(todo:List Nat)(seen:Array Bool),(∀j∈l,¬B j->A j)->ahH A B n todo seen ->
  let z:=l.foldl (fun(a:List Nat×Array Bool) (j:Nat)=>if a.2.getD j true=true then a else (j::a.1,a.2.setIfInBounds j true)) (todo,seen)
  ahH A B n z.1 z.2
 | [],todo,seen,_,h=>h
 | j::r,todo,seen,hl,h=>by
  have f:∀j∈r,¬B j->A j:=fun k d=>hl k (Ac _ d);dsimp only;rw[BK];dsimp only
  by_cases c:seen.getD j true=true
  ·rw[As c]
   exact qf r todo seen f h
  ·rw[Ar c]
   refine qf r _ _ f ?_;obtain⟨s,u,v,g⟩:=h;have m:¬B j:=fun b=>c (g j b);have o:=hl j (Ad ..) m;refine⟨by rw[BV];exact s,?_,?_,?_⟩
   ·intro k d
    rcases Am.mp d with e|e
    ·rw[e];exact o
    ·exact u k e
   ·intro i w p
    by_cases e:i=j
    ·rw[e];exact .inl o
    ·refine v i w ?_
     rw[A3,Bq (Ne.symm e)] at p;rw[A3];exact p
   ·intro i q
    have e:i≠j:=fun e=>m (e▸q);rw[A3,Bq (Ne.symm e),<- A3];exact g i q
theorem kK{A B:Nat->Prop}{n:Nat}{near:Array (List Nat)}(st:∀k j,A k->j∈near.getD k []->¬B j->A j):∀(m:Nat)(todo:List Nat)(seen:Array Bool),
  ahH A B n todo seen->ahH A B n [] (spread near m todo seen)
 | 0,todo,seen,h=>⟨h.1,fun _ z=>(nomatch z),h.2.2.1,h.2.2.2⟩
 | m+1,[],seen,h=>h
 | m+1,k::r,seen,h=>by
  unfold spread;dsimp only;refine kK st m _ _ (qf _ _ _ (fun j a b=>st k j (h.2.1 k (Ad ..)) a b) ?_);exact⟨h.1,fun j a=>h.2.1 j (Ac _ a),h.2.2.1,h.2.2.2⟩
theorem o7{J:Nat->Nat->Bool}:∀{E:List Nat},E.Pairwise (· < ·)->((E.zip (E.drop 1)).all fun(x:Nat×Nat)=>J x.1 x.2)=true->∀{v x:Nat},v∈E->x∈E->v<x->∃k∈E,v<k/\J v k=true
 | [],_,_,_,_,hv,_,_=>nomatch hv
 | [a],_,_,v,x,hv,hx,lt=>by
  rw[Ao] at hv hx;omega
 | a::b::r,hp,hc,v,x,hv,hx,lt=>by
  rw[BH] at hp;have c:(J a b&&((b::r).zip r).all fun(x:Nat×Nat)=>J x.1 x.2)=true:=hc;rw[AB] at c;rcases Am.mp hv with e|e
  ·subst e
   exact⟨b,Ac _ (Ad ..),hp.1 b (Ad ..),c.1⟩
  ·have d:x∈b::r:=by
    rcases Am.mp hx with z|z
    ·have:=hp.1 v e;omega
    ·exact z
   obtain⟨k,f,g,i⟩:=o7 (J:=J) hp.2 c.2 e d lt;exact⟨k,Ac _ f,g,i⟩
theorem o6{J:Nat->Nat->Bool}:∀{E:List Nat},E.Pairwise (· < ·)->((E.zip (E.drop 1)).all fun(x:Nat×Nat)=>J x.1 x.2)=true->∀{v x:Nat},v∈E->x∈E->x<v->∃k∈E,k<v/\J k v=true
 | [],_,_,_,_,hv,_,_=>nomatch hv
 | [a],_,_,v,x,hv,hx,lt=>by
  rw[Ao] at hv hx;omega
 | a::b::r,hp,hc,v,x,hv,hx,lt=>by
  rw[BH] at hp;have c:(J a b&&((b::r).zip r).all fun(x:Nat×Nat)=>J x.1 x.2)=true:=hc;rw[AB] at c;rcases Am.mp hv with e|e
  ·subst e
   rcases Am.mp hx with z|z
   ·omega
   ·have:=hp.1 x z;omega
  ·by_cases vb:v=b
   ·subst vb
    exact⟨a,Ad ..,hp.1 v (Ad ..),c.1⟩
   ·have d:=BH.mp hp.2
    have f:v∈r:=by
     rcases Am.mp e with z|z
     ·exact absurd z vb
     ·exact z
    obtain⟨k,g,d,i⟩:=o6 (J:=J) hp.2 c.2 e (Ad ..) (d.1 v f);exact⟨k,Ac _ g,d,i⟩
theorem m8{J:Nat->Nat->Bool}{hh:Nat->Int}{t:Int}:∀{E:List Nat}{a:Nat},(((a::E).zip E).all fun(x:Nat×Nat)=>J x.1 x.2)=true->(∀x∈E,hh x≠t)->hh a<t->(∃x∈E,t<hh x) ->
  ∃c d,c∈a::E/\d∈a::E/\J c d=true/\hh c<t/\t<hh d
 | [],_,_,_,_,⟨_,f,_⟩=>nomatch f
 | b::r,a,hc,hn,ha,⟨x,f,tx⟩=>by
  have e:(J a b&&((b::r).zip r).all fun(x:Nat×Nat)=>J x.1 x.2)=true:=hc;rw[AB] at e
  by_cases hb:t<hh b
  ·exact⟨a,b,Ad ..,Ac _ (Ad ..),e.1,ha,hb⟩
  ·have m:=hn b (Ad ..)
   have g:x∈r:=by
    rcases Am.mp f with z|z
    ·rw[z] at tx;omega
    ·exact z
   obtain⟨c,d,i,j,l⟩:=m8 (J:=J) (hh:=hh) (t:=t) e.2 (fun x f=>hn x (Ac _ f)) (by omega) ⟨x,g,tx⟩;exact⟨c,d,Ac _ i,Ac _ j,l⟩
namespace Rules
variable{S:Plan}(R:Rules S)
include R
theorem rN{k j:Nat}(h:j∈S.nears.getD k []):(k,j)∈ways S:=by
 unfold Plan.nears at h;rw[A3] at h;simp only[Hy,Av] at h
 by_cases hk:k<S.pts.length
 ·rw[B8 hk] at h
  exact R.cZ.mp h
 ·rw[Co (by rw[AG];omega)] at h
  cases h
theorem conn:(ao S).afr where
 all:=fun P f st i a=>by
  have d:=kK (A:=P) (B:=fun _=>False) (n:=S.pts.length) (near:=S.nears) (fun k j b l _=>st k j (R.rN l) b) (S.pts.length+1) [0] ((noneSeen S.pts.length).setIfInBounds 0 true) (by
   refine⟨by rw[BV];unfold noneSeen;rw[CO],fun k b=>by rw[Ao] at b;rw[b];exact f,fun i a c => ?_,fun _ z=>z.elim⟩
   by_cases e:i=0
   ·rw[e];exact .inl f
   ·rw[A3,Bq (Ne.symm e)] at c
    unfold noneSeen at c;rw[EF,As a] at c;cases c)
  have o:=R.r9;rw[Cc] at o;have:=o i (A6.mpr a);simp only[Bv,EO] at this;rcases d.2.2.1 i a this with z|z
  ·exact z
  ·exact z.elim
 but:=fun p q P f st i a u=>by
  have m:(if p=0 then 1 else 0)≠p:=by split <;> omega
  have d:=kK (A:=fun i=>i≠p/\P i) (B:=fun i=>i=p) (n:=S.pts.length) (near:=S.nears) (fun k j b l r=>⟨r,st k j (R.rN l) b.1 r b.2⟩) (S.pts.length+1) [if p=0 then 1 else 0]
   (((noneSeen S.pts.length).setIfInBounds p true).setIfInBounds (if p=0 then 1 else 0) true) (by
   refine⟨by rw[BV,BV];unfold noneSeen;rw[CO],fun k b=>by rw[Ao] at b;rw[b];exact⟨m,f⟩,fun i a c => ?_,fun i z => ?_⟩
   ·by_cases e:i=(if p=0 then 1 else 0)
    ·rw[e];exact .inl ⟨m,f⟩
    ·rw[A3,Bq (Ne.symm e)] at c
     by_cases e2:i=p
     ·exact .inr e2
     ·rw[Bq (Ne.symm e2)] at c
      unfold noneSeen at c;rw[EF,As a] at c;cases c
   ·rw[z,A3,Bq m,Ca (by unfold noneSeen;rw[CO];exact q)]
    rfl)
  have g:=R.r10;rw[Cc] at g;have:=g p (A6.mpr q);unfold cuts seenFrom at this;have s:=d.1;have t:(spread S.nears (S.pts.length+1) [if p=0 then 1 else 0] (((noneSeen S.pts.length).setIfInBounds p true).setIfInBounds (if p=0 then 1 else 0) true)).getD i false=true:=by
   rw[A3];rw[CD (by rw[s];exact a)];cases z:(spread S.nears (S.pts.length+1) [if p=0 then 1 else 0] (((noneSeen S.pts.length).setIfInBounds p true).setIfInBounds (if p=0 then 1 else 0) true))[i]'(by rw[s];exact a) with
   | true=>rfl
   | false =>
    exfalso
    apply this
    rw[Fe,<- z];exact IS _
  rcases d.2.2.1 i a t with z|z
  ·exact z.2
  ·exact absurd z u
include R
theorem jI{p:Pt}(h:S.pts.contains p=true):∃i,i<S.pts.length/\S.pt i=p:=by
 rw[Fm] at h;obtain⟨i,a,e⟩:=AQ.mp h;exact⟨i,a,by rw[R.ace a,e]⟩
theorem frame:(∃i,i<S.pts.length/\S.pt i=⟨0,0⟩)/\(∃i,i<S.pts.length/\S.pt i=⟨S.w,0⟩)/\(∃i,i<S.pts.length/\S.pt i=⟨0,S.h⟩)/\(∃i,i<S.pts.length/\S.pt i=⟨S.w,S.h⟩) /\
  chained S (edgePts S fun(p:Pt)=>p.y==0)=true/\chained S (edgePts S fun(p:Pt)=>p.y==S.h)=true/\chained S (edgePts S fun(p:Pt)=>p.x==0)=true/\chained S (edgePts S fun(p:Pt)=>p.x==S.w)=true:=by
 have:=R.r6;unfold frameOk at this;simp only[AB] at this;obtain⟨a,b,c,d,e⟩:=this;exact⟨R.jI a,R.jI b,R.jI c,R.jI d,e⟩
theorem kq{i j:Nat}(h:S.joined i j=true):(i,j)∈ways S:=by
 unfold Plan.joined at h;rw[Fm] at h;have:=R.ln h;dsimp only at this;rw[R.dM]
 by_cases c:i<=j
 ·rw[CW c,GU c] at h;exact .inl h
 ·rw[Fw (by omega),J6 (by omega)] at h;exact .inr h
omit R in
theorem i7(a:Pt->Bool):(edgePts S a).Pairwise (· < ·):=by
 unfold edgePts;exact List.Pairwise.filter _ Dg
omit R in
theorem cC{a:Pt->Bool}{i:Nat}:i∈edgePts S a↔i<S.pts.length/\a (S.pt i)=true:=by
 unfold edgePts;rw[Bw,A6]
theorem mD{a:Pt->Bool}(c:chained S (edgePts S a)=true){v x:Nat}(d:v<S.pts.length)(e:a (S.pt v)=true)(f:x<S.pts.length)(g:a (S.pt x)=true)(lt:v<x):
  ∃k,k<S.pts.length/\a (S.pt k)=true/\v<k/\(v,k)∈ways S:=by
 obtain⟨k,b,i,j⟩:=o7 (J:=S.joined) (i7 a) c (cC.mpr ⟨d,e⟩) (cC.mpr ⟨f,g⟩) lt;exact⟨k,(cC.mp b).1,(cC.mp b).2,i,R.kq j⟩
theorem nI{a:Pt->Bool}(c:chained S (edgePts S a)=true){v x:Nat}(d:v<S.pts.length)(e:a (S.pt v)=true)(f:x<S.pts.length)(g:a (S.pt x)=true)(lt:x<v):
  ∃k,k<S.pts.length/\a (S.pt k)=true/\k<v/\(v,k)∈ways S:=by
 obtain⟨k,b,i,j⟩:=o6 (J:=S.joined) (i7 a) c (cC.mpr ⟨d,e⟩) (cC.mpr ⟨f,g⟩) lt;exact⟨k,(cC.mp b).1,(cC.mp b).2,i,R.ok0.sym (R.kq j)⟩
theorem agt{i j:Nat}(a:i<S.pts.length)(b:j<S.pts.length)(h:(S.pt i).y<(S.pt j).y\/((S.pt i).y=(S.pt j).y/\(S.pt i).x<(S.pt j).x)):i<j:=by
 rcases BY i j with z|z|z
 ·exact z
 ·rw[z] at h;omega
 ·have:=R.po z a;omega
theorem xR{i j:Nat}:(ao S).Q (i,j)↔∀r,r<S.pts.length->turn (S.pt i) (S.pt j) (S.pt r)<=0:=by
 constructor
 ·intro h r a
  have:=h r a;refine D0.mp fun z => ?_;have:=(d3 S (S.pt i) (S.pt j) (S.pt r)).1.mpr z;have:=h r a;unfold Net.t ao at this;dsimp only at this;omega
 ·intro h r a
  refine D0.mp fun z => ?_;have:=(d3 S (S.pt i) (S.pt j) (S.pt r)).1.mp z;have:=h r a;omega
omit R in
theorem cR(p q r:Pt):turn p q r=((q.x:Int)-p.x)*((r.y:Int)-q.y)-((q.y:Int)-p.y)*((r.x:Int)-q.x):=rfl
theorem aal:∀e∈(ao S).W,(ao S).Q e->∃k,(e.2,k)∈(ao S).W/\(ao S).Q (e.2,k):=by
 rintro⟨u,v⟩ he q;show ∃k,(v,k)∈ways S/\(ao S).Q (v,k);have hu:=(R.bC he).1;have f:=(R.bC he).2.1;have ne:S.pt u≠S.pt v:=fun e=>(R.bC he).2.2 (R.sO hu f e);rw[R.xR] at q;obtain⟨⟨i0,J,M⟩,⟨i1,l1,e1⟩,⟨i2,l2,e2⟩,⟨i3,O,P⟩,cb,ct,cl,cr⟩:=R.frame;have G:=q i0 J;have T:=q i1 l1;have X:=q i2 l2;have q3:=q i3 O;rw[M,cR] at G;rw[e1,cR] at T;rw[e2,cR] at X;rw[P,cR] at q3;dsimp only at G T X q3;have pu:=R.pl hu;have pv:=R.pl f;have w1:=R.w1;have a0:=R.h1;have H:=fun{i j} hi hj h=>R.agt (i:=i) (j:=j) hi hj h;have up:∀k,k<S.pts.length->(S.pt k).x=0->(S.pt v).x=0->(S.pt v).y<(S.pt k).y->(ao S).Q (v,k):=by
  intro k d E A lt;rw[R.xR];intro r Y;rw[cR,E,A];have:=Be (show(0:Int)<=((S.pt k).y:Int)-(S.pt v).y by omega) (show(0:Int)<=((S.pt r).x:Int) by omega);have e:((0:Nat):Int)=0:=rfl;rw[Fd,CK,e,E4];omega
 have right:∀k,k<S.pts.length->(S.pt k).y=S.h->(S.pt v).y=S.h->(S.pt v).x<(S.pt k).x->(ao S).Q (v,k):=by
  intro k d l m lt;rw[R.xR];intro r Y;rw[cR,l,m];have:=R.pl Y;have:=Be (show(0:Int)<=((S.pt k).x:Int)-(S.pt v).x by omega) (show(0:Int)<=(S.h:Int)-(S.pt r).y by omega);rw[Fd,CK,E4];have e:(((S.pt k).x:Int)-(S.pt v).x)*(((S.pt r).y:Int)-S.h) = - ((((S.pt k).x:Int)-(S.pt v).x)*((S.h:Int)-(S.pt r).y)):=by grind
  omega
 have Z:∀k,k<S.pts.length->(S.pt k).x=S.w->(S.pt v).x=S.w->(S.pt k).y<(S.pt v).y->(ao S).Q (v,k):=by
  intro k d E A lt;rw[R.xR];intro r Y;rw[cR,E,A];have:=R.pl Y;have:=Be (show(0:Int)<=((S.pt v).y:Int)-(S.pt k).y by omega) (show(0:Int)<=(S.w:Int)-(S.pt r).x by omega);rw[Fd,CK];have e:(((S.pt k).y:Int)-(S.pt v).y)*(((S.pt r).x:Int)-S.w)=(((S.pt v).y:Int)-(S.pt k).y)*((S.w:Int)-(S.pt r).x):=by grind
  omega
 have left:∀k,k<S.pts.length->(S.pt k).y=0->(S.pt v).y=0->(S.pt k).x<(S.pt v).x->(ao S).Q (v,k):=by
  intro k d l m lt;rw[R.xR];intro r Y;rw[cR,l,m];have:=Be (show(0:Int)<=((S.pt v).x:Int)-(S.pt k).x by omega) (show(0:Int)<=((S.pt r).y:Int) by omega);rw[Fd,CK,E4];have e:(((S.pt k).x:Int)-(S.pt v).x)*(((S.pt r).y:Int)-((0:Nat):Int)) = - ((((S.pt v).x:Int)-(S.pt k).x)*((S.pt r).y:Int)):=by
   have:((0:Nat):Int)=0:=rfl;rw[this];grind
  omega
 have C:(S.pt v).x=0->((S.pt v).y<S.h\/(S.pt v).y=S.h)->∃k,(v,k)∈ways S/\(ao S).Q (v,k):=by
  intro A c;rcases c with c|c
  ·obtain⟨k,d,ok,lt,n⟩:=R.mD cl f (by rw[A];rfl) l2 (by rw[e2];rfl) (H f l2 (by rw[e2];exact .inl c))
   have E:(S.pt k).x=0:=by simpa using ok
   exact⟨k,n,up k d E A (by have:=R.po lt d;omega)⟩
  ·obtain⟨k,d,ok,lt,n⟩:=R.mD ct f (by rw[c];simp) O (by rw[P];simp) (H f O (by rw[P];exact .inr ⟨c,by dsimp only;omega⟩))
   have l:(S.pt k).y=S.h:=by simpa using ok
   exact⟨k,n,right k d l c (by have:=R.po lt d;omega)⟩
 have g:(S.pt v).x=S.w->(0<(S.pt v).y\/(S.pt v).y=0)->∃k,(v,k)∈ways S/\(ao S).Q (v,k):=by
  intro A c;rcases c with c|c
  ·obtain⟨k,d,ok,lt,n⟩:=R.nI cr f (by rw[A];simp) l1 (by rw[e1];simp) (H l1 f (by rw[e1];exact .inl c))
   have E:(S.pt k).x=S.w:=by simpa using ok
   exact⟨k,n,Z k d E A (by have:=R.po lt f;omega)⟩
  ·obtain⟨k,d,ok,lt,n⟩:=R.nI cb f (by rw[c];rfl) J (by rw[M];rfl) (H J f (by rw[M];exact .inr ⟨c.symm,by dsimp only;omega⟩))
   have l:(S.pt k).y=0:=by simpa using ok
   exact⟨k,n,left k d l c (by have:=R.po lt f;omega)⟩
 have s:(S.pt v).y=S.h->((S.pt v).x<S.w\/(S.pt v).x=S.w)->∃k,(v,k)∈ways S/\(ao S).Q (v,k):=by
  intro m c;rcases c with c|c
  ·obtain⟨k,d,ok,lt,n⟩:=R.mD ct f (by rw[m];simp) O (by rw[P];simp) (H f O (by rw[P];exact .inr ⟨m,c⟩))
   have l:(S.pt k).y=S.h:=by simpa using ok
   exact⟨k,n,right k d l m (by have:=R.po lt d;omega)⟩
  ·exact g c (by omega)
 have B:(S.pt v).y=0->(0<(S.pt v).x\/(S.pt v).x=0)->∃k,(v,k)∈ways S/\(ao S).Q (v,k):=by
  intro m c;rcases c with c|c
  ·obtain⟨k,d,ok,lt,n⟩:=R.nI cb f (by rw[m];rfl) J (by rw[M];rfl) (H J f (by rw[M];exact .inr ⟨m.symm,c⟩))
   have l:(S.pt k).y=0:=by simpa using ok
   exact⟨k,n,left k d l m (by have:=R.po lt f;omega)⟩
  ·exact C c (by omega)
 have zz:((0:Nat):Int)=0:=rfl;rw[zz] at G T X;generalize S.pt u=p at *
 generalize S.pt v=o at *
 have I:∀{a b:Int},0<=a->0<=b->0<=a*b:=fun h1 h2=>Be h1 h2;have ng:∀a b:Int,a*(0-b) = - (a*b):=by intro a b;grind
 rw[ng,ng] at G;rw[ng] at T X;rcases Ek ((o.x:Int)-p.x) 0 with a|a|a <;> rcases Ek ((o.y:Int)-p.y) 0 with b|b|b
 ·
  exfalso
  have m1:=I (show 0 <= - ((o.x:Int)-p.x) by omega) (show(0:Int)<=(o.y:Int) by omega);have m2:0<(- ((o.y:Int)-p.y))*((S.w:Int)-o.x):=Bk (by omega) (by omega);rw[Dk] at m1 m2;omega
 ·
  rw[b,CK] at G;have oy:o.y=0:=by
   refine AU fun z => ?_;have:=Bk (show 0 < - ((o.x:Int)-p.x) by omega) (show(0:Int)<(o.y:Int) by omega);rw[Dk] at this;omega
  exact B oy (by omega)
 ·exfalso
  have m1:=I (show 0 <= - ((o.x:Int)-p.x) by omega) (show(0:Int)<=(o.y:Int) by omega);have m3:0<(- ((o.x:Int)-p.x))*(o.y:Int):=Bk (by omega) (by omega);have m2:=I (show 0<=((o.y:Int)-p.y) by omega) (show(0:Int)<=(o.x:Int) by omega);rw[Dk] at m3;omega
 ·rw[a,CK] at T
  have ox:o.x=S.w:=by
   refine AU fun z => ?_;have:=Bk (show 0 < - ((o.y:Int)-p.y) by omega) (show(0:Int)<(S.w:Int)-o.x by omega);rw[Dk] at this;omega
  exact g ox (by omega)
 ·exact absurd (by cases p;cases o;simp only at a b;congr 1 <;> omega) ne
 ·rw[a,CK] at G
  have ox:o.x=0:=by
   refine AU fun z => ?_;have:=Bk b (show(0:Int)<(o.x:Int) by omega);omega
  exact C ox (by omega)
 ·exfalso
  have m1:0<=((o.x:Int)-p.x)*((S.h:Int)-o.y):=I (by omega) (by omega);have m2:0<=(- ((o.y:Int)-p.y))*((S.w:Int)-o.x):=I (by omega) (by omega);have m3:0<((o.x:Int)-p.x)*((S.h:Int)-o.y):=Bk (by omega) (by omega);rw[Dk] at m2;omega
 ·rw[b,CK] at X
  have oy:o.y=S.h:=by
   refine AU fun z => ?_;have:=Bk a (show(0:Int)<(S.h:Int)-o.y by omega);omega
  exact s oy (by omega)
 ·exfalso
  have m1:0<=((o.x:Int)-p.x)*((S.h:Int)-o.y):=I (by omega) (by omega);have m2:0<((o.y:Int)-p.y)*(o.x:Int):=Bk (by omega) (by omega);omega
include R
theorem zE:∀e∈(ao S).W,∃r,r<(ao S).n/\(ao S).t e.1 e.2 r≠0:=by
 rintro⟨u,v⟩ he;have g:=(R.bC he).1;have i:=(R.bC he).2.1;have j:S.pt u≠S.pt v:=fun e=>(R.bC he).2.2 (R.sO g i e);obtain⟨⟨l,m,s⟩,⟨A,B,e1⟩,⟨C,E,G⟩,_⟩:=R.frame;refine AU fun H => ?_;have a:∀r,r<S.pts.length->turn (S.pt u) (S.pt v) (S.pt r)=0:=by
  intro r I;refine AU fun z=>H ⟨r,I,fun q=>z ?_⟩;exact(d3 S (S.pt u) (S.pt v) (S.pt r)).2.2.mp q
 have b:=a l m;have c:=a A B;have d:=a C E;rw[s,cR] at b;rw[e1,cR] at c;rw[G,cR] at d;dsimp only at b c d;have X:=R.w1;have J:=R.h1;generalize S.pt u=p at *
 generalize S.pt v=o at *
 have M:((o.y:Int)-p.y)*S.w=0:=by
  have f:((0:Nat):Int)=0:=rfl;rw[f] at b c
  grind
 have O:((o.x:Int)-p.x)*S.h=0:=by
  have f:((0:Nat):Int)=0:=rfl;rw[f] at b d
  grind
 have P:=dY M (by omega);have T:=dY O (by omega);exact j (by cases p;cases o;simp only at P T;congr 1 <;> omega)
omit R in
theorem gM{z:Pt}(h:clear S z=true):0<z.x/\z.x<S.w/\0<z.y/\z.y<S.h/\onLines S z=false:=by
 unfold clear at h
 simpa using h
omit R in
theorem aag(p q:Pt):isOn p q p=true:=by
 unfold isOn turn dx dy between;simp only[AB,A5,BL];refine⟨by grind,by omega,by omega⟩
omit R in
theorem xI(p q:Pt):isOn p q q=true:=by
 unfold isOn turn dx dy between;simp only[AB,A5,BL];refine⟨by grind,by omega,by omega⟩
theorem vk{z:Pt}(h:clear S z=true):∀i,i<(ao S).n->(ao S).h i≠(posOf S z).h:=by
 intro i b e;obtain⟨g,l,m,o,a⟩:=gM h;have c:S.pt i=z:=qI (R.pl b).1 (by omega) e;have d:=R.r8;rw[Cc] at d;have:=d i (A6.mpr b);simp only[A5] at this;cases q:S.near i with
 | nil=>rw[q] at this;simp at this
 | cons j r =>
  have f:(i,j)∈ways S:=R.cZ.mp (by rw[q];exact Ad ..);unfold onLines at a;rw[Eh] at a;rcases R.dM.mp f with y|y
  ·have:=a _ y
   dsimp only at this;rw[<- c,aag] at this;exact this rfl
  ·have:=a _ y
   dsimp only at this;rw[<- c,xI] at this;exact this rfl
omit R in
theorem afu{p q:Pt}(a:p.x<=S.w)(b:q.x<=S.w)(h:p.y<q.y):(posOf S p).h<(posOf S q).h:=by
 unfold posOf NN;dsimp only;have m:((S.w:Int)+1)*((p.y:Int)+1)<=((S.w:Int)+1)*q.y:=Cn (by omega) (by omega);rw[Cw] at m;omega
theorem oQ{i:Pt->Bool}(o:chained S (edgePts S i)=true){z:Pt}(hz:clear S z=true){a b:Nat}(u:a<S.pts.length)(A:i (S.pt a)=true)(B:(S.pt a).y=0)(v:b<S.pts.length)(ob:i (S.pt b)=true)(P:(S.pt b).y=S.h):
  ∃f∈(ao S).U,(ao S).at_ (posOf S z).h f/\i (S.pt f.1)=true/\i (S.pt f.2)=true:=by
 obtain⟨T,W,X,Y,Z⟩:=gM hz;have C:=R.vk hz;have n:=cC.mpr ⟨u,A⟩;have w:=cC.mpr ⟨v,ob⟩;have l:=i7 (S:=S) i;cases e:edgePts S i with
 | nil=>rw[e] at n;cases n
 | cons c E =>
  unfold chained at o;have g:∀x∈c::E,x<S.pts.length/\i (S.pt x)=true:=fun x p=>cC.mp (by rw[e];exact p);rw[e] at n w o l;have r:=g c (Ad ..);have G:c<=a:=by
   rcases Am.mp n with q|q
   ·omega
   ·have:=(BH.mp l).1 a q;omega
  have yc:(S.pt c).y=0:=by
   rcases Gq G with q|q
   ·have:=R.po q u;omega
   ·rw[q];exact B
  have s:(ao S).h c<(posOf S z).h:=afu (S:=S) (R.pl r.1).1 (by omega) (by omega);have m:(posOf S z).h<(ao S).h b:=afu (S:=S) (by omega) (R.pl v).1 (by omega);have H:b∈E:=by
   rcases Am.mp w with q|q
   ·rw[q] at m;omega
   ·exact q
  obtain⟨k,d,I,M,j,k1,O⟩:=m8 (J:=S.joined) (hh:=(ao S).h) (t:=(posOf S z).h) o (fun x p=>C x (g x (Ac _ p)).1) s ⟨b,H,m⟩;exact⟨(k,d),Net.bN.mpr ⟨R.kq j,by dsimp only;omega⟩,⟨k1,O⟩,(g k I).2,(g d M).2⟩
theorem yK{z:Pt}(hz:clear S z=true):∃f∈(ao S).U,(ao S).rz (posOf S z) f:=by
 obtain⟨_,⟨l,b,e1⟩,_,⟨m,c,a⟩,_,_,_,d⟩:=R.frame;obtain⟨f,hf,at_,e,g⟩:=R.oQ d hz b (by rw[e1];simp) (by rw[e1]) c (by rw[a];simp) (by rw[a]);obtain⟨n,o,p,q,r⟩:=gM hz;have i:(S.pt f.1).x=S.w:=by simpa using e
 have j:(S.pt f.2).x=S.w:=by simpa using g
 refine⟨f,hf,at_.1,at_.2,?_⟩;have lt:=(Net.bN.mp hf).2;have:tn ((ao S).P f.1) ((ao S).P f.2) (posOf S z)=((ao S).h f.2-(ao S).h f.1)*((S.w:Int)-z.x):=by
  unfold tn Net.h ao posOf;dsimp only;rw[i,j];grind
 rw[this];exact Bk (by omega) (by omega)
theorem abR{z:Pt}(hz:clear S z=true):∃f∈(ao S).U,(ao S).at_ (posOf S z).h f/\(ao S).x f.1=0/\(ao S).x f.2=0:=by
 obtain⟨⟨i,c,a⟩,_,⟨j,d,b⟩,_,_,_,cl,_⟩:=R.frame;obtain⟨f,hf,at_,e,g⟩:=R.oQ cl hz c (by rw[a];rfl) (by rw[a]) d (by rw[b];rfl) (by rw[b]);have l:(S.pt f.1).x=0:=by simpa using e
 have m:(S.pt f.2).x=0:=by simpa using g
 refine⟨f,hf,at_,?_,?_⟩
 ·show((S.pt f.1).x:Int)=0;omega
 ·show((S.pt f.2).x:Int)=0;omega
theorem afL{z:Pt}(hz:clear S z=true):∀e∈(ao S).W,(ao S).Q e->tn ((ao S).P e.1) ((ao S).P e.2) (posOf S z)<=0:=by
 rintro⟨u,v⟩ he q;obtain⟨Z,z2,z3,z4,z5⟩:=gM hz;rw[R.xR] at q;obtain⟨⟨r,s,A⟩,⟨B,C,e1⟩,⟨E,G,I⟩,⟨J,M,O⟩,_⟩:=R.frame;have l:=q r s;have m:=q B C;have n:=q E G;have o:=q J M;rw[A] at l;rw[e1] at m;rw[I] at n;rw[O] at o;show tn (posOf S (S.pt u)) (posOf S (S.pt v)) (posOf S z)<=0;refine D0.mp fun p => ?_;have T:=(d3 ..).1.mp p;have id:(S.w:Int)*S.h*turn (S.pt u) (S.pt v) z=((S.w:Int)-z.x)*((S.h:Int)-z.y)*turn (S.pt u) (S.pt v) ⟨0,0⟩+(z.x:Int)*((S.h:Int)-z.y)*turn (S.pt u) (S.pt v) ⟨S.w,0⟩ +
   ((S.w:Int)-z.x)*z.y*turn (S.pt u) (S.pt v) ⟨0,S.h⟩+(z.x:Int)*z.y*turn (S.pt u) (S.pt v) ⟨S.w,S.h⟩:=by
  unfold turn dx dy;dsimp only;have X:((0:Nat):Int)=0:=rfl;rw[X];generalize ((S.pt u).x:Int)=a;generalize ((S.pt u).y:Int)=b;generalize ((S.pt v).x:Int)=c;generalize ((S.pt v).y:Int)=d;generalize (z.x:Int)=x;generalize (z.y:Int)=y;generalize (S.w:Int)=W;generalize (S.h:Int)=H
  grind
 have w1:=R.w1;have Y:=R.h1;have f:∀{a b:Int},0<=a->b<=0->a*b<=0:=fun i j=>D1 i j;have g:∀{a b:Int},0<=a->0<=b->0<=a*b:=fun i j=>Be i j;have m0:=f (g (show(0:Int)<=(S.w:Int)-z.x by omega) (show(0:Int)<=(S.h:Int)-z.y by omega)) l;have m1:=f (g (show(0:Int)<=(z.x:Int) by omega) (show(0:Int)<=(S.h:Int)-z.y by omega)) m;have m2:=f (g (show(0:Int)<=(S.w:Int)-z.x by omega) (show(0:Int)<=(z.y:Int) by omega)) n;have m3:=f (g (show(0:Int)<=(z.x:Int) by omega) (show(0:Int)<=(z.y:Int) by omega)) o;have m4:=Bk (Bk (show(0:Int)<(S.w:Int) by omega) (show(0:Int)<(S.h:Int) by omega)) T;omega
theorem fH:(ways S).length=2*S.lines.length:=by
 unfold ways;have:∀l:List (Nat×Nat),(l.flatMap fun(l:Nat×Nat)=>[l,(l.2,l.1)]).length=2*l.length:=by
  intro l
  induction l with
  | nil=>rfl
  | cons a r b=>rw[BN,Al,b];simp only[A7,D9];omega
 exact this _
noncomputable def orb(S:Plan)(s:Nat×Nat):List Nat:=S.round (2*S.lines.length+1) s s
omit R in
theorem u5{s:Nat×Nat}{m:Nat}(a:(ao S).it m s=s)(b:∀k,0<k->k<m->(ao S).it k s≠s):∀(d k n:Nat),k+d=m->0<d->d<=n ->
  S.round n s ((ao S).it k s)=(CN k d).map fun j=>((ao S).it j s).1
 | 0,_,_,_,h,_=>absurd h (Cd 0)
 | d+1,k,0,_,_,h=>by omega
 | d+1,k,n+1,e,_,h=>by
  have st:(((ao S).it k s).2,S.next ((ao S).it k s).1 ((ao S).it k s).2)=(ao S).it (k+1) s:=rfl;unfold Plan.round;dsimp only;rw[st,Jp,AA]
  congr 1
  by_cases d0:d=0
  ·subst d0
   rw[show k+1=m by omega,a,As rfl];rfl
  ·rw[Ar (b (k+1) (by omega) (by omega))]
   exact u5 a b d (k+1) n (by omega) (by omega) (by omega)
theorem y8{s:Nat×Nat}(e:s∈ways S):∃m,0<m/\(ao S).it m s=s/\(∀k,0<k->k<m->(ao S).it k s≠s)/\orb S s=(An m).map fun j=>((ao S).it j s).1:=by
 obtain⟨m,b,f,c,d⟩:=R.ok.ahu e;have a:m<=(ways S).length:=f;rw[R.fH] at a;refine⟨m,b,c,d,?_⟩;have:=u5 c d m 0 (2*S.lines.length+1) (by omega) b (by omega);rw[<- DF] at this;exact this
noncomputable def prs(l:List Nat):List (Nat×Nat):=l.zip (l.drop 1++l.take 1)
omit R in
theorem afK(ws:List (Nat×Nat)):(ws.map HH).zip (ws.map La)=ws:=by
 induction ws with
 | nil=>rfl
 | cons a r b=>simp only[AA,Gr,b]
omit R in
theorem ac3{s:Nat×Nat}{m:Nat}(c:0<m)(a:(ao S).it m s=s):prs ((An m).map fun j=>((ao S).it j s).1)=(An m).map fun j=>(ao S).it j s:=by
 obtain⟨d,rfl⟩:∃d,m=d+1:=⟨m-1,by omega⟩;have e1:((An (d+1)).map fun j=>((ao S).it j s).1)=((An (d+1)).map fun j=>(ao S).it j s).map Prod.fst:=by rw[Bd];rfl
 have b:((An (d+1)).map fun j=>((ao S).it j s).1).drop 1++((An (d+1)).map fun j=>((ao S).it j s).1).take 1=((An (d+1)).map fun j=>(ao S).it j s).map Prod.snd:=by
  rw[DV,AA,Bd];show(An d).map _++[((ao S).it 0 s).1]=_;rw[show((ao S).it 0 s)=(ao S).it (d+1) s by rw[a];rfl];rw[<- DV,Ce,Ay,Ay,Bd];rfl
 unfold prs;rw[b,e1,afK]
theorem afi{ws:List (Nat×Nat)}{l:List Nat}(h:prs l=ws):sm ws (ao S).ar=2*NN S*twiceArea S l:=by
 have:∀w:List (Nat×Nat),sm w (ao S).ar=2*NN S*(w.map fun(x:Nat×Nat)=>((S.pt x.1).x:Int)*((S.pt x.2).y:Int)-((S.pt x.2).x:Int)*((S.pt x.1).y:Int)).foldr (fun(a b:Int)=>a+b) 0:=by
  intro w
  induction w with
  | nil=>rw[EW,List.foldr_nil,rP,Dh]
  | cons a r c =>
   rw[bh,c,AA,Ea,Cw]
   congr 1
   unfold Net.ar Net.x Net.h ao posOf;dsimp only;generalize NN S=N
   grind
 rw[this ws,<- h];rfl
omit R in
theorem yL{p q z:Pt}(d:p.x<=S.w)(f:q.x<=S.w)(hz:z.x<=S.w):
  (p.y<=z.y/\z.y<q.y/\0<turn p q z)↔((posOf S p).h<(posOf S z).h/\(posOf S z).h<(posOf S q).h/\0<tn (posOf S p) (posOf S q) (posOf S z)):=by
 rw[(d3 S p q z).1]
 constructor
 ·rintro⟨g,a,b⟩
  refine⟨?_,afu hz f a,b⟩;rcases Gq g with h|h
  ·exact afu d hz h
  ·have e:turn p q z=((q.y:Int)-p.y)*((p.x:Int)-z.x):=by
    rw[cR,<- h];grind
   have:(0:Int)<(p.x:Int)-z.x:=by
    rw[e,Bl] at b;exact bq b (by omega)
   unfold posOf;dsimp only;rw[h];omega
 ·rintro⟨g,a,b⟩
  have i:p.y<=z.y:=JN.mp fun c=>by have:=afu (S:=S) hz d c;omega
  have j:z.y<=q.y:=JN.mp fun c=>by have:=afu (S:=S) f hz c;omega
  refine⟨i,?_,b⟩;rcases Gq j with h|h
  ·exact h
  ·exfalso
   have l:q.x<z.x:=by
    unfold posOf at a;dsimp only at a;rw[h] at a;omega
   have e:turn p q z = - (((q.y:Int)-p.y)*((z.x:Int)-q.x)):=by
    rw[cR,h];grind
   have:=Be (show(0:Int)<=(q.y:Int)-p.y by omega) (show(0:Int)<=(z.x:Int)-q.x by omega);omega
theorem z9{ws:List (Nat×Nat)}{l:List Nat}(h:prs l=ws)(b:∀e∈ws,e∈ways S){z:Pt}(hz:z.x<=S.w):
  insideOf S l z=true↔sm ws (fun e=>ind ((ao S).rz (posOf S z) e\/(ao S).rz (posOf S z) (e.2,e.1))) % 2=1:=by
 have s:=kF;have g:∀e∈ways S,((decide ((S.pt e.1).y<=z.y)&&(decide (z.y<(S.pt e.2).y)&&decide (0<turn (S.pt e.1) (S.pt e.2) z)))||(decide ((S.pt e.2).y<=z.y)&&(decide (z.y<(S.pt e.1).y)&&decide (turn (S.pt e.1) (S.pt e.2) z<0))))=true ↔
   ((ao S).rz (posOf S z) e\/(ao S).rz (posOf S z) (e.2,e.1)):=by
  intro e he;have n:=(R.pl (R.bC (i:=e.1) (j:=e.2) he).1).1;have p:=(R.pl (R.bC (i:=e.1) (j:=e.2) he).2.1).1;simp only[DA,AB,A5];refine or_congr (yL n p hz) ?_;rw[show turn (S.pt e.1) (S.pt e.2) z<0↔0<turn (S.pt e.2) (S.pt e.1) z by rw[s (S.pt e.1)];omega];exact yL p n hz
 have m:∀w:List (Nat×Nat),(∀e∈w,e∈ways S)->((w.filter fun(x:Nat×Nat)=>(decide ((S.pt x.1).y<=z.y)&&(decide (z.y<(S.pt x.2).y)&&decide (0<turn (S.pt x.1) (S.pt x.2) z)))||(decide ((S.pt x.2).y<=z.y)&&(decide (z.y<(S.pt x.1).y)&&decide (turn (S.pt x.1) (S.pt x.2) z<0)))).length:Int) =
   sm w (fun e=>ind ((ao S).rz (posOf S z) e\/(ao S).rz (posOf S z) (e.2,e.1))):=by
  intro w
  induction w with
  | nil=>intro _;rfl
  | cons a r d =>
   intro b;have d:=d fun e he=>b e (Ac _ he);have o:=g a (b a (Ad ..));rw[bh]
   by_cases c:(ao S).rz (posOf S z) a\/(ao S).rz (posOf S z) (a.2,a.1)
   ·have:∀{f:Nat×Nat->Bool},f a=true->(((a::r).filter f).length:Int)=1+((r.filter f).length:Int):=by
     intro f hf;rw[Bz hf,A7];omega
    rw[this (o.mpr c),d,aN c]
   ·have:∀{f:Nat×Nat->Bool},f a≠true->(((a::r).filter f).length:Int)=0+((r.filter f).length:Int):=by
     intro f hf;rw[BF hf];omega
    rw[this (fun q=>c (o.mp q)),d,ay c]
 have e:=m ws b;unfold insideOf;rw[A5];have h':l.zip (l.drop 1++l.take 1)=ws:=h;rw[h'];dsimp only;omega
theorem acu{z:Pt}(hz:clear S z=true):∃e∈ways S,∀s∈ways S,
  (0<twiceArea S (orb S s)->(insideOf S (orb S s) z=true↔e∈prs (orb S s)))/\(e∈prs (orb S s)->0<twiceArea S (orb S s)):=by
 obtain⟨p,q,r,u,v⟩:=gM hz;obtain⟨e,he,h⟩:=R.ok.within R.conn (η:=fun i=>NN S*(S.pt i).y-(S.pt i).x) (fun i=>rfl) (fun i _=>Int.natCast_nonneg _) R.aal R.zE (R.vk hz) (R.yK hz) (R.abR hz) (R.afL hz);refine⟨e,he,fun s d => ?_⟩;obtain⟨m,m0,g,l,n⟩:=R.y8 d;have c:=ac3 (S:=S) m0 g;rw[<- n] at c;have k:=h s d m m0 g l;have o:∀f∈((An m).map fun k=>(ao S).it k s),f∈ways S:=by
  intro f hf;obtain⟨k,_,rfl⟩:=Ax.mp hf;exact R.ok.bP d k
 rw[<- R.z9 c o (by omega),R.afi c] at k;have j:0<2*NN S:=by have:=sQ S;omega
 rw[c];refine⟨fun a=>k.1 (Bk j a),fun a => ?_⟩;exact bq (b:=2*NN S) (by rw[Bl];exact k.2 a) j
end Rules
noncomputable def mleft(S:Plan)(h t o b:Nat):Bool :=
 if (decide (0<turn (S.pt h) (S.pt t) (S.pt o)))≠(decide (0<turn (S.pt h) (S.pt t) (S.pt b))) then decide (0<turn (S.pt h) (S.pt t) (S.pt o)) else decide (0<turn (S.pt o) (S.pt t) (S.pt b))
noncomputable def mY(S:Plan)(h t:Nat)(a:Option Nat)(o:Nat):Option Nat :=
 if o=h then a else match a with
  | none=>some o
  | some b=>if mleft S h t o b=true then some o else some b
namespace Rules
variable{S:Plan}(R:Rules S)
include R
theorem aaZ{u v o b:Nat}(w:(v,u)∈ways S)(l:(v,o)∈ways S)(m:(v,b)∈ways S)(A:o≠u)(B:b≠u):mleft S u v o b=true↔(ao S).snr v u o b:=by
 have O:=R.ok0;have i:0<turn (S.pt u) (S.pt v) (S.pt o)↔(ao S).t v u o<0:=by
  have e:turn (S.pt u) (S.pt v) (S.pt o) = - turn (S.pt v) (S.pt u) (S.pt o):=kF _ _ _;have k:=(d3 S (S.pt v) (S.pt u) (S.pt o)).2.1;have g:(ao S).t v u o<0↔turn (S.pt v) (S.pt u) (S.pt o)<0:=k;rw[g,e];omega
 have j:0<turn (S.pt u) (S.pt v) (S.pt b)↔(ao S).t v u b<0:=by
  have e:turn (S.pt u) (S.pt v) (S.pt b) = - turn (S.pt v) (S.pt u) (S.pt b):=kF _ _ _;have k:=(d3 S (S.pt v) (S.pt u) (S.pt b)).2.1;have g:(ao S).t v u b<0↔turn (S.pt v) (S.pt u) (S.pt b)<0:=k;rw[g,e];omega
 have C:0<turn (S.pt o) (S.pt v) (S.pt b)↔(ao S).t v o b<0:=by
  have e:turn (S.pt o) (S.pt v) (S.pt b) = - turn (S.pt v) (S.pt o) (S.pt b):=kF _ _ _;have k:=(d3 S (S.pt v) (S.pt o) (S.pt b)).2.1;have g:(ao S).t v o b<0↔turn (S.pt v) (S.pt o) (S.pt b)<0:=k;rw[g,e];omega
 have H:=O.hne w;have I:=O.hne l;have J:=O.hne m;have pl:=Net.plu (G:=ao S) v u o b;unfold mleft Net.snr
 by_cases c1:(ao S).t v u o<0 <;> by_cases c2:(ao S).t v u b<0
 ·have d:(ao S).hf v u o=0:=by unfold Net.hf;rw[As c1]
  have c:(ao S).hf v u b=0:=by unfold Net.hf;rw[As c2]
  rw[d,c,AD (i.mpr c1),AD (j.mpr c2),Ar (by simp),A5,C];omega
 ·have d:(ao S).hf v u o=0:=by unfold Net.hf;rw[As c1]
  have c:0<(ao S).hf v u b:=by
   unfold Net.hf;rw[Ar c2];split
   ·omega
   ·split <;> omega
  rw[d,AD (i.mpr c1),AR (fun z=>c2 (j.mp z)),As (by simp)];exact⟨fun _=>.inl c,fun _=>rfl⟩
 ·have c:(ao S).hf v u b=0:=by unfold Net.hf;rw[As c2]
  have d:0<(ao S).hf v u o:=by
   unfold Net.hf;rw[Ar c1];split
   ·omega
   ·split <;> omega
  rw[c,AR (fun z=>c1 (i.mp z)),AD (j.mpr c2),As (by simp)];exact⟨fun z=>(by cases z),fun z=>by omega⟩
 ·rw[AR (fun z=>c1 (i.mp z)),AR (fun z=>c2 (j.mp z)),Ar (by simp),A5,C]
  have f:∀{x:Nat},(v,x)∈ways S->x≠u->¬(ao S).t v u x<0->¬0<(ao S).t v u x->(((ao S).h v<(ao S).h u/\(ao S).h x<(ao S).h v)\/((ao S).h u<(ao S).h v/\(ao S).h v<(ao S).h x))/\(ao S).hf v u x=1:=by
   intro x E M a b;have P:=O.hne E;have o:((ao S).h v<(ao S).h u/\(ao S).h x<(ao S).h v)\/((ao S).h u<(ao S).h v/\(ao S).h v<(ao S).h x) :=
    AU fun n=>O.ray w E (Ne.symm M) (by omega) (by omega)
   refine⟨o,?_⟩;unfold Net.hf;rw[Ar a,Ar b,Ar (by omega)]
  by_cases d1:0<(ao S).t v u o <;> by_cases d2:0<(ao S).t v u b
  ·have d:(ao S).hf v u o=2:=by unfold Net.hf;rw[Ar c1,As d1]
   have c:(ao S).hf v u b=2:=by unfold Net.hf;rw[Ar c2,As d2]
   rw[d,c];omega
  ·have d:(ao S).hf v u o=2:=by unfold Net.hf;rw[Ar c1,As d1]
   obtain⟨q,c⟩:=f m B c2 d2;rw[d,c];have z:(ao S).t v u b=0:=by omega
   rw[z,Dh] at pl;refine⟨fun y => ?_,fun y=>by omega⟩
   exfalso
   rcases q with⟨p,r⟩|⟨p,r⟩
   ·have T:=cO (a:=(ao S).h u-(ao S).h v) (by omega) y
    have s:=b0 (a:=(ao S).h b-(ao S).h v) (b:=(ao S).t v u o) (by omega) d1;omega
   ·have T:=nz (a:=(ao S).h u-(ao S).h v) (by omega) y
    have s:=dZ (a:=(ao S).h b-(ao S).h v) (b:=(ao S).t v u o) (by omega) d1;omega
  ·have c:(ao S).hf v u b=2:=by unfold Net.hf;rw[Ar c2,As d2]
   obtain⟨q,d⟩:=f l A c1 d1;rw[d,c];have z:(ao S).t v u o=0:=by omega
   rw[z,Dh] at pl;refine⟨fun _=>.inl (by omega),fun _ => ?_⟩;rcases q with⟨p,r⟩|⟨p,r⟩
   ·have s:=b0 (a:=(ao S).h o-(ao S).h v) (b:=(ao S).t v u b) (by omega) d2
    exact aS (b:=(ao S).h u-(ao S).h v) (by rw[Bl];omega) (by omega)
   ·have s:=dZ (a:=(ao S).h o-(ao S).h v) (b:=(ao S).t v u b) (by omega) d2
    refine aS (b:=(ao S).h v-(ao S).h u) ?_ (by omega);have:(ao S).t v o b*((ao S).h v-(ao S).h u) = - (((ao S).h u-(ao S).h v)*(ao S).t v o b):=af8 _ _ _;omega
  ·obtain⟨W,d⟩:=f l A c1 d1
   obtain⟨X,c⟩:=f m B c2 d2;rw[d,c];omega
theorem xc{u v:Nat}(h:(u,v)∈ways S):(S.near v).foldl (mY S u v) none=some (S.next u v):=by
 have O:=R.ok0;have m:(v,u)∈ways S:=O.sym h;obtain⟨T,A⟩:=R.pL h;have E:∀j∈S.near v,(v,j)∈ways S:=fun j hj=>R.cZ.mp hj;have ex:∃j∈S.near v,j≠u:=by
  have r8:=R.r8;rw[Cc] at r8;have:=r8 v (A6.mpr (R.bC m).1);simp only[A5] at this;refine AU fun no => ?_;have nd:(S.near v).Nodup:=by
   unfold Fv Plan.near;rw[GV];refine R.lo.imp_of_mem ?_;intro a b ha G lt x g y i e;subst e;have la:=R.ln ha;have lb:=R.ln G
   split at g
   ·rename_i e1
    injection g with g
    split at i
    ·rename_i e2;injection i with i;omega
    ·split at i
     ·rename_i e2;injection i with i;omega
     ·cases i
   ·split at g
    ·rename_i e1
     injection g with g
     split at i
     ·rename_i e2;injection i with i;omega
     ·split at i
      ·rename_i e2;injection i with i;omega
      ·cases i
    ·cases g
  have a0:S.near v ⊆ [u]:=fun j hj=>AU fun z=>no ⟨j,hj,fun e=>z (by rw[e];exact Ao.mpr rfl)⟩;have:=nd.length_le_of_subset a0;simp at this;omega
 obtain⟨W,H,M⟩:=ex;have wu:S.next u v≠u:=by
  intro e;exact A W (E W H) (by rw[e];exact O.jH m (E W H) M)
 have a3:∀(l:List Nat)(b:Option Nat),(∀o∈l,(v,o)∈ways S)->(∀c,b=some c->(v,c)∈ways S/\c≠u) ->
   (∀c,l.foldl (mY S u v) b=some c->(v,c)∈ways S/\c≠u/\(∀d,b=some d->d=c\/¬(ao S).snr v u d c)/\∀o∈l,o≠u->¬(ao S).snr v u o c) /\
   ((∃c,b=some c)\/(∃o∈l,o≠u)->∃c,l.foldl (mY S u v) b=some c):=by
  intro l
  induction l with
  | nil =>
   intro b _ G;refine⟨fun c e=>⟨(G c e).1,(G c e).2,fun d I=>.inl (Ah (I.symm.trans e)),fun _ z=>nomatch z⟩,?_⟩;rintro(⟨c,e⟩|⟨_,z,_⟩)
   ·exact⟨c,e⟩
   ·cases z
  | cons o r X =>
   intro b hl G;have P:=hl o (Ad ..);have Y:=fun x g=>hl x (Ac o g);rw[BK]
   by_cases ou:o=u
   ·have e:mY S u v b o=b:=by unfold mY;rw[As ou]
    rw[e];obtain⟨p,s⟩:=X b Y G;refine⟨fun c f => ?_,fun z=>s ?_⟩
    ·obtain⟨k1,B,C,w⟩:=p c f
     refine⟨k1,B,C,fun x g n => ?_⟩;rcases Am.mp g with y|y
     ·exact absurd (y.trans ou) n
     ·exact w x y n
    ·rcases z with z|⟨x,g,n⟩
     ·exact .inl z
     ·rcases Am.mp g with y|y
      ·exact absurd (y.trans ou) n
      ·exact .inr ⟨x,y,n⟩
   ·cases b with
    | none =>
     have e:mY S u v none o=some o:=by unfold mY;rw[Ar ou]
     rw[e];obtain⟨p,s⟩:=X (some o) Y (fun c f=>by injection f with f;subst f;exact⟨P,ou⟩);refine⟨fun c f => ?_,fun _=>s (.inl ⟨o,rfl⟩)⟩;obtain⟨k1,B,C,w⟩:=p c f;refine⟨k1,B,fun d I=>(nomatch I),fun x g n => ?_⟩;rcases Am.mp g with y|y
     ·subst y
      rcases C x rfl with z|z
      ·rw[z];exact Net.Ok0.pY
      ·exact z
     ·exact w x y n
    | some b =>
     obtain⟨J,bu⟩:=G b rfl;have Z:=R.aaZ m P J ou bu
     by_cases c1:mleft S u v o b=true
     ·have e:mY S u v (some b) o=some o:=by unfold mY;rw[Ar ou];dsimp only;rw[As c1]
      rw[e];obtain⟨p,s⟩:=X (some o) Y (fun c f=>by injection f with f;subst f;exact⟨P,ou⟩);refine⟨fun c f => ?_,fun _=>s (.inl ⟨o,rfl⟩)⟩;obtain⟨k1,B,C,w⟩:=p c f;have oc:¬(ao S).snr v u o c:=by
       rcases C o rfl with z|z
       ·rw[z];exact Net.Ok0.pY
       ·exact z
      refine⟨k1,B,fun d I => ?_,fun x g n => ?_⟩
      ·injection I with I
       subst I
       right
       intro z;exact oc (O.mN m P J k1 (Z.mp c1) z)
      ·rcases Am.mp g with y|y
       ·rw[y];exact oc
       ·exact w x y n
     ·have e:mY S u v (some b) o=some b:=by unfold mY;rw[Ar ou];dsimp only;rw[Ar c1]
      rw[e];obtain⟨p,s⟩:=X (some b) Y (fun c f=>by injection f with f;subst f;exact⟨J,bu⟩);refine⟨fun c f => ?_,fun _=>s (.inl ⟨b,rfl⟩)⟩;obtain⟨k1,B,C,w⟩:=p c f;refine⟨k1,B,C,fun x g n => ?_⟩;rcases Am.mp g with y|y
      ·subst y
       intro z;rcases C b rfl with bc|bc
       ·rw[<- bc] at z;exact c1 (Z.mpr z)
       ·
        by_cases e2:c=b
        ·rw[e2] at z;exact c1 (Z.mpr z)
        ·rcases O.tE m k1 J e2 with q|q
         ·exact c1 (Z.mpr (O.mN m P k1 J z (O.kh m k1 J q)))
         ·exact bc (O.kh m J k1 q)
      ·exact w x y n
 obtain⟨p,s⟩:=a3 (S.near v) none E (fun c e=>(nomatch e));obtain⟨c,f⟩:=s (.inr ⟨W,H,M⟩);obtain⟨k1,B,_,w⟩:=p c f;rw[f]
 congr 1
 refine AU fun ne => ?_;rcases O.tE m k1 T ne with q|q
 ·exact A c k1 (O.kh m k1 T q)
 ·exact w _ (R.cZ.mpr T) wu (O.kh m T k1 q)
end Rules
namespace Rules
noncomputable def ows(S:Plan)(s:Nat×Nat):List (Nat×Nat):=prs (orb S s)
theorem gN{α:Type}[BEq α][LawfulBEq α]:∀(n:Nat)(l:List α),l.length<=n->l.eraseDups.Nodup
 | 0,l,h=>by
  have:l=[]:=List.eq_nil_of_length_eq_zero (by omega);subst this;simp
 | n+1,[],_=>by simp
 | n+1,a::r,h=>by
  rw[List.eraseDups_cons,Bx]
  constructor
  ·intro m
   rw[IC,Bw] at m;simp at m
  ·refine gN n _ ?_
   have:=Fo (fun b => !b==a) r;simp only[A7] at h;omega
theorem foldl_min:∀(r:List Nat)(a:Nat),(r.foldl min a=a\/r.foldl min a∈r)/\r.foldl min a<=a/\∀b∈r,r.foldl min a<=b
 | [],a=>⟨.inl rfl,Ak _,fun _ h=>nomatch h⟩
 | c::r,a=>by
  obtain⟨d,g,e⟩:=foldl_min r (min a c);rw[BK];refine⟨?_,by omega,fun b f => ?_⟩
  ·rcases d with z|z
   ·by_cases q:a<=c
    ·left;omega
    ·right
     have:r.foldl min (min a c)=c:=by omega
     rw[this];exact Ad ..
   ·exact .inr (Ac _ z)
  ·rcases Am.mp f with z|z
   ·rw[z];omega
   ·exact e b z
variable{S:Plan}(R:Rules S)
include R
theorem b7{s:Nat×Nat}(c:s∈ways S):∃m,0<m/\(ao S).it m s=s/\(∀k,0<k->k<m->(ao S).it k s≠s)/\orb S s=((An m).map fun j=>((ao S).it j s).1)/\ows S s=(An m).map fun j=>(ao S).it j s:=by
 obtain⟨m,m0,a,d,b⟩:=R.y8 c;refine⟨m,m0,a,d,b,?_⟩;unfold ows;rw[b];exact ac3 m0 a
theorem gC{s e:Nat×Nat}(a:s∈ways S):e∈ows S s↔∃k,(ao S).it k s=e:=by
 obtain⟨m,m0,b,d,_,c⟩:=R.b7 a;rw[c]
 constructor
 ·intro h
  obtain⟨k,_,e⟩:=Ax.mp h;exact⟨k,e⟩
 ·rintro⟨k,rfl⟩
  exact Net.Ok.aax b m0
theorem pZ{s:Nat×Nat}(a:s∈ways S):s∈ows S s:=(R.gC a).mpr ⟨0,rfl⟩
theorem mB{s e:Nat×Nat}(a:s∈ways S)(he:e∈ows S s):e∈ways S:=by
 obtain⟨k,rfl⟩:=(R.gC a).mp he;exact R.ok.bP a k
theorem gz{s e f:Nat×Nat}(a:s∈ways S)(he:e∈ows S s)(hf:f∈ows S e):f∈ows S s:=by
 obtain⟨k,rfl⟩:=(R.gC a).mp he;obtain⟨j,rfl⟩:=(R.gC (R.ok.bP a k)).mp hf;exact(R.gC a).mpr ⟨j+k,Net.Ok.fE j k s⟩
theorem fP{s e:Nat×Nat}(b:s∈ways S)(he:e∈ows S s):s∈ows S e:=by
 have c:=R.mB b he;obtain⟨m,m0,d,g,_,f⟩:=R.b7 b;rw[f] at he;obtain⟨k,a,rfl⟩:=Ax.mp he;rw[A6] at a;refine(R.gC c).mpr ⟨m-k,?_⟩;rw[<- Net.Ok.fE,show m-k+k=m by omega,d]
theorem ab8{s:Nat×Nat}(o:s∈ways S){m k:Nat}(m0:0<m)(v:(ao S).it m s=s)(f:∀k,0<k->k<m->(ao S).it k s≠s)(G:k<m):
  orb S ((ao S).it k s)=(orb S s).drop k++(orb S s).take k:=by
 have w:=R.ok.bP o k;have l:∀j,(ao S).it (j+m) s=(ao S).it j s:=fun j=>by rw[Net.Ok.fE,v]
 have p:(ao S).it m ((ao S).it k s)=(ao S).it k s:=by
  rw[<- Net.Ok.fE,IT,l]
 have g:∀j,0<j->j<m->(ao S).it j ((ao S).it k s)≠(ao S).it k s:=by
  intro j y A e;rw[<- Net.Ok.fE,IT,Net.Ok.fE] at e;exact f j y A (R.ok.yI (R.ok.bP o j) o k e)
 have n:∀(x:Nat×Nat),x∈ways S->∀q,0<q->(ao S).it q x=x->(∀k,0<k->k<q->(ao S).it k x≠x)->orb S x=(An q).map fun j=>((ao S).it j x).1:=by
  intro x B q C E r;obtain⟨u,a,b,c,d⟩:=R.y8 B;have:u=q:=by
   rcases BY u q with z|z|z
   ·exact absurd b (r u a z)
   ·exact z
   ·exact absurd E (c q C z)
  rw[<- this];exact d
 rw[n _ w m m0 p g,n s o m m0 v f];refine G9 fun i => ?_
 by_cases hi:i<m
 ·rw[Av,B8 hi]
  by_cases c:i<m-k
  ·rw[A1 (by rw[Cf,Ab,AG];omega),List.getElem?_drop,Av,B8 (by omega)]
   show some ((ao S).it i ((ao S).it k s)).1=some ((ao S).it (k+i) s).1;rw[<- Net.Ok.fE,IT]
  ·rw[Aw (by rw[Cf,Ab,AG];omega),Cf,Ab,AG,BC (by omega),Av,B8 (by omega)]
   show some ((ao S).it i ((ao S).it k s)).1=some ((ao S).it (i-(m-k)) s).1;rw[<- Net.Ok.fE,show i+k=(i-(m-k))+m by omega,l]
 ·rw[Co (by rw[Ab,AG];omega),Co (by rw[Al,Cf,AO,Ab,AG];omega)]
def dh(S:Plan)(s:Nat×Nat):Prop:=s∈ways S/\∀e∈ows S s,s.1<=e.1
instance (S:Plan) (s:Nat×Nat):Decidable (dh S s):=by unfold dh;infer_instance
theorem uG{s e f:Nat×Nat}(a:s∈ways S)(he:e∈ows S s)(hf:f∈ows S s)(h:e.1=f.1):e=f:=by
 obtain⟨m,m0,b,c,n,l⟩:=R.b7 a;rw[l] at he hf;obtain⟨i,d,rfl⟩:=Ax.mp he;obtain⟨j,g,rfl⟩:=Ax.mp hf;rw[A6] at d g;rcases BY i j with z|z|z
 ·exact absurd h (R.ok.once a R.conn b c z g)
 ·rw[z]
 ·exact absurd h.symm (R.ok.once a R.conn b c z d)
theorem vK{r c s:Nat×Nat}(d:s∈ways S)(h:dh S r)(h':dh S c)(m:r∈ows S s)(e:c∈ows S s):r=c:=by
 have a:=h.2 c (R.gz h.1 (R.fP d m) e);have b:=h'.2 r (R.gz h'.1 (R.fP d e) m);exact R.uG d m e (by omega)
theorem pR{e:Nat×Nat}(he:e∈ways S):∃r,dh S r/\r∈ows S e/\fromLeast (orb S e)=orb S r:=by
 obtain⟨m,m0,s,u,n,v⟩:=R.b7 he;have b:(orb S e).length=m:=by rw[n,Ab,AG]
 cases q:orb S e with
 | nil=>rw[q] at b;simp at b;omega
 | cons a r =>
  obtain⟨w,y,A⟩:=foldl_min r a;have o:r.foldl min a∈orb S e:=by
   rw[q];rcases w with z|z
   ·rw[z];exact Ad ..
   ·exact Ac _ z
  have p:(orb S e).idxOf (r.foldl min a)<m:=by rw[<- b];exact List.idxOf_lt_length_of_mem o
  have B:(orb S e)[(orb S e).idxOf (r.foldl min a)]'(by rw[b];exact p)=r.foldl min a:=List.getElem_idxOf _;have C:=R.ok.bP he ((orb S e).idxOf (r.foldl min a));have d:((ao S).it ((orb S e).idxOf (r.foldl min a)) e).1=r.foldl min a:=by
   have g:∀(i:Nat)(h:i<(orb S e).length),(orb S e)[i]=((ao S).it i e).1:=by
    intro i h;simp only[n];rw[Dt,D2]
   exact(g _ _).symm.trans B
  have c:(ao S).it ((orb S e).idxOf (r.foldl min a)) e∈ows S e:=(R.gC he).mpr ⟨_,rfl⟩;refine⟨(ao S).it ((orb S e).idxOf (r.foldl min a)) e,⟨C,fun f hf => ?_⟩,c,?_⟩
  ·rw[d]
   have l:=R.gz he c hf;rw[v] at l;obtain⟨j,E,rfl⟩:=Ax.mp l;have:((ao S).it j e).1∈orb S e:=by
    rw[n];exact Ax.mpr ⟨j,E,rfl⟩
   rw[q] at this;rcases Am.mp this with z|z
   ·rw[z];exact y
   ·exact A _ z
  ·rw[R.ab8 he m0 s u p,q]
   rfl
theorem zX{s:Nat×Nat}(a:s∈ways S):∃l,orb S s=s.1::s.2::l:=by
 obtain⟨m,m0,b,f,c,_⟩:=R.b7 a;have g:2<=m:=by
  refine JN.mp fun z => ?_;have:m=1:=by omega
  subst this;have e:(ao S).phi s=s:=b;have:=B2 HH e;exact(R.bC (i:=s.1) (j:=s.2) a).2.2 this.symm
 obtain⟨d,rfl⟩:∃d,m=d+2:=⟨m-2,by omega⟩;rw[c,DV,DV,AA,AA,AA];exact⟨_,rfl⟩
theorem adT{r s:Nat×Nat}(a:r∈ways S)(b:s∈ways S)(h:orb S r=orb S s):r=s:=by
 obtain⟨l,e1⟩:=R.zX a;obtain⟨k,c⟩:=R.zX b;rw[e1,c] at h;injection h with h1 h2
 injection h2 with h2 _
 exact JM h1 h2
theorem qY{l:List Nat}:l∈S.outlines↔∃r,dh S r/\l=orb S r/\0<twiceArea S l:=by
 unfold Plan.outlines;rw[Bw,IC,Ax,A5]
 constructor
 ·rintro⟨⟨e,he,rfl⟩,c⟩
  obtain⟨r,a,_,b⟩:=R.pR he;exact⟨r,a,b,c⟩
 ·rintro⟨r,a,rfl,c⟩
  obtain⟨f,d,g,b⟩:=R.pR a.1;have:f=r:=R.vK a.1 d a g (R.pZ a.1);rw[this] at b;exact⟨⟨r,a.1,b⟩,c⟩
theorem oB:S.outlines.Nodup:=by
 unfold Plan.outlines;exact(gN _ _ (Ak _)).filter _
noncomputable def dw(S:Plan):List (Nat×Nat):=(An S.pts.length).flatMap fun u=>(S.near u).map fun v=>(u,v)
noncomputable def bI(S:Plan):List (List Nat):=(((dw S).filter fun s=>decide (dh S s)).filter fun s=>decide (0<twiceArea S (orb S s))).map (orb S)
theorem cU{e:Nat×Nat}:e∈dw S↔e∈ways S:=by
 unfold dw;rw[Bc]
 constructor
 ·rintro⟨u,_,h⟩
  obtain⟨v,a,rfl⟩:=Ax.mp h;exact R.cZ.mp a
 ·intro h
  exact⟨e.1,A6.mpr (R.bC (i:=e.1) (j:=e.2) h).1,Ax.mpr ⟨e.2,R.cZ.mpr h,rfl⟩⟩
theorem xi(v:Nat):(S.near v).Nodup:=by
 unfold Fv Plan.near;rw[GV];refine R.lo.imp_of_mem ?_;intro a b f g lt x d y c e;subst e;have i:=R.ln f;have j:=R.ln g
 split at d
 ·rename_i e1
  injection d with d
  split at c
  ·rename_i e2;injection c with c;omega
  ·split at c
   ·rename_i e2;injection c with c;omega
   ·cases c
 ·split at d
  ·rename_i e1
   injection d with d
   split at c
   ·rename_i e2;injection c with c;omega
   ·split at c
    ·rename_i e2;injection c with c;omega
    ·cases c
  ·cases d
theorem dI:(dw S).Nodup:=by
 unfold dw Fv;rw[Hz];refine⟨fun u _ => ?_,?_⟩
 ·rw[C4]
  refine(R.xi u).imp ?_;intro a b c e;exact c (CM e).2
 ·refine(Dg (n:=S.pts.length)).imp ?_
  intro a b lt x d y f e;obtain⟨v,_,rfl⟩:=Ax.mp d;obtain⟨w,_,rfl⟩:=Ax.mp f;have:=(CM e).1;omega
theorem oo:(dw S).Pairwise fun a b=>a.1<=b.1:=by
 unfold dw;rw[Hz];refine⟨fun u _ => ?_,?_⟩
 ·rw[C4]
  exact List.pairwise_of_forall fun _ _=>Ak _
 ·refine(Dg (n:=S.pts.length)).imp ?_
  intro a b lt x c y d;obtain⟨v,_,rfl⟩:=Ax.mp c;obtain⟨w,_,rfl⟩:=Ax.mp d;exact BQ lt
theorem fL{l:List Nat}:l∈bI S↔∃r,dh S r/\l=orb S r/\0<twiceArea S l:=by
 unfold bI;rw[Ax]
 constructor
 ·rintro⟨r,h,rfl⟩
  rw[Bw,Bw,A5,A5] at h;exact⟨r,h.1.2,rfl,h.2⟩
 ·rintro⟨r,a,rfl,b⟩
  refine⟨r,?_,rfl⟩;rw[Bw,Bw,A5,A5];exact⟨⟨R.cU.mpr a.1,a⟩,b⟩
theorem mK:(bI S).Nodup:=by
 unfold bI Fv;rw[C4];refine EE ?_ ((R.dI.filter _).filter _);intro a b c d f e;rw[Bw,Bw,A5] at c d;exact f (R.adT c.1.2.1 d.1.2.1 e)
theorem ko:(bI S).Perm S.outlines:=by
 rw[Et R.mK R.oB];intro l;rw[R.fL,R.qY]
theorem adV{z:Pt}(hz:clear S z=true):∃l∈bI S,insideOf S l z=true/\(∀b∈bI S,insideOf S b z=true->b=l)/\S.among S.outlines z=some l:=by
 obtain⟨e,he,h⟩:=R.acu hz;obtain⟨r,g,m,_⟩:=R.pR he;have n:e∈ows S r:=R.fP he m;have pos:=(h r g.1).2 n;have c:=((h r g.1).1 pos).mpr n;have d:∀b∈bI S,insideOf S b z=true->b=orb S r:=by
  intro b i p;obtain⟨o,a,rfl,s⟩:=R.fL.mp i;have u:=((h o a.1).1 s).mp p;have:o=r:=R.vK he a g (R.fP a.1 u) m;rw[this]
 have f:orb S r∈bI S:=R.fL.mpr ⟨r,g,rfl,pos⟩;refine⟨orb S r,f,c,d,?_⟩;unfold Plan.among;rw[As hz];have j:=R.ko.mem_iff.mp f;cases q:S.outlines.find? fun l=>insideOf S l z with
 | none =>
  rw[Cc] at q;exact absurd c (q _ j)
 | some l =>
  have v:=FP q;have w:=Gz q;rw[d l (R.ko.mem_iff.mpr w) v]
end Rules
end Geo
namespace Gs
open PySem PySem.Spec PyProof.Rows L2
structure Def(K:Lf)(mg:Lg)(x:AW)(st:F6)(ps:List AW):Prop where
 ex:∃f fd,Fun K x x st f fd/\mg x=some (.ref f)/\Binds K fd ps []
structure Fn(P:AI)(w:AZ)(K:Lf)(mg:Lg)(base:B1)(k:Nat)(x:AW)(ps:List AW)(sp:Sp):Prop where
 ex:∃f fd,mg x=some (.ref f)/\Cb K (.ref f)=true/\Binds K fd ps []/\n8 P w K mg base CX0 k f fd ps sp
structure sy(K:Lf)(C:Ag)(m q:AW)(st:F6)(ps:List AW):Prop where
 ex:∃f fd,Fun K m q st f fd/\Meth K C m f/\Binds K fd ps []
structure Me(P:AI)(w:AZ)(K:Lf)(mg:Lg)(base:B1)(k:Nat)(C:Ag)(m:AW)(ps:List AW)(sp:Sp):Prop where
 cl:Cls K C
 ex:∃f fd,Meth K C m f/\Binds K fd ps []/\n8 P w K mg base CX0 k f fd ps sp
structure lK(K:Lf)(mg:Lg)(x q:AW)(C:Ag)(st:F6)(ps fs:List AW):Prop where
 cl:Cls K C
 at_:mg x=some (.ref C)
 no:∀f∈fs,fJ K C f
 ex:∃f fd,Fun K "__init__" q st f fd/\Mk K C f/\Binds K fd ps []
def spI(C:Ag)(n:Nat)(a:List V->List (AW×V)):Sp:=fun vs H Q _=>∃p dx us,vs=.ref p::us/\us.length=n/\H p=some (.ins C dx [])/\Q .non (upd H p (.ins C dx (a us)))
structure Kl(P:AI)(w:AZ)(K:Lf)(mg:Lg)(base:B1)(k:Nat)(x:AW)(C:Ag)(n:Nat)(fs:List V->List (AW×V)):Prop where
 cl:Cls K C
 at_:mg x=some (.ref C)
 ex:∃f fd ps,Mk K C f/\Binds K fd ps []/\n8 P w K mg base CX0 k f fd ps (spI C n fs)
section
variable{P:AI}{w:AZ}{K:Lf}{mg:Lg}{base:B1}{k:Nat}{x m q:AW}{ps N:List AW}{sp:Sp}{st:F6}{C:Ag}{n:Nat}{fs:List V->List (AW×V)}
theorem Def.fn(D:Def K mg x st ps)(S:bD N ps (aG st))(b:∀vs H Q E,sp vs H Q E->vs.length=ps.length)(c:∀(f:Ag) (a:Ai) (A:B7) (outer:List Ib) (s:Aq) (H:Hp) (vs:List V) (Q:VK) (E:XK),fD k (A.deeper (envOfC x (aG st) s.heap.objs.size f a))->sp vs H Q E ->
   ∃t,PSs (xB CX0 P w K mg base N x (aG st) f a A outer s H E).nox (bK st) t/\t { nx:=fun _ d=>Q .non d,rt:=Q } (start N vs) H):
  Fn P w K mg base (k+1) x ps sp:=by
 obtain⟨f,e,F,g,i⟩:=D.ex;exact⟨f,e,g,F.kp,i,F.ok S b (c f)⟩
theorem sy.me(D:sy K C m q st ps)(cl:Cls K C)(S:bD N ps (aG st))(b:∀vs H Q E,sp vs H Q E->vs.length=ps.length)(c:∀(f:Ag) (a:Ai) (A:B7) (outer:List Ib) (s:Aq) (H:Hp) (vs:List V) (Q:VK) (E:XK),fD k (A.deeper (envOfC q (aG st) s.heap.objs.size f a))->sp vs H Q E ->
   ∃t,PSs (xB CX0 P w K mg base N q (aG st) f a A outer s H E).nox (bK st) t/\t { nx:=fun _ d=>Q .non d,rt:=Q } (start N vs) H):
  Me P w K mg base (k+1) C m ps sp:=by
 obtain⟨f,e,F,g,i⟩:=D.ex;exact⟨cl,f,e,g,i,F.ok S b (c f)⟩
theorem lK.kl{fl:List AW}(D:lK K mg x q C st ps fl)(S:bD N ps (aG st))(c:ps.length=n+1)(e:∀(f:Ag) (b:Ai) (A:B7) (a:List Ib) (s:Aq) (H:Hp) (p dx:Ag) (us:List V) (Q:VK) (E:XK),fD k (A.deeper (envOfC q (aG st) s.heap.objs.size f b))->us.length=n->H p=some (.ins C dx []) ->
   Q .non (upd H p (.ins C dx (fs us))) ->
   ∃t,PSs (xB CX0 P w K mg base N q (aG st) f b A a s H E).nox (bK st) t/\t { nx:=fun _ g=>Q .non g,rt:=Q } (start N (.ref p::us)) H):
  Kl P w K mg base (k+1) x C n fs:=by
 obtain⟨f,i,F,j,l⟩:=D.ex;refine⟨D.cl,D.at_,f,i,ps,j,l,F.ok S (fun vs H Q E h => ?_) (fun b A a s H vs Q E o h => ?_)⟩
 ·obtain⟨p,dx,us,rfl,d,_⟩:=h
  rw[A7,d,c]
 ·obtain⟨p,dx,us,rfl,d,r,u⟩:=h
  exact e f b A a s H p dx us Q E o d r u
end
section
variable{X:Cx}{k:Nat}{x m:AW}{ps:List AW}{sp:Sp}{e o:B9}{es:List B9}{t:TA}{ta:TE}{p pos apos:Pos}{C:Ag}{n:Nat}{fs:List V->List (AW×V)}
theorem aib(F:Fn X.prog X.w X.K X.mg X.base k x ps sp)(c:fD k X.A)(d:PA X (e::es) t)(g:Gl X x:=by rfl)(a:(x==("__debug__" : AW))=false:=by decide)(he:starEach (e::es) X.env=(false,eval e X.env)::starEach es X.env:=by rfl)(b:(backTo pos (starEach es X.env)).any (·.1)=false:=by rfl)(i:Passes CX0 X E0:=by exact sf):
  PE X (.Call (.Name x p) (e::es) [] pos) (yh sp [] E0 t):=by
 obtain⟨f,r,j,l,q,F⟩:=F.ex;exact aeh F c g j l q .nil i d a he b
theorem gF{pl:K2 Bool}(he:PE X o ta)(M:Me X.prog X.w X.K X.mg X.base k C m ps sp)(d:fD k X.A)(g:PA X (e::es) t)(a:starEach (e::es) X.env=(false,eval e X.env)::starEach es X.env:=by rfl)(b:(backTo pos (starEach es X.env)).any (·.1)=false:=by rfl)(i:eval (.Call (.Attribute o m apos) (e::es) [] pos) X.env=(do
   let c <- eval o X.env
   standAt apos.atName
   let (f,first) <- holding [c] (getMethod c m pl)
   callWith pos f first (backTo pos (starEach (e::es) X.env)) (backToKw pos (keywordEach [] X.env))):=by rfl)(j:Passes CX0 X E0:=by exact sf):
  PE X (.Call (.Attribute o m apos) (e::es) [] pos) (ab5 C m sp [] E0 ta t):=by
 obtain⟨f,r,l,q,F⟩:=M.ex;exact adS he M.cl l F d q .nil j g a b i
theorem agy{pl:K2 Bool}(he:PE X o ta)(M:Me X.prog X.w X.K X.mg X.base k C m ps sp)(b:fD k X.A)(c:eval (.Call (.Attribute o m apos) [] [] pos) X.env=(do
   let a <- eval o X.env
   standAt apos.atName
   let (f,first) <- holding [a] (getMethod a m pl)
   callWith pos f first (backTo pos (starEach [] X.env)) (backToKw pos (keywordEach [] X.env))):=by rfl)(d:Passes CX0 X E0:=by exact sf):
  PE X (.Call (.Attribute o m apos) [] [] pos) (ab5 C m sp [] E0 ta xX):=by
 obtain⟨f,j,g,i,F⟩:=M.ex;exact ab9 he M.cl g F b i .nil d c
theorem aie(M:Kl X.prog X.w X.K X.mg X.base k x C n fs)(c:fD (k+1) X.A)(d:PA X (e::es) t)(g:Gl X x:=by rfl)(a:(x==("__debug__" : AW))=false:=by decide)(he:starEach (e::es) X.env=(false,eval e X.env)::starEach es X.env:=by rfl)(b:(backTo pos (starEach es X.env)).any (·.1)=false:=by rfl)(i:Passes CX0 X E0:=by exact sf):
  PE X (.Call (.Name x p) (e::es) [] pos) (abx C (spI C n fs) [] E0 t):=by
 obtain⟨f,q,ps,j,l,F⟩:=M.ex;exact zS (p:=p) (pos:=pos) j F c g M.at_ l (.nil) i d a he b
theorem vv{H1:Hp}{us:List V}{Q:VK}(a:us.length=n)(h:∀x dx,H1 x=AK->H1 dx=AK->dx≠x->Q (.ref x) (upd (upd H1 dx (.own x)) x (.ins C dx (fs us)))):
  ∀x dx,H1 x=AK->H1 dx=AK->dx≠x->spI C n fs (.ref x::(us++[])) (upd (upd H1 dx (.own x)) x (.ins C dx [])) (fun v b=>v=.non/\Q (.ref x) b) E0:=by
 intro x dx c d f;refine⟨x,dx,us,by rw[CB],a,ag,rfl,?_⟩;rw[bQ];exact h x dx c d f
def i9(mg:Lg)(x:AW)(n:Int):Prop:=∃t,mg x=some (.int n t)
theorem acF{i:Int}(a:Gl X x)(h:i9 X.mg x i)(b:(x==("__debug__" : AW))=false:=by decide):PE X (.Name x pos) (tC (.int i)):=by
 obtain⟨t,h⟩:=h;exact aaV a h ⟨t,rfl⟩ b
theorem abN{a:Ag}(b:Gl X x)(h:X.mg x=some (.ref a))(c:(x==("__debug__" : AW))=false:=by decide):PE X (.Name x pos) (tC (.ref a)):=aaV b h rfl c
end
def wB(K:Lf)(H:Hp)(a:Ag)(x y:Int):Prop:=∃xs,SqT K H a xs/\xs[0]? = some (.int x)/\xs[1]? = some (.int y)
theorem wB.of2{K:Lf}{H:Hp}{a:Ag}{x y:Int}{r:List V}(h:H a=some (.tup (.int x::.int y::r))):wB K H a x y:=⟨_,SqT.of h,rfl,rfl⟩
def Rows(H:Hp)(a:Ag)(R:List (List Int)):Prop:=∃as:List Ag,H a=some (.lst (as.map V.ref))/\as.length=R.length/\∀(i:Nat)(p:Ag)(r:List Int),as[i]? = some p->R[i]? = some r->H p=some (.tup (r.map V.int))
theorem Rows.same{H b:Hp}{a:Ag}{R:List (List Int)}(h:Rows H a R)(s:aM H b):Rows b a R:=by
 obtain⟨as,c,d,e⟩:=h;exact⟨as,s _ _ c,d,fun i p r e1 f=>s _ _ (e i p r e1 f)⟩
theorem Rows.get{H:Hp}{a:Ag}{R:List (List Int)}(h:Rows H a R):∃xs:List V,H a=some (.lst xs)/\xs.length=R.length/\∀(i:Nat)(r:List Int),R[i]? = some r->∃p,xs[i]? = some (.ref p)/\H p=some (.tup (r.map V.int)):=by
 obtain⟨as,c,d,f⟩:=h;refine⟨as.map V.ref,c,by rw[Ab,d],fun i r e => ?_⟩;have b:i<as.length:=by
  have:=(Aj.mp e).1;omega
 refine⟨as[i],by rw[Av,Aa b];rfl,f i _ r (Aa b) e⟩
def Sm(z:Int):Prop:=0<=z/\z<4294967296
theorem afY{a b c:Int}(d:Sm a)(e:Sm b):x3 (a-b) c:=by
 unfold Sm at *;exact .inl ⟨by omega,by omega⟩
theorem adl{a c:Int}(b:Sm a):x3 a c:=by
 unfold Sm at *;exact .inl ⟨by omega,by omega⟩
section
variable{K:Lf}{σ:L2.St}{H:Hp}{Q:VK}{i:Nat}{a:Ag}{xs:List V}{v:V}{n:Int}
theorem dO{j:Nat}(b:σ[i]? = some (some (.ref a)))(c:SqT K H a xs)(d:xs[j]? = some v)(h:Q v H)(e:n=(j:Int):=by rfl):tOp (ags K) (qd i) (tC (.int n)) σ H Q :=
 ⟨_,b,_,_,_,_,rfl,rfl,c,by rw[e];exact aQ d,h⟩
end
theorem vX{J:It}{g:TG}{tb:TS}{D:Ends}{σ:L2.St}{H:Hp}(n:Nat)(b:Nat->L2.St->Hp->Prop)(o:b 0 σ H)(c:∀i σ H,i<n->b i σ H->J.go i H)(q:∀i x σ H a,i<n->b i σ H->J.yld i H x a->g x σ a fun d f=>tb { D with nx:=b (i+1),ct:=b (i+1),bk:=D.nx } d f)(r:∀σ H,b n σ H->J.stop n H/\D.nx σ H):
  ∃W:Nat->Nat->L2.St->Hp->Prop,(∃m,W 0 m σ H)/\∀i m σ H,W i m σ H ->
   (J.stop i H/\D.nx σ H)\/(J.go i H/\∃N:L2.St->Hp->Prop,(∀j a,N j a->∃l,l<m/\W (i+1) l j a)/\∀x a,J.yld i H x a->g x σ a fun d f=>tb { D with nx:=N,ct:=N,bk:=D.nx } d f):=by
 refine⟨fun i m σ H=>m=n-i/\i<=n/\b i σ H,⟨n,by simp,AN _,o⟩,?_⟩;rintro i m σ H ⟨rfl,u,p⟩
 by_cases hlt:i<n
 ·exact .inr ⟨c i σ H hlt p,b (i+1),fun j a s=>⟨n-(i+1),by omega,rfl,hlt,s⟩,fun x a y=>q i x σ H a hlt p y⟩
 ·have e:i=n:=by omega
  subst e;exact .inl (r σ H p)
theorem iW{J:It}{g:TG}{r:TT}{s:TE}{vs:List Nat}{σ:L2.St}{H:Hp}{R:Hp->Prop}(D:Ag)(n:Nat)(c:Nat->Hp->Prop)(v:c 0 H)(l:∀i H,i<n->c i H->J.go i H)(w:∀i x H a,i<n->c i H->J.yld i H x a->g x (wipe σ vs) a fun d o=>wipe d vs=wipe σ vs/\r d o fun b f =>
   if b=true then s d f fun y j=>∃acc,j D=some (.lst acc)/\acc.length<sizeLine/\c (i+1) (upd j D (.lst (acc++[y]))) else c (i+1) f)(z:∀H,c n H->J.stop n H/\R H):
  ∃W:Nat->Nat->Hp->Prop,(∃m,W 0 m H)/\∀i m H,W i m H ->
   (J.stop i H/\R H)\/(J.go i H/\∃q:Hp->Prop,(∀a,q a->∃u,u<m/\W (i+1) u a)/\∀x a,J.yld i H x a->g x (wipe σ vs) a fun d o=>wipe d vs=wipe σ vs/\r d o fun b f =>
    if b=true then s d f fun y j=>∃acc,j D=some (.lst acc)/\acc.length<sizeLine/\q (upd j D (.lst (acc++[y]))) else q f):=by
 refine⟨fun i m H=>m=n-i/\i<=n/\c i H,⟨n,by simp,AN _,v⟩,?_⟩;rintro i m H ⟨rfl,B,p⟩
 by_cases hlt:i<n
 ·exact .inr ⟨l i H hlt p,c (i+1),fun a A=>⟨n-(i+1),by omega,rfl,hlt,A⟩,fun x a y=>w i x H a hlt p y⟩
 ·have e:i=n:=by omega
  subst e;exact .inl (z H p)
noncomputable def leZ:List Int->Int
 | []=>0
 | c::r=>c+256*leZ r
noncomputable def fC(b:List Int)(st a:Nat):Int:=leZ ((b.drop st).take a)
theorem tO(xs:List V)(a b:Nat):lI xs (some (a:Int)) (some (b:Int))=(xs.drop a).take (b-a):=by
 unfold lI;rw[HT.m9,HT.m9]
 by_cases h:a<=xs.length
 ·rw[CW h]
  by_cases h2:b<=xs.length
  ·rw[CW h2]
  ·rw[Fw (by omega),BB (by rw[Cf];omega),BB (by rw[Cf];omega)]
 ·rw[show min a xs.length=xs.length by omega,Ff (Ak _),Ff (show xs.length<=a by omega),Kh,Kh]
theorem ak{H:Hp}{p:Ag}{o:HO}(h:H p=AK):aM H (upd H p o):=fun b u e=>by
 rw[aw (aB e h)];exact e
theorem mE:∀{l:List Int},(∀z∈l,0<=z/\z<256)->0<=leZ l/\(l.length<=4->leZ l<4294967296)/\(l.length<=3->leZ l<16777216)/\(l.length<=2->leZ l<65536)/\(l.length<=1->leZ l<256)/\(l.length<=0->leZ l<1)
 | [],_=>⟨F8 0,fun _=>by decide,fun _=>by decide,fun _=>by decide,fun _=>by decide,fun _=>by decide⟩
 | c::r,h=>by
  have a:=mE (l:=r) fun z hz=>h z (Ac _ hz);have b:=h c (Ad ..);show 0<=c+256*leZ r/\_;simp only[leZ,A7];refine⟨by omega,fun q => ?_,fun q => ?_,fun q => ?_,fun q => ?_,fun q=>by omega⟩
  ·have:=a.2.2.1 (by omega);omega
  ·have:=a.2.2.2.1 (by omega);omega
  ·have:=a.2.2.2.2.1 (by omega);omega
  ·have:=a.2.2.2.2.2 (by omega);omega
def oR(K:Lf)(a:Ag)(xs:List V):Prop:=∀H:Hp,SqT K H a xs
theorem vH:∀l m:List Int,GG (l.map C5) (m.map C5)=decide (l=m)
 | [],[]=>rfl
 | [],b::m=>by simp[GG]
 | a::l,[]=>by simp[GG]
 | a::l,b::m=>by
  show(JO (.int a) (.int b)&&GG (l.map C5) (m.map C5))=_;rw[vH l m,JO]
  by_cases h:a=b
  ·subst h;simp
  ·simp[h]
theorem lay_ints:∀l:List Int,IU (l.map C5)=true
 | []=>rfl
 | a::l=>by
  show(JP (.int a)&&IU (l.map C5))=true;rw[lay_ints l];rfl
theorem o9:∀l:List Int,Ht (l.map C5)<=1
 | []=>by simp[Ht]
 | a::l=>by
  have:=o9 l;simp only[AA,Ht,IV];omega
theorem oM(l:List Int):Hj (.tuple (l.map C5))=true:=by
 unfold Hj;have a:JP (.tuple (l.map C5))=true:=lay_ints l;have b:IV (.tuple (l.map C5))<=64:=by
  have:=o9 l;simp only[IV];omega
 rw[a,AD b];rfl
theorem ue{K:Lf}{H:Hp}:∀l:List Int,uF K H (l.map V.int) (l.map C5)
 | []=>.nil
 | a::l=>.cons (.int a) (ue l)
theorem aI{a H:Hp}{D:Ag}{o:HO}(s:aM a H)(n:a D=AK):aM a (upd H D o):=fun b u e=>by
 rw[aw (aB e n)];exact s b u e
theorem Rows.nil{H:Hp}{a:Ag}(h:H a=some (.lst [])):Rows H a []:=⟨[],h,rfl,fun i p r e=>by simp at e⟩
theorem Rows.snoc{H:Hp}{a p:Ag}{R:List (List Int)}{acc:List V}{r:List Int}(h:Rows H a R)(f:H a=some (.lst acc))(g:H p=some (.tup (r.map V.int))):Rows (upd H a (.lst (acc++[.ref p]))) a (R++[r]):=by
 obtain⟨as,b,j,m⟩:=h;rw[f] at b;obtain rfl:acc=as.map V.ref:=by injection b with b;injection b
 refine⟨as++[p],by rw[ag,Ay];rfl,by rw[Al,Al,j];rfl,fun i q t e1 c => ?_⟩;have l:∀{q:Ag}{ys:List V},H q=some (.tup ys)->q≠a:=fun d=>tS d f (fun z=>nomatch z)
 by_cases hi:i<as.length
 ·rw[A1 hi] at e1
  rw[A1 (by omega)] at c;have d:=m i q t e1 c;rw[aw (l d)];exact d
 ·have e:i=as.length:=by
   have:=(Aj.mp e1).1;rw[Al] at this;simp at this;omega
  subst e;rw[Aw (Ak _),BE] at e1;rw[Aw (by omega),<- j,BE] at c;obtain rfl:p=q:=Ah e1;obtain rfl:r=t:=Ah c;rw[aw (l g)];exact g
theorem Rows.lst{H:Hp}{a:Ag}{R:List (List Int)}(h:Rows H a R):∃acc,H a=some (.lst acc)/\acc.length=R.length:=by
 obtain⟨as,b,c,_⟩:=h;exact⟨_,b,by rw[Ab,c]⟩
theorem rgc{i:Int}{n:Nat}{c:Int}(a:c=4\/c=8\/c=12)(e:0<=i)(f:i+c*n<2 ^ 62):RgC i (i+c*n) c n:=by
 have d:By i (i+c*n) c=n:=by
  unfold By;rcases a with rfl|rfl|rfl
  ·rw[As (by decide)];split <;> omega
  ·rw[As (by decide)];split <;> omega
  ·rw[As (by decide)];split <;> omega
 refine⟨by omega,by omega,?_,d⟩;unfold CA;rw[d,As (show c>0 by omega)];simp only[Gd,AB,DA,A5,BL];have g:(n:Int)<=c*n:=by rcases a with rfl|rfl|rfl <;> omega
 have b:4<=c/\c<=12:=by omega
 clear a d;generalize c*(n:Int)=s at *
 omega
noncomputable def bz(b:List UInt8):List Int:=b.map fun c=>(c.toNat:Int)
theorem zV(b:List UInt8):leZ (bz b)=(Jq b:Int):=by
 induction b with
 | nil=>rfl
 | cons c r a =>
  show(c.toNat:Int)+256*leZ (bz r)=_;rw[a];simp[Jq]
theorem jc(b:List UInt8)(st a:Nat):fC (bz b) st a=(Bs b st a:Int):=by
 unfold fC Bs;rw[<- zV];unfold bz;rw[F3,GH]
theorem mf(b:List UInt8):∀z∈bz b,0<=z/\z<256:=by
 intro z hz;obtain⟨c,_,rfl⟩:=Ax.mp hz;have:c.toNat<256:=c.toNat_lt;omega
theorem yS(b:List UInt8)(st:Nat):Bs b st 4<4294967296:=by
 have:=(mE (l:=bz ((b.drop st).take 4)) (mf _)).2.1 (by unfold bz;rw[Ab,AO];omega);rw[zV] at this;have e:Bs b st 4=Jq ((b.drop st).take 4):=rfl;omega
theorem iS(b:List UInt8)(st:Nat):Bs b st 2<65536:=by
 have:=(mE (l:=bz ((b.drop st).take 2)) (mf _)).2.2.2.1 (by unfold bz;rw[Ab,AO];omega);rw[zV] at this;have e:Bs b st 2=Jq ((b.drop st).take 2):=rfl;omega
noncomputable def ai7(N:List AW)(b a:Eg)(own:List (AW×Nat)):Bool :=
 decide (a.kind=.function)&&(a.names.all fun y=>decide (a.names.lookup y.1=some y.2))&&(own.all fun p=>decide (N[p.2]? = some p.1)) &&
 (a.names.all fun y => !decide (y.2=.free)||(decide (b.names.lookup y.1=some .cell)||decide (b.names.lookup y.1=some .free))) &&
 (a.names.all fun y => !(decide (y.2=.local)||decide (y.2=.cell))||(decide (y.1∈own.map (·.1)) || !decide (y.1∈N)))
theorem d4{N:List AW}{c a:Eg}{own:List (AW×Nat)}(h:ai7 N c a own=true):aaI N c a own:=by
 unfold ai7 at h;simp only[AB,Ds,A5,DA,Bool.not_eq_true',DP] at h;obtain⟨⟨⟨⟨d,f⟩,g⟩,i⟩,j⟩:=h;refine⟨d,fun y b=>f y b,fun p l=>g p l,fun y b e => ?_,fun y b e => ?_⟩
 ·rcases i y b with z|z
  ·exact absurd e z
  ·exact z
 ·rcases j y b with z|z
  ·rw[BO] at z
   simp only[DP] at z;rcases e with e|e
   ·exact absurd e z.1
   ·exact absurd e z.2
  ·exact z
theorem ke{σ:L2.St}{H:Hp}{A B:Hp->Prop}(h:A H):ajd σ H (fun b a=>if b=true then A a else B a):=by
 show if true=true then A H else B H
 rw[As rfl];exact h
theorem xZ{σ:L2.St}{H:Hp}{Q:List V->Hp->Prop}(h:Q [] H):xX σ H Q:=h
theorem fsc{N ps:List AW}{a:Eg}(b:a.kind=.function:=by rfl)(c:a.isCoroutine=false:=by rfl)(d:a.isGenerator=false:=by rfl)(e:N.Nodup:=by decide +kernel)(f:N.take ps.length=ps:=by rfl)(g:∀x∈ps,a.names.lookup x=some .local\/a.names.lookup x=some .cell:=by decide +kernel)(i:∀y∈a.names,y.2≠.free:=by decide +kernel):bD N ps a:=⟨b,c,d,e,f,g,i⟩
section
variable{P:AI}{w:AZ}{K:Lf}{mg:Lg}{base:B1}{k:Nat}{x m q:AW}{ps:List AW}{sp:Sp}{st:F6}{C:Ag}
theorem Def.fx(D:Def K mg x st ps)(N:List AW)(c:N.Nodup->∀(f:Ag) (a:Ai) (A:B7) (outer:List Ib) (s:Aq) (H:Hp) (vs:List V) (Q:VK) (E:XK),fD k (A.deeper (envOfC x (aG st) s.heap.objs.size f a))->sp vs H Q E ->
   ∃t,PSs (xB CX0 P w K mg base N x (aG st) f a A outer s H E).nox (bK st) t/\t { nx:=fun _ d=>Q .non d,rt:=Q } (start N vs) H)(S:bD N ps (aG st):=by exact fsc)(b:∀vs H Q E,sp vs H Q E->vs.length=ps.length:=by intro _ _ _ _ h;cases h;subst_vars;rfl):
  Fn P w K mg base (k+1) x ps sp:=D.fn S b (c S.nd)
theorem sy.fx(D:sy K C m q st ps)(cl:Cls K C)(N:List AW)(c:N.Nodup->∀(f:Ag) (a:Ai) (A:B7) (outer:List Ib) (s:Aq) (H:Hp) (vs:List V) (Q:VK) (E:XK),fD k (A.deeper (envOfC q (aG st) s.heap.objs.size f a))->sp vs H Q E ->
   ∃t,PSs (xB CX0 P w K mg base N q (aG st) f a A outer s H E).nox (bK st) t/\t { nx:=fun _ d=>Q .non d,rt:=Q } (start N vs) H)(S:bD N ps (aG st):=by exact fsc)(b:∀vs H Q E,sp vs H Q E->vs.length=ps.length:=by intro _ _ _ _ h;cases h;subst_vars;rfl):
  Me P w K mg base (k+1) C m ps sp:=D.me cl S b (c S.nd)
theorem Fun.fx{f:Ag}{c:DE}(F:Fun K x q st f c)(N:List AW)(d:N.Nodup->∀(a:Ai) (A:B7) (outer:List Ib) (s:Aq) (H:Hp) (vs:List V) (Q:VK) (E:XK),fD k (A.deeper (envOfC q (aG st) s.heap.objs.size f a))->sp vs H Q E ->
   ∃t,PSs (xB CX0 P w K mg base N q (aG st) f a A outer s H E).nox (bK st) t/\t { nx:=fun _ e=>Q .non e,rt:=Q } (start N vs) H)(S:bD N ps (aG st):=by exact fsc)(b:∀vs H Q E,sp vs H Q E->vs.length=ps.length:=by intro _ _ _ _ h;cases h;subst_vars;rfl):
  n8 P w K mg base CX0 (k+1) f c ps sp:=F.ok S b (d S.nd)
end
section
variable{X:Cx}{a b c e o:B9}{es:List B9}{te ta tb to:TE}{tc:TT}{t:TA}{u:TS}{sts:List F6}{x:AW}{p pos apos cpos:Pos}{j k n:Nat}{ps:List AW}{sp:Sp}{C:Ag}{fs:List V->List (AW×V)}
theorem kxL(d:X.mg "len" = none)(f:PE X e te)(g:Gl X "len" := by rfl)(he:starEach [e] X.env=(false,eval e X.env)::starEach [] X.env:=by rfl):PE X (.Call (.Name "len" p) [e] [] pos) (tCB (fun xs H Q=>aiy X.K xs H Q) (ky te xX)) :=
 dJ sM g d HI (ab f ah he) (he:=he)
theorem kxI(d:PE X a ta)(f:PE X b tb)(g:tj b:=by exact fun _ _=>rfl):PE X (.Subscript a b pos) (tOp (ae2 X.K) ta tb):=uH yG d f g
theorem kxT(d:PE X a ta)(f:PE X b tb)(g:tj b:=by exact fun _ _=>rfl):PE X (.Subscript a b pos) (tOp (ags X.K) ta tb):=uH ac9 d f g
theorem kxG{i:Int}(h:i9 X.mg x i)(d:Gl X x:=by rfl)(f:(x==("__debug__" : AW))=false:=by decide):PE X (.Name x pos) (tC (.int i)):=acF d h f
theorem kxR{a:Ag}(h:X.mg x=some (.ref a))(d:Gl X x:=by rfl)(f:(x==("__debug__" : AW))=false:=by decide):PE X (.Name x pos) (tC (.ref a)):=abN d h f
theorem kxA(g:PE X o to)(i:PE X e te)(l:attributeBase o "append" X.env (eval o X.env)=eval o X.env:=by rfl)(d:((backTo cpos (starEach [e] X.env)).all (fun x => !x.1)&&(backToKw cpos (keywordEach [] X.env)).all (fun x=>x.1.isSome)&&decide ([e].length+([]:List HW).length+(if ([]:List HW).isEmpty then 0 else 1)<30))=true:=by rfl)(m:(apos.endLine==cpos.line)=true:=by rfl)(f:starEach [e] X.env=(false,eval e X.env)::starEach [] X.env:=by rfl):PE X (.Call (.Attribute o "append" apos) [e] [] cpos) (tBM X.K "list" tW to (ky te xX)) :=
 af7 ES PySem.F.slot_list_append PySem.F.type_list_append aad g (ab i ah f) l d m f
theorem kxX(g:PE X o to)(i:PE X e te)(l:attributeBase o "extend" X.env (eval o X.env)=eval o X.env:=by rfl)(d:((backTo cpos (starEach [e] X.env)).all (fun x => !x.1)&&(backToKw cpos (keywordEach [] X.env)).all (fun x=>x.1.isSome)&&decide ([e].length+([]:List HW).length+(if ([]:List HW).isEmpty then 0 else 1)<30))=true:=by rfl)(m:(apos.endLine==cpos.line)=true:=by rfl)(f:starEach [e] X.env=(false,eval e X.env)::starEach [] X.env:=by rfl):PE X (.Call (.Attribute o "extend" apos) [e] [] cpos) (tBM X.K "list" pP to (ky te xX)) :=
 af7 ES PySem.F.slot_list_extend PySem.F.type_list_extend zF g (ab i ah f) l d m f
theorem kxq(d:PE X a ta)(f:PE X b tb):PT X (.Compare a [.Eq] [b] pos) (tM (tOp rEq ta tb)):=fV aeZ d f (bj _)
theorem kxn(d:PE X a ta)(f:PE X b tb):PT X (.Compare a [.NotEq] [b] pos) (tM (tOp rNe ta tb)):=fV aix d f (bj _)
theorem kxl(d:PE X a ta)(f:PE X b tb):PT X (.Compare a [.Lt] [b] pos) (tM (tOp (rI0 fun i j=>.bl (decide (i<j))) ta tb)):=fV xH d f (bj _)
theorem aiS(d:PE X a ta)(f:PE X b tb):PT X (.Compare a [.LtE] [b] pos) (tM (tOp (rI0 fun i j=>.bl (decide (i<=j))) ta tb)):=fV wZ d f (bj _)
theorem kxg(d:PE X a ta)(f:PE X b tb):PT X (.Compare a [.Gt] [b] pos) (tM (tOp (rI0 fun i j=>.bl (decide (j<i))) ta tb)):=fV lJ d f (bj _)
theorem ajr(d:PE X a ta)(f:PE X b tb):PT X (.Compare a [.GtE] [b] pos) (tM (tOp (rI0 fun i j=>.bl (decide (j<=i))) ta tb)):=fV agu d f (bj _)
theorem kxF(F:Fn X.prog X.w X.K X.mg X.base j x ps sp)(g:fD k X.A)(i:PA X (e::es) t)(l:j<=k:=by decide)(m:Gl X x:=by rfl)(d:(x==("__debug__" : AW))=false:=by decide)(he:starEach (e::es) X.env=(false,eval e X.env)::starEach es X.env:=by rfl)(f:(backTo pos (starEach es X.env)).any (·.1)=false:=by rfl)(q:Passes CX0 X E0:=by exact sf):
  PE X (.Call (.Name x p) (e::es) [] pos) (yh sp [] E0 t):=aib F (g.mono l) i m d he f q
theorem kxK(M:Kl X.prog X.w X.K X.mg X.base j x C n fs)(g:fD k X.A)(i:PA X (e::es) t)(l:j+1<=k:=by decide)(m:Gl X x:=by rfl)(d:(x==("__debug__" : AW))=false:=by decide)(he:starEach (e::es) X.env=(false,eval e X.env)::starEach es X.env:=by rfl)(f:(backTo pos (starEach es X.env)).any (·.1)=false:=by rfl)(q:Passes CX0 X E0:=by exact sf):
  PE X (.Call (.Name x p) (e::es) [] pos) (abx C (spI C n fs) [] E0 t):=aie M (g.mono l) i m d he f q
theorem kxr(he:PE X e te):PSs X [.Return (some e) pos] (aio te):=aE (agG he)
theorem kxf(d:PT X c tc)(he:PE X e te)(f:PSs X sts u):PSs X (.If c [.Return (some e) p] [] pos::sts) (afs (ai5 tc (aio te) ahl) u):=az (cg d (kxr he) aR) f
theorem kxs(i:Nat)(d:X.N.Nodup)(he:PE X e te)(f:PSs X sts u)(g:X.N[i]? = some x:=by rfl)(l:Loc X.env.scope x:=by first|exact .inl rfl|exact .inr rfl)(m:swapsWith e (some (.Name x p)) pos.line X.env=pure false:=by rfl)(hf:X.fn x=true\/X.env.scope.names.lookup x=some .local:=by first|exact .inl rfl|exact .inr rfl):
  PSs X (.Assign [.Name x p] e pos::sts) (afs (aiL te (rF i)) u):=az (oW d g l he m hf) f
theorem kxo(i:Nat)(d:X.N.Nodup)(f:X.N[i]? = some x:=by rfl)(g:Loc X.env.scope x:=by first|exact .inl rfl|exact .inr rfl)(hf:X.fn x=true\/X.env.scope.names.lookup x=some .local:=by first|exact .inl rfl|exact .inr rfl|assumption):PG X (.Name x pos) (rF i):=aes d f g hf
theorem kxe(he:PE X e te)(d:PSs X sts u)(f:swapsWith e none pos.line X.env=pure false:=by rfl):PSs X (.Expr e pos::sts) (afs (acv te) u):=az (cS he f) d
end
theorem us2{α:Type}{l:List α}(h:l.length=2):∃a b,l=[a,b]:=match l,h with|[a,b],_=>⟨a,b,rfl⟩
theorem us3{α:Type}{l:List α}(h:l.length=3):∃a b c,l=[a,b,c]:=match l,h with|[a,b,c],_=>⟨a,b,c,rfl⟩
theorem us4{α:Type}{l:List α}(h:l.length=4):∃a b c d,l=[a,b,c,d]:=match l,h with|[a,b,c,d],_=>⟨a,b,c,d,rfl⟩
theorem us5{α:Type}{l:List α}(h:l.length=5):∃a b c d e,l=[a,b,c,d,e]:=match l,h with|[a,b,c,d,e],_=>⟨a,b,c,d,e,rfl⟩
noncomputable def ag5:HO->Nat
 | .ins _ _ _=>0
 | .lst _=>1
 | .dK _=>2
 | .tup _=>3
 | _=>4
theorem d5{H:Hp}{a b:Ag}{o u:HO}(h:H a=some o)(h':H b=some u)(d:(ag5 o==ag5 u)=false:=by rfl):a≠b:=tS h h' fun e=>by rw[e,E3] at d;cases d
abbrev IsZ(h:B1)(z TI TO:Ag)(a b:Ai):Prop :=
 h.get? z=some { cls:=.type "zip",dict:=none,data:=.fields #[a,b,.bool false,.ref TI,.ref TO],slots := #[] }
def rM(a:Ai):Prop:=a=.none\/∃T:Ag,a=rawInt T
section
variable{prog:AI}{w:AZ}{A:B7}{E:Ai->Aq->Prop}{s:Aq}
theorem abU{a:Ag}{Q:Option D5->Aq->Prop}(h:Q (s.heap.get? a) s):wpAny (model prog w) A (loadIfAlive a) Q E s:=fun Γ p _=>by
 show Sem.wp _ _ (Sem.loadIfAlive a Sem.pure) _ _ _ _;simp only[Sem.wp];exact h
theorem adh{z TI TO:Ag}{a:Ai}{b:Bool}{Q:Bool->Aq->Prop}(hz:IsZ s.heap z TI TO a (.bool b))(hf:rM a)(d:Q true s)(e:∀h',IsZ h' z TI TO a (.bool true)->Ez z s.heap h'->Q false { s with heap:=h' }):wpAny (model prog w) A (Cp (.ref z)) Q E s:=by
 unfold Cp;rcases hf with rfl|⟨T,rfl⟩
 ·exact Af (Cy hz rfl (x:=.none) rfl (A2 d))
 ·refine Af (Cy hz rfl (x:=rawInt T) rfl ?_)
  show wpAny _ _ (loadIfAlive ((T:Int).toNat) >>= _) _ _ _;refine Af (abU ?_);cases q:s.heap.get? (T:Int).toNat with
  | none=>exact A2 d
  | some o =>
   show wpAny _ _ (field (.ref z) 1 >>= _) _ _ _;refine Af (Cy hz rfl (x:=.bool b) rfl ?_);cases b with
   | true=>exact A2 (e _ hz ⟨rfl,fun _ _=>rfl⟩)
   | false=>exact Af (CH hz (by simp) fun h' c f=>A2 (e h' c f))
theorem ahk{z TI TO j l B G:Ag}{k1 S:Nat}{xs ys:Array Ai}{x y Z:Ai}{H:Bool}{Q:Ai->Aq->Prop}(D:Fg z TI TO j l B G)(hz:IsZ s.heap z TI TO Z (.bool H))(hf:rM Z)(a0:DK s.heap TI (.ref j) (.ref l))(m:∃a b,DK s.heap TO a b)(h1:s.heap.IsListIter j B k1)(h2:s.heap.IsListIter l G S)(I:s.heap.IsList B xs)(J:s.heap.IsList G ys)(hx:xs[k1]? = some x)(hy:ys[S]? = some y)(hQ:∀h' M b',IsZ h' z TI TO M (.bool b')->rM M->(∃a b,DK h' TO a b)->h'.IsListIter j B (k1+1)->h'.IsListIter l G (S+1)->DK h' s.heap.objs.size x y ->
   (∀c o,c≠z->c≠TO->c≠j->c≠l->s.heap.get? c=some o->h'.get? c=some o)->Q (.ref s.heap.objs.size) { s with heap:=h' }):
  wpAny (model prog w) A (Builtin.«zip.__next__» ⟨[.ref z],[]⟩) (fun a3 s'=>∃v,a3=.done (.ret v)/\Q v s') E s:=by
 obtain⟨a,b,m⟩:=m;show wpAny _ _ (field (.ref z) 2 >>= _) _ _ _;refine Af (Cy hz rfl (x:=.bool false) rfl ?_);show wpAny _ _ (field (.ref z) 3 >>= _) _ _ _;refine Af (Cy hz rfl (x:=.ref TI) rfl ?_);refine Af (C6 a0 rfl ?_);show wpAny _ _ (Cp (.ref z) >>= _) _ _ _;refine Af (adh hz hf ?_ fun g hg q => ?_)
 ·simp only[G5]
  refine Af (Fx (Af (Cy hz rfl (x:=.ref TO) rfl (Af (CH hz (by simp) fun g1 z1 e1 => ?_)))))
  replace z1:IsZ g1 z TI TO .ellipsis (.bool H):=z1
  refine Af ?_;simp only[Fy,J7,EH,Er];refine Af (Af (GI ?_));show wpAny _ _ (Bg (.ref j) >>= _) _ _ _;refine Af (C7 (h1.extBut e1.extBut D.i1z) (I.extBut e1.extBut D.l1z) hx fun g2 r f=>A2 ?_);have o2:DK g2 TO a b:=f.extBut _ _ D.TOi1 (e1.extBut _ _ D.TOz m);refine Af (C6 o2 rfl (Af (F9 o2 fun g3 o3 C => ?_)))
  replace o3:DK g3 TO x b:=o3
  refine Af (GA (A2 (Af (Af (GI ?_)))));show wpAny _ _ (Bg (.ref l) >>= _) _ _ _;refine Af (C7 (((h2.extBut e1.extBut D.i2z).extBut f.extBut D.i12.symm).extBut C.extBut D.TOi2.symm) (((J.extBut e1.extBut D.l2z).extBut f.extBut D.l2i1).extBut C.extBut D.l2TO) hy fun n u i=>A2 ?_);have T:DK n TO x b:=i.extBut _ _ D.TOi2 o3;refine Af (C6 T rfl (Af (F9 T fun d W O => ?_)))
  replace W:DK d TO x y:=W
  refine Af (GA (A2 (A2 ?_)));refine Af (C6 W rfl (Af (HJ ?_)));have sz:d.objs.size=s.heap.objs.size:=by rw[O.1,i.1,C.1,f.1,e1.1]
  have z5:IsZ d z TI TO .ellipsis (.bool H):=O.extBut _ _ D.TOz.symm (i.extBut _ _ D.i2z.symm (C.extBut _ _ D.TOz.symm (f.extBut _ _ D.i1z.symm z1)));have k5:∀c o,c≠z->c≠TO->c≠j->c≠l->s.heap.get? c=some o->d.get? c=some o:=fun c o p P R c4 e =>
   O.extBut _ _ P (i.extBut _ _ c4 (C.extBut _ _ P (f.extBut _ _ R (e1.extBut _ _ p e))))
  have n1:d.IsListIter j B (k1+1):=((r.extBut C.extBut D.TOi1.symm).extBut i.extBut D.i12).extBut O.extBut D.TOi1.symm;have n2:d.IsListIter l G (S+1):=u.extBut O.extBut D.TOi2.symm;have zl:z<d.objs.size:=AF z5;show wpAny _ _ (E8 (.ref z) (.ref d.objs.size) >>= _) _ _ _;refine Af ?_;unfold E8;have z6:IsZ (d.push { cls:=.type "tuple",data:=.seq #[x,y] }) z TI TO .ellipsis (.bool H):=Ap _ z5;refine Af (CH z6 (by simp) fun g7 z7 e7 => ?_)
  replace z7:IsZ g7 z TI TO (rawInt d.objs.size) (.bool H):=z7
  refine CH z7 (by simp) fun X z8 e8 => ?_
  replace z8:IsZ X z TI TO (rawInt d.objs.size) (.bool false):=z8
  have Y:∀c o,c≠z->d.get? c=some o->X.get? c=some o:=fun c o p e=>e8.extBut _ _ p (e7.extBut _ _ p (Ap _ e));have t8:DK X d.objs.size x y:=e8.extBut _ _ (CJ zl) (e7.extBut _ _ (CJ zl) (AH _ rfl));refine A2 ⟨_,rfl,?_⟩;show Q (.ref d.objs.size) _;rw[sz] at t8 ⊢;exact hQ X _ _ z8 (.inr ⟨_,rfl⟩) ⟨_,_,Y _ _ D.TOz W⟩ (n1.at fun o e=>Y _ o D.i1z e) (n2.at fun o e=>Y _ o D.i2z e) t8 fun c o p P R c4 e=>Y c o p (k5 c o p P R c4 e)
 ·simp only[Ct,Eo]
  refine Af ?_;rw[<- Gu];simp only[EH,Er];refine Af (Af (C0 ?_));show wpAny _ _ (Bg (.ref j) >>= _) _ _ _;refine Af (C7 (h1.extBut q.extBut D.i1z) (I.extBut q.extBut D.l1z) hx fun g2 r f=>A2 (A2 ?_));refine Af (Af (C0 ?_));show wpAny _ _ (Bg (.ref l) >>= _) _ _ _;refine Af (C7 ((h2.extBut q.extBut D.i2z).extBut f.extBut D.i12.symm) ((J.extBut q.extBut D.l2z).extBut f.extBut D.l2i1) hy fun n u i=>A2 (A2 (A2 ?_)));refine Af (HJ (hsz:=by show 2<=sizeLine;decide) ?_);have sz:n.objs.size=s.heap.objs.size:=by rw[i.1,f.1,q.1]
  have z4:IsZ n z TI TO Z (.bool true):=i.extBut _ _ D.i2z.symm (f.extBut _ _ D.i1z.symm hg);have T:DK n TO a b:=i.extBut _ _ D.TOi2 (f.extBut _ _ D.TOi1 (q.extBut _ _ D.TOz m));have n1:n.IsListIter j B (k1+1):=r.extBut i.extBut D.i12;refine A2 ⟨_,rfl,?_⟩;show Q (.ref n.objs.size) _;have t4:DK (n.push { cls:=.type "tuple",data:=.seq #[x,y] }) n.objs.size x y:=AH _ rfl;rw[sz] at t4 ⊢;exact hQ _ _ _ (Ap _ z4) hf ⟨_,_,Ap _ T⟩ (n1.at fun o e=>Ap _ e) (u.at fun o e=>Ap _ e) t4
   fun c o p P R c4 e=>Ap _ (i.extBut _ _ c4 (f.extBut _ _ R (q.extBut _ _ p e)))
theorem z_end{z TI TO u v O P:Ag}{k1 C:Nat}{xs ys:Array Ai}{Z:Ai}{G:Bool}{Q:Km->Aq->Prop}(hh:A.handled=none)(D:Fg z TI TO u v O P)(hz:IsZ s.heap z TI TO Z (.bool G))(hf:rM Z)(R:DK s.heap TI (.ref u) (.ref v))(m:∃a b,DK s.heap TO a b)(H:s.heap.IsListIter u O k1)(h2:s.heap.IsListIter v P C)(f:s.heap.IsList O xs)(B:s.heap.IsList P ys)(j:xs[k1]? = none\/ys[C]? = none)(I:∀h' e,(∀c o,c≠z->c≠TO->c≠u->c≠v->s.heap.get? c=some o->h'.get? c=some o)->(∃o,h'.get? e=some o/\o.cls=.type "StopIteration")->E (.ref e) { s with heap:=h' }):
  wpAny (model prog w) A (Builtin.«zip.__next__» ⟨[.ref z],[]⟩) Q E s:=by
 obtain⟨a,b,m⟩:=m;show wpAny _ _ (field (.ref z) 2 >>= _) _ _ _;refine Af (Cy hz rfl (x:=.bool false) rfl ?_);show wpAny _ _ (field (.ref z) 3 >>= _) _ _ _;refine Af (Cy hz rfl (x:=.ref TI) rfl ?_);refine Af (C6 R rfl ?_);show wpAny _ _ (Cp (.ref z) >>= _) _ _ _;refine Af (adh hz hf ?_ fun g hg l => ?_)
 ·simp only[G5]
  refine Af (Fx (Af (Cy hz rfl (x:=.ref TO) rfl (Af (CH hz (by simp) fun g1 J e1 => ?_)))))
  replace J:IsZ g1 z TI TO .ellipsis (.bool G):=J
  refine Af ?_;simp only[Fy,J7,EH,Er];refine Af (Af (GI ?_));show wpAny _ _ (Bg (.ref u) >>= _) _ _ _;cases hx:xs[k1]? with
  | none =>
   refine Af (Ee hh (H.extBut e1.extBut D.i1z) (f.extBut e1.extBut D.l1z) hx fun y e d he => ?_);obtain⟨S,n,ce⟩:=he;have z2:IsZ y z TI TO .ellipsis (.bool G):=d _ _ D.i1z.symm J;have T:e≠z:=fun q=>by subst q;rw[z2] at n;cases n;simp at ce
   exact CH z2 (by simp) fun g3 _ p=>I g3 e (fun c o i _ r _ q=>p.extBut _ _ i (d _ _ r (e1.extBut _ _ i q))) ⟨S,p.extBut _ _ T n,ce⟩
  | some x =>
   have W:ys[C]? = none:=by
    rcases j with q|q
    ·rw[hx] at q;cases q
    ·exact q
   refine Af (C7 (H.extBut e1.extBut D.i1z) (f.extBut e1.extBut D.l1z) hx fun y X d=>A2 ?_);have o2:DK y TO a b:=d.extBut _ _ D.TOi1 (e1.extBut _ _ D.TOz m);refine Af (C6 o2 rfl (Af (F9 o2 fun g3 o3 p => ?_)));refine Af (GA (A2 (Af (Af (GI ?_)))));show wpAny _ _ (Bg (.ref v) >>= _) _ _ _;refine Af (Ee hh (((h2.extBut e1.extBut D.i2z).extBut d.extBut D.i12.symm).extBut p.extBut D.TOi2.symm) (((B.extBut e1.extBut D.l2z).extBut d.extBut D.l2i1).extBut p.extBut D.l2TO) W fun Y e M he => ?_);obtain⟨S,n,ce⟩:=he;have z4:IsZ Y z TI TO .ellipsis (.bool G):=M _ _ D.i2z.symm (p.extBut _ _ D.TOz.symm (d.extBut _ _ D.i1z.symm J));have T:e≠z:=fun q=>by subst q;rw[z4] at n;cases n;simp at ce
   exact CH z4 (by simp) fun g5 _ e5=>I g5 e (fun c o i c2 r c4 q=>e5.extBut _ _ i (M _ _ c4 (p.extBut _ _ c2 (d.extBut _ _ r (e1.extBut _ _ i q))))) ⟨S,e5.extBut _ _ T n,ce⟩
 ·simp only[Ct,Eo]
  refine Af ?_;rw[<- Gu];simp only[EH,Er];refine Af (Af (C0 ?_));show wpAny _ _ (Bg (.ref u) >>= _) _ _ _;cases hx:xs[k1]? with
  | none =>
   exact Af (Ee hh (H.extBut l.extBut D.i1z) (f.extBut l.extBut D.l1z) hx fun y e d he=>I y e (fun c o i _ r _ q=>d _ _ r (l.extBut _ _ i q)) he)
  | some x =>
   have W:ys[C]? = none:=by
    rcases j with q|q
    ·rw[hx] at q;cases q
    ·exact q
   refine Af (C7 (H.extBut l.extBut D.i1z) (f.extBut l.extBut D.l1z) hx fun y X d=>A2 (A2 ?_));refine Af (Af (C0 ?_));show wpAny _ _ (Bg (.ref v) >>= _) _ _ _;exact Af (Ee hh ((h2.extBut l.extBut D.i2z).extBut d.extBut D.i12.symm) ((B.extBut l.extBut D.l2z).extBut d.extBut D.l2i1) W fun Y e M he=>I Y e (fun c o i c2 r c4 q=>M _ _ c4 (d.extBut _ _ r (l.extBut _ _ i q))) he)
theorem afE{z TI TO d e g i:Ag}{k1 j:Nat}{xs ys:Array Ai}{x y q:Ai}{u:Bool}{Q:Option Ai->Aq->Prop}(D:Fg z TI TO d e g i)(hz:IsZ s.heap z TI TO q (.bool u))(hf:rM q)(l:DK s.heap TI (.ref d) (.ref e))(m:∃a b,DK s.heap TO a b)(v:s.heap.IsListIter d g k1)(B:s.heap.IsListIter e i j)(n:s.heap.IsList g xs)(p:s.heap.IsList i ys)(C:xs[k1]? = some x)(G:ys[j]? = some y)(H:∀h' f I,IsZ h' z TI TO f (.bool I)->rM f->(∃a b,DK h' TO a b)->h'.IsListIter d g (k1+1)->h'.IsListIter e i (j+1)->DK h' s.heap.objs.size x y ->
   (∀c o,c≠z->c≠TO->c≠d->c≠e->s.heap.get? c=some o->h'.get? c=some o)->Q (some (.ref s.heap.objs.size)) { s with heap:=h' }):
  wpAny (model prog w) A (pyNext (.ref z)) Q E s:=by
 have r:s.TypeIs (.ref z) "zip" := ⟨_,hz,rfl⟩;unfold pyNext;exact Af (GJ (wpAny_callSpecial?_slot (name:=BR "__next__") r FQ
  (Du FQ r Jr (ahk D hz hf l m v B n p C G fun h' a b J M O c4 P R S=>A2 (H h' a b J M O c4 P R S)) (IW _))))
theorem afC{z TI TO f g i j:Ag}{k1 q:Nat}{xs ys:Array Ai}{r:Ai}{v:Bool}{Q:Option Ai->Aq->Prop}(hh:A.handled=none)(D:Fg z TI TO f g i j)(hz:IsZ s.heap z TI TO r (.bool v))(hf:rM r)(l:DK s.heap TI (.ref f) (.ref g))(m:∃a b,DK s.heap TO a b)(y:s.heap.IsListIter f i k1)(B:s.heap.IsListIter g j q)(n:s.heap.IsList i xs)(p:s.heap.IsList j ys)(d:xs[k1]? = none\/ys[q]? = none)(C:∀h',(∀c o,c≠z->c≠TO->c≠f->c≠g->s.heap.get? c=some o->h'.get? c=some o)->Q none { s with heap:=h' }):wpAny (model prog w) A (pyNext (.ref z)) Q E s:=by
 have u:s.TypeIs (.ref z) "zip" := ⟨_,hz,rfl⟩;unfold pyNext;refine Af (GJ (wpAny_callSpecial?_slot (name:=BR "__next__") u FQ
  (Du FQ u Jr (z_end hh D hz hf l m y B n p d fun h' e G he => ?_) (IW _))))
 obtain⟨o,H,I⟩:=he;exact Af (GW (T := "StopIteration") (b:=true) ⟨o,H,I⟩ JQ (A2 (C _ G)))
theorem aa1{z TI TO:Ag}{b c:Ai}{Q:Ai->Aq->Prop}(hz:IsZ s.heap z TI TO b c)(h:Q (.ref z) s):wpAny (model prog w) A (pyIter (.ref z)) Q E s:=by
 have a:s.TypeIs (.ref z) "zip" := ⟨_,hz,rfl⟩;refine wpAny_pyIter_slot a J8 (Du J8 a F.entry_zip_iter ?_ (F.args_zip_iter_1 _));show wpAny _ _ (ret (.ref z)) _ _ s;exact A2 ⟨_,rfl,"zip",_,a,F.slot_zip_next.lookup,h⟩
end
structure ZSt(h:B1)(z TI TO i1 i2 a b:Ag)(i:Nat):Prop where
 hz:∃f0 b1,IsZ h z TI TO f0 (.bool b1)/\rM f0
 ti:DK h TI (.ref i1) (.ref i2)
 to:∃x y,DK h TO x y
 h1:h.IsListIter i1 a i
 h2:h.IsListIter i2 b i
theorem ZSt.keep{h h':B1}{z TI TO d e a b:Ag}{i:Nat}(S:ZSt h z TI TO d e a b i)(k:∀c∈[z,TI,TO,d,e],∀o,h.get? c=some o->h'.get? c=some o):ZSt h' z TI TO d e a b i:=by
 obtain⟨⟨j,l,hz,hf⟩,f,⟨x,y,g⟩,m,n⟩:=S;exact⟨⟨j,l,k z (by simp) _ hz,hf⟩,k TI (by simp) _ f,⟨x,y,k TO (by simp) _ g⟩,m.at fun o q=>k d (by simp) o q,n.at fun o q=>k e (by simp) o q⟩
theorem ZSt.lt{h:B1}{z TI TO d e a b:Ag}{i:Nat}(S:ZSt h z TI TO d e a b i):∀c∈[z,TI,TO,d,e],c<h.objs.size:=by
 obtain⟨⟨n,o,hz,hf⟩,f,⟨x,y,g⟩,⟨_,e1,_⟩,⟨_,j,_⟩⟩:=S;intro c l;have m:c=z\/c=TI\/c=TO\/c=d\/c=e:=by simpa using l
 rcases m with q|q|q|q|q
 ·rw[q];exact AF hz
 ·rw[q];exact AF f
 ·rw[q];exact AF g
 ·rw[q];exact AF e1
 ·rw[q];exact AF j
section
variable{X:Cx}{pins:List (Ag×D5)}{σ:L2.St}{H:Hp}{s:Aq}{A:B7}{E:Ai->Aq->Prop}
theorem adI{z TI TO e f a b:Ag}{i:Nat}{xs ys:List V}{x y:V}{Q:Option Ai->Aq->Prop}(D:Fg z TI TO e f a b)(I:Inv X pins σ H s)(hf:∀c∈[z,TI,TO,e,f],oU X pins H c)(S:ZSt s.heap z TI TO e f a b i)(l:SqL X.K H a xs)(m:SqL X.K H b ys)(Z:xs[i]? = some x)(hy:ys[i]? = some y)(hQ:∀h',Inv X pins σ (upd H s.heap.objs.size (.tup [x,y])) { s with heap:=h' }->H s.heap.objs.size=AK->ZSt h' z TI TO e f a b (i+1)->(∀c∈[z,TI,TO,e,f],(upd H s.heap.objs.size (.tup [x,y])) c=AK)->Q (some (.ref s.heap.objs.size)) { s with heap:=h' }):
  wpAny (model X.prog X.w) A (pyNext (.ref z)) Q E s:=by
 have lt:=S.lt;obtain⟨⟨f0,b1,hz,n⟩,g,r,h1,h2⟩:=S;obtain⟨a0,rv,p,_⟩:=I.list l;obtain⟨R,v,p2,_⟩:=I.list m;obtain⟨u,hu,ru⟩:=rv.get Z;obtain⟨T,B,C⟩:=v.get hy;refine afE D hz n g r h1 h2 p.isList p2.isList (x:=u) (y:=T) (by simpa using hu) (by simpa using B) fun h' G b' z' o' J M O hT W => ?_;have P:cf X.prog X.w (upd H s.heap.objs.size (.tup [x,y])) h' s.heap.objs.size (.tup [x,y]) :=
  ⟨by show 2<=sizeLine;decide,[u,T],.cons ru (.cons C .nil),⟨_,hT,rfl,_,rfl⟩⟩
 have I1:Inv X pins σ (upd H s.heap.objs.size (.tup [x,y])) { s with heap:=h' } :=
  I.nE (t':=s.toks) (ch := [z,TI,TO,e,f]) (fun c o j q=>W c o (fun d=>j (by simp[d])) (fun d=>j (by simp[d])) (fun d=>j (by simp[d])) (fun d=>j (by simp[d])) q) hf (Ak _) P
 refine hQ h' I1 (I.hok.fresh (Ak _)) ⟨⟨G,b',z',o'⟩,W _ _ D.TIz D.TITO D.TIi1 D.TIi2 g,J,M,O⟩ fun c Y => ?_;rw[aw (Bj (lt c Y))];exact(hf c Y).1
theorem acS{z TI TO f g a b:Ag}{i:Nat}{xs ys:List V}{Q:Option Ai->Aq->Prop}(hh:A.handled=none)(D:Fg z TI TO f g a b)(I:Inv X pins σ H s)(hf:∀c∈[z,TI,TO,f,g],oU X pins H c)(S:ZSt s.heap z TI TO f g a b i)(l:SqL X.K H a xs)(m:SqL X.K H b ys)(he:xs.length<=i\/ys.length<=i)(C:∀h',Inv X pins σ H { s with heap:=h' }->Q AK { s with heap:=h' }):wpAny (model X.prog X.w) A (pyNext (.ref z)) Q E s:=by
 obtain⟨⟨R,T,hz,n⟩,r,u,G,J⟩:=S;obtain⟨v,M,p,_⟩:=I.list l;obtain⟨e,y,O,_⟩:=I.list m;have W:=M.length;have Y:=y.length;have B:v.toArray[i]? = none\/e.toArray[i]? = none:=by
  rcases he with q|q
  ·exact .inl (by simp;omega)
  ·exact .inr (by simp;omega)
 exact afC hh D hz n r u G J p.isList O.isList B fun h' P=>C h' (I.aap (t':=s.toks) (ch := [z,TI,TO,f,g]) (fun c o j q =>
  P c o (fun d=>j (by simp[d])) (fun d=>j (by simp[d])) (fun d=>j (by simp[d])) (fun d=>j (by simp[d])) q) hf)
end
theorem yi{P:AI}{w:AZ}{K:Lf}{x:AW}{f:Pos}{a b z TI TO j m:Ag}(D:Fg z TI TO j m a b):
  Turn P w K (.Name x f) (Itz K a b) [z,TI,TO,j,m] z (fun i h=>ZSt h z TI TO j m a b i) where
 mem:=by simp
 obj:=fun i h st c n=>by
  obtain⟨⟨R,S,hz,_⟩,o,⟨x,y,p⟩,⟨T,e1,_,W⟩,⟨Y,Z,_,d2⟩⟩:=st;have e':c=z\/c=TI\/c=TO\/c=j\/c=m:=by simpa using n
  rcases e' with q|q|q|q|q
  ·rw[q];exact⟨_,hz,fun v q=>nomatch q⟩
  ·rw[q];exact⟨_,o,fun v q=>nomatch q⟩
  ·rw[q];exact⟨_,p,fun v q=>nomatch q⟩
  ·rw[q];exact⟨T,e1,fun v q=>by rw[W] at q;cases q⟩
  ·rw[q];exact⟨Y,Z,fun v q=>by rw[d2] at q;cases q⟩
 keep:=fun i h h' st k=>st.keep k
 item:=by
  intro X r u B n i pins s σ H E I hf st C;subst r u B;obtain⟨xs,ys,x,y,d,e,M,O⟩:=C;refine adI D I hf st d e M O fun h' I1 fr G no=>⟨_,rfl,?_⟩;refine A2 ⟨.ref s.heap.objs.size,_,I1,rfl,⟨_,x,y,rfl,fr,rfl,fun l J => ?_,fun l J => ?_⟩,G,no⟩
  ·rw[I.jF J d];exact M
  ·rw[I.jF J e];exact O
 done:=by
  intro X r u B n i pins s σ H E I hf st C;subst r u B;obtain⟨xs,ys,d,e,g⟩:=C;exact acS (I.ok.hd n) D I hf st d e g fun h' I'=>⟨rfl,I'⟩
 self:=fun A i s Q E st h=>by
  obtain⟨R,S,hz,_⟩:=st.hz;exact aa1 hz h
section
variable{X:Cx}
theorem agV{e f:B9}{E:TA}{p pos:Pos}(O:Gl X "zip")(P:X.mg "zip" = none)(S:PA X [e,f] E){pins:List (Ag×D5)}{s:Aq}{σ:L2.St}{H:Hp}(I:Inv X pins σ H s){R:Ag->Ag->List V->List V->Hp->Prop}(h:E σ H fun vs H1=>∃a b xs ys,vs=[.ref a,.ref b]/\SqL X.K H1 a xs/\SqL X.K H1 b ys/\R a b xs ys H1){Q:Ai->Aq->Prop}(T:∀d z TI TO n o a b xs ys H1,Fg z TI TO n o a b->ZSt d.heap z TI TO n o a b 0->Inv X pins σ H1 d->(∀c∈[z,TI,TO,n,o],oU X pins H1 c)->SqL X.K H1 a xs->SqL X.K H1 b ys->R a b xs ys H1->Q (.ref z) d)(Y:starEach [e,f] X.env=(false,eval e X.env)::starEach [f] X.env:=by rfl)(u:(backTo pos (starEach [f] X.env)).any (·.1)=false:=by rfl):
  wpAny (model X.prog X.w) X.A (eval (.Call (.Name "zip" p) [e,f] [] pos) X.env) Q X.xe s:=by
 refine K7 (gw I O P aa2 (BA (thn (S pos pins s σ H _ I h) fun us d ⟨vs,H1,g,Z,q1⟩ => ?_) Y u));obtain⟨a,b,xs,ys,ex,i,j,q⟩:=q1;subst ex;cases Z with
 | cons r v =>
  cases v with
  | cons r' v =>
   cases v
   cases r
   cases r'
   obtain⟨a0,rv,G,_⟩:=g.list i;obtain⟨J,a3,M,_⟩:=g.list j;have la:a<d.heap.objs.size:=G.lt;have lb:b<d.heap.objs.size:=M.lt;refine call_zip_2 G.isList M.isList fun h' hz y B h1 h2 hsz hk => ?_;have I2:Inv X pins σ H1 { d with heap:=h' }:=g.kept (t':=d.toks) hk;refine T _ (d.heap.objs.size+4) (d.heap.objs.size+2) (d.heap.objs.size+3) d.heap.objs.size (d.heap.objs.size+1) a b xs ys H1 (PySem.W.ktu_apart d.heap.objs.size a b la lb) ⟨⟨_,_,hz,.inl rfl⟩,y,⟨_,_,B⟩,h1,h2⟩ I2 (fun c C => ?_) i j q;have e':c=d.heap.objs.size+4\/c=d.heap.objs.size+2\/c=d.heap.objs.size+3\/c=d.heap.objs.size\/c=d.heap.objs.size+1:=by simpa using C
   have l:d.heap.objs.size<=c:=by
    rcases e' with m|m|m|m|m <;> rw[m] <;> first|exact Ak _|exact Ft _ _
   exact(g.abo l (g.hok.fresh l))
theorem adQ{e c:B9}{g:TA}{p pos d:Pos}{x:AW}(i:Gl X "zip")(j:X.mg "zip" = none)(l:PA X [e,c] g)(m:starEach [e,c] X.env=(false,eval e X.env)::starEach [c] X.env:=by rfl)(f:(backTo pos (starEach [c] X.env)).any (·.1)=false:=by rfl):
  PI X (.Name x d) (.Call (.Name "zip" p) [e,c] [] pos) (ajv X.K g):=by
 intro pins s σ H R I h;refine agV i j l I (R:=fun a b xs ys H1=>R (Itz X.K a b) H1) h (fun w z TI TO n o a b xs ys H1 D st r hf u v q => ?_) m f;obtain⟨y,A,hz,_⟩:=st.hz;exact aa1 hz ⟨z,[z,TI,TO,n,o],_,_,H1,rfl,r,yi D,st,hf,q⟩
theorem wV:typeLookup (.type "zip") "__len__" = pure Option.none:=by rw[J9,HA];kernel_rfl
theorem uC:typeLookup (.type "zip") "__length_hint__" = pure Option.none:=by rw[J9,HA];kernel_rfl
theorem aav{P:AI}{w:AZ}{z TI TO J M a b l:Ag}{pins:List (Ag×D5)}{σ:L2.St}{xs ys:List V}{A:B7}{R:JH->Aq->Prop}{H1:Hp}(hP:X.prog=P)(hw:X.w=w)(hh:A.handled=none)(D:Fg z TI TO J M a b)(T:H1 a=some (.lst xs))(hB:H1 b=some (.lst ys))(hl:xs.length=ys.length)(W:H1 l=AK)(r:l ∉ [z,TI,TO,J,M]):
  ∀(k i:Nat)(s:Aq)(H:Hp)(d:List Ag),xs.length-i=k->i<=xs.length->Inv X pins σ H s->(∀c∈[z,TI,TO,J,M],oU X pins H c)->ZSt s.heap z TI TO J M a b i->aM H1 H ->
   H l=some (.lst (d.map V.ref))->d.length=i->(∀(j:Nat)(t:Ag)(x y:V),d[j]? = some t->xs[j]? = some x->ys[j]? = some y->H t=some (.tup [x,y])) ->
   (∀(s':Aq)(O:Hp)(g:List Ag),Inv X pins σ O s'->aM H1 O->O l=some (.lst (g.map V.ref))->g.length=xs.length->(∀(j:Nat)(t:Ag)(x y:V),g[j]? = some t->xs[j]? = some x->ys[j]? = some y->O t=some (.tup [x,y]))->R (.ok (.ret .none)) s') ->
   codeAny (model P w) A (.builtin "list.extend.loop" ⟨[.ref l,.ref z,.none],[]⟩) R s:=by
 subst hP hw;intro k
 induction k with
 | zero =>
  intro i s H d hk hi I hf st sm u S m Y;refine DB HZ ?_;rw[DG E9 _];show wpAny _ A.in1 (pyNext (.ref z) >>= _) _ _ s;refine Af (acS hh D I hf st (SqL.of (sm _ _ T)) (SqL.of (sm _ _ hB)) (.inl (by omega)) fun h' I'=>A2 ?_);exact Y _ H d I' sm u (by omega) m
 | succ k ih =>
  intro i s H d hk hi I hf st sm u S m Y;have v:i<xs.length:=by omega
  refine DB HZ ?_;rw[DG E9 _];show wpAny _ A.in1 (pyNext (.ref z) >>= _) _ _ s;refine Af (adI D I hf st (SqL.of (sm _ _ T)) (SqL.of (sm _ _ hB)) (Aa v) (Aa (by omega)) fun h' I1 fr Z no => ?_);have a0:l≠s.heap.objs.size:=fun e=>by rw[e,fr] at u;cases u
  have p:(upd H s.heap.objs.size (.tup [xs[i],ys[i]])) l=some (.lst (d.map V.ref)):=by rw[aw a0];exact u
  obtain⟨z1,B,n,rv,le,ge⟩:=I1.aeB p;have f:B.length=i:=by rw[<- le,Ab,S]
  have zx:xs.length<=sizeLine:=by obtain⟨_,_,_,q⟩:=I.list (SqL.of (sm _ _ T));exact q
  show wpAny _ A.in1 (updateSeq l (·.push (Bo s.heap.objs.size)) >>= _) _ _ _;refine Af ?_;have I2:Inv X pins σ (upd (upd H s.heap.objs.size (.tup [xs[i],ys[i]])) l (.lst ((d++[s.heap.objs.size]).map V.ref))) { s with heap:=h'.update l (BD (·.push (Bo s.heap.objs.size))) } :=
   I1.ahM (t':=s.toks) (its':=B++[Bo s.heap.objs.size]) p ge (by simp) (by
    rw[Ay];exact Vals.append rv (.cons rfl .nil)) (by rw[Ab,Al,S];simp;omega)
  refine FR ge rfl (A2 ⟨F4 E9 _,?_⟩) (by rw[A9,f];omega) (by rw[JA,A9,f];omega);have C:aM H (upd H s.heap.objs.size (.tup [xs[i],ys[i]])):=ak fr;have a3:aM H1 (upd H s.heap.objs.size (.tup [xs[i],ys[i]])):=fun c o e=>C _ _ (sm _ _ e);have nl:∀{c:Ag}{q:List V},(upd H s.heap.objs.size (.tup [xs[i],ys[i]])) c=some (.tup q)->c≠l:=fun e=>tS e p (fun q=>nomatch q);refine ih (i+1) _ _ (d++[s.heap.objs.size]) (by omega) (by omega) I2 (fun c E => ?_) (Z.keep fun c E o q => ?_) (aI a3 W) ag (by rw[Al,S];rfl) (fun j t x y G ex ey => ?_) Y
  ·have cl:c≠l:=fun e=>r (e▸E)
   exact⟨by rw[aw cl];exact no c E,(hf c E).2⟩
  ·have cl:l≠c:=fun e=>r (e.symm▸E)
   exact(Dc _ _ cl).trans q
  ·by_cases hj:j<d.length
   ·rw[A1 hj] at G
    have q:=C _ _ (m j t x y G ex ey);rw[aw (nl q)];exact q
   ·have a4:j=d.length:=by
     have:=(Aj.mp G).1;rw[Al] at this;simp at this;omega
    rw[a4,Aw (Ak _),BE] at G;have et:s.heap.objs.size=t:=Ah G;have ji:j=i:=by omega
    subst ji;rw[Aa v] at ex;rw[Aa (by omega)] at ey;obtain rfl:=Ah ex;obtain rfl:=Ah ey;have q:(upd H s.heap.objs.size (.tup [xs[j],ys[j]])) t=some (.tup [xs[j],ys[j]]):=by rw[<- et];exact ag
    rw[aw (nl q)];exact q
def LZ(a b:Ag)(xs ys:List V)(H1:Hp)(Q:VK):Prop:=H1 a=some (.lst xs)/\H1 b=some (.lst ys)/\xs.length=ys.length /\
 ∀(l:Ag)(c:Hp)(d:List Ag),H1 l=AK->aM H1 c->c l=some (.lst (d.map V.ref))->d.length=xs.length->(∀(j:Nat)(t:Ag)(x y:V),d[j]? = some t->xs[j]? = some x->ys[j]? = some y->c t=some (.tup [x,y]))->Q (.ref l) c
def tLZ(K:Lf)(c:TA):TE:=fun σ H Q=>c σ H fun vs H1=>∃a b xs ys,vs=[.ref a,.ref b]/\SqL K H1 a xs/\SqL K H1 b ys/\LZ a b xs ys H1 Q
theorem t6{z TI TO i l a b:Ag}{pins:List (Ag×D5)}{σ:L2.St}{xs ys:List V}{H1:Hp}{s:Aq}{Q:VK}(hh:X.A.handled=none)(D:Fg z TI TO i l a b)(st:ZSt s.heap z TI TO i l a b 0)(I:Inv X pins σ H1 s)(hf:∀c∈[z,TI,TO,i,l],oU X pins H1 c)(q:LZ a b xs ys H1 Q):wpAny (model X.prog X.w) X.A (call (.type "list") [.ref z]) (EP X pins σ Q) X.xe s:=by
 have lt:=st.lt;have p:s.heap.objs.size ∉ [z,TI,TO,i,l]:=fun J=>Cd _ (lt _ J);have f:H1 s.heap.objs.size=Option.none:=I.hok.fresh (Ak _);obtain⟨M,O,P,r⟩:=q;refine JR (Q₁:=fun g B=>g=.ref s.heap.objs.size/\B={ s with heap:=s.heap.push { cls:=.type "list",data:=.seq #[] } }) F.called_list (F.typeCall_list_1 _) F.entry_list_init (code_list_new _ ⟨rfl,rfl⟩) fun g B R => ?_;obtain⟨rfl,rfl⟩:=R;have m:(s.heap.push { cls:=.type "list",data:=.seq #[] }).get? s.heap.objs.size=some { cls:=.type "list",data:=.seq #[] }:=AH _ rfl;refine⟨⟨_,m,rfl⟩,F.args_list_init_2 _ _,?_⟩;show wpAny _ _ (do let u <- Hl (.ref s.heap.objs.size);Builtin.List.listUpdate (.ref s.heap.objs.size) (fun _ => #[]);letGo u.toList.reverse;Dj (.ref s.heap.objs.size) (.ref z) .none) _ _ _;refine Af ?_;unfold Hl;refine Af (C6 m rfl (A2 ?_));show wpAny _ _ (updateSeq s.heap.objs.size (fun _ => #[]) >>= fun _=>letGo (#[]:Array Ai).toList.reverse >>= fun _=>Dj (.ref s.heap.objs.size) (.ref z) .none) _ _ _;refine Af (FR m rfl ?_);have C:=Ef (BD (fun _=>(#[]:Array Ai))) m rfl;refine Af (GA ?_);obtain⟨f0,b1,hz,S⟩:=st.hz;have d:∀c o,s.heap.get? c=some o->((s.heap.push { cls:=.type "list",data:=.seq #[] }).update s.heap.objs.size (BD (fun _=>(#[]:Array Ai)))).get? c=some o:=fun c o e =>
  (Dc _ _ (CJ (AF e))).trans (Ap _ e)
 unfold Dj;refine Af (IX (T := "zip") ⟨_,d _ _ hz,rfl⟩ ?_);have W:GK (.ref s.heap.objs.size) (.ref z)=false:=by
  have:s.heap.objs.size≠z:=CJ (AF hz);simp[GK,this]
 have Y:(Dx "zip" == Dx "list")=false:=by decide
 have Z:(Dx "zip" == Dx "tuple")=false:=by decide
 simp only[W,Y,Z,Ii,Ct,Eo];refine Af (aa1 (d _ _ hz) (Af (C0 ?_)));unfold Builtin.List.listLengthHint;refine Af (JB (T := "zip") ⟨_,d _ _ hz,rfl⟩ wV ?_);show wpAny _ _ (specialOf (Bo z) (BR "__length_hint__") >>= _) _ _ _;refine Af (JB (T := "zip") ⟨_,d _ _ hz,rfl⟩ uC (A2 ?_));show wpAny _ _ (rule "list.extend.makes-room" >>= fun _=>Builtin.List.listTouch (.ref s.heap.objs.size) >>= fun _=>again (.builtin "list.extend.loop" ⟨[.ref s.heap.objs.size,.ref z,.none],[]⟩)) _ _ _;refine Af (Fx (Af ?_));show wpAny _ _ (updateSeq s.heap.objs.size (·.push .none) >>= fun _=>updateSeq s.heap.objs.size (·.pop)) _ _ _;refine Af (FR C rfl ?_);have E:=Ef (BD (·.push DJ)) C rfl;refine FR (hz:=by seq_fits) E rfl ?_;have g4:=Ef (BD (·.pop)) E rfl;have G:∀c o,s.heap.get? c=some o->((((s.heap.push { cls:=.type "list",data:=.seq #[] }).update s.heap.objs.size (BD (fun _=>(#[]:Array Ai)))).update s.heap.objs.size (BD (·.push DJ))).update s.heap.objs.size (BD (·.pop))).get? c=some o:=fun c o e =>
  (Dc _ _ (CJ (AF e))).trans ((Dc _ _ (CJ (AF e))).trans (d c o e))
 have I3:=I.laid (t':=s.toks) (o:=.lst []) G (Ak _) ⟨AN _,[],_,.nil,g4⟩;refine A2 ⟨F4 E9 _,aav (A:=X.A.in1) (xs:=xs) (ys:=ys) (H1:=H1) rfl rfl hh D M O P f p xs.length 0 _ _ [] (DU _) (AN _) I3 (fun c n => ?_) (st.keep fun c n o e=>G c o e) (ak f) ag rfl (fun j t x y e=>by simp at e) ?_⟩
 ·refine⟨by rw[aw (Bj (lt c n))];exact(hf c n).1,(hf c n).2⟩
 ·intro s' H ts I' sm hL ht v
  exact⟨rfl,.ref s.heap.objs.size,H,I',rfl,r _ H ts f sm hL ht v⟩
theorem xE{e d:B9}{n:TA}{p pos i c:Pos}(f:X.calm=true)(r:Gl X "list")(u:X.mg "list" = none)(j:Gl X "zip")(l:X.mg "zip" = none)(v:PA X [e,d] n)(w:starEach [e,d] X.env=(false,eval e X.env)::starEach [d] X.env:=by rfl)(m:(backTo c (starEach [d] X.env)).any (·.1)=false:=by rfl)(g:starEach [.Call (.Name "zip" i) [e,d] [] c] X.env=(false,eval (.Call (.Name "zip" i) [e,d] [] c) X.env)::starEach [] X.env:=by rfl):
  PE X (.Call (.Name "list" p) [.Call (.Name "zip" i) [e,d] [] c] [] pos) (tLZ X.K n):=by
 intro pins s σ H Q I h;refine Cs (gw I r u (show bootBuiltins "list" = some (.type "list") by decide +kernel) (BA ?_ g rfl));rw[g];show wpAny _ _ (spliced ((false,eval (.Call (.Name "zip" i) [e,d] [] c) X.env)::backTo pos (starEach [] X.env))) _ _ s;refine Gm (agV j l v I (R:=fun a b xs ys H1=>LZ a b xs ys H1 Q) h (fun B z TI TO C E a b xs ys H1 D st o hf y A q => ?_) w m);exact G4 (t6 (o.ok.hd f) D st o hf q)
end
noncomputable def lx(le:Bool):List Int->List Int->Bool
 | [],[]=>le
 | [],_::_=>true
 | _::_,[]=>false
 | a::r,b::t=>if a=b then lx le r t else decide (a<b)
section
variable{prog:AI}{w:AZ}{A:B7}{E:Ai->Aq->Prop}{s:Aq}
theorem p9{x y:List Int}{a b:Ag}{P:Km->Aq->Prop}(hx:Hm (intKind prog w) s.heap x a)(X:Hm (intKind prog w) s.heap y b)(h:P (.done (.ret (.bool (lx true x y)))) s):
  wpAny (model prog w) A (Builtin.«tuple.__le__» ⟨[.ref a,.ref b],[]⟩) P E s:=by
 have p:=X.typeIs;obtain⟨oa,us,na,z,_,B,C⟩:=hx;obtain⟨ob,ws,nb,G,_,H,I⟩:=X;show wpAny _ _ (isInstance (.ref b) (.type "tuple") >>= _) _ _ s;refine Af (GW p isSubtype_tuple_tuple ?_);simp only[Ij,Ct,Eo];refine Af (ID z B ?_);refine Af (ID G H ?_);refine Af ?_;refine wpAny_forIn_list _
  (fun Y r f=>r.1=none/\f=s/\∃i j c d,Y=List.zip c d/\ItemsAre (intKind prog w) i c/\ItemsAre (intKind prog w) j d/\lx true i j=lx true x y/\(decide (c.length<=d.length))=(decide (us.size<=ws.size)))
  _ ?_ ?_ _ _ ⟨rfl,rfl,x,y,us.toList,ws.toList,rfl,C,I,rfl,by simp⟩
 ·rintro⟨u,v⟩ Y r f ⟨J,rfl,i,j,c,d,g,M,l,m,O⟩
  cases M with
  | nil=>simp at g
  | @cons n ua xr R Z S =>
   cases l with
   | nil=>simp at g
   | @cons o va yr T m2 W =>
    simp only[Gr,List.cons.injEq,Prod.mk.injEq] at g;obtain⟨⟨rfl,rfl⟩,rfl⟩:=g;refine Af ((intKind prog w).eqBool (a:=n) (b:=o) Z m2 ?_)
    by_cases ceq:n=o
    ·subst ceq
     rw[AD rfl];simp only[Ij,Ct,Eo];refine A2 ⟨rfl,rfl,xr,yr,R,T,rfl,S,W,?_,by simpa using O⟩;rw[<- m];simp[lx]
    ·rw[AR ceq]
     simp only[JS,G5];have fq:lx true x y=decide (n<=o):=by
      rw[<- m];simp only[lx,Ar ceq];exact Ba.mpr ⟨fun q=>by omega,fun q=>by omega⟩
     rw[fq] at h;obtain⟨t1,rfl⟩:∃t,u=.int n t:=G0 Z;obtain⟨t2,rfl⟩:∃t,v=.int o t:=G0 m2;refine Af (Fx ?_);refine Af (richCompare_gives (op:=.LtE) (JI f _ t1) (JI f _ t2) F.slot_int_le F.entry_int_le (F.args_int_le_2 _ _) (gives_int_le _ _ t1 t2) (fun x=>nomatch x) ?_);exact Af (A2 (A2 (A2 h)))
 ·rintro⟨ra,rb⟩ f ⟨J,rfl,i,j,c,d,g,M,l,m,O⟩
  simp only at J;subst J;refine A2 ?_;have e:(decide (us.size<=ws.size))=lx true x y:=by
   rw[<- m,<- O];cases M with
   | nil =>
    cases l with
    | nil=>simp[lx]
    | cons _ _=>simp[lx]
   | cons _ _ =>
    cases l with
    | nil=>simp[lx]
    | cons _ _=>simp at g
  show P (.done (.ret (.bool (decide (us.size<=ws.size))))) f;rw[e];exact h
theorem agX{x y:List Int}{a b:Ag}{Q:Ai->Aq->Prop}(f:A.units<cLine)(c:Hm (intKind prog w) s.heap x a)(d:Hm (intKind prog w) s.heap y b)(h:Q (.bool (lx true x y)) s):
  wpAny (model prog w) A (richCompare .LtE (.ref a) (.ref b)) Q E s :=
 wpAny_richCompare_same_room (op:=.LtE) c.typeIs d.typeIs JC
  (Du JC c.typeIs F.entry_tuple_le (p9 c d ⟨_,rfl,(fun e=>nomatch e),h⟩) (F.args_tuple_le_2 _ _)) f
end
theorem oJ{prog:AI}{w:AZ}:∀{a:List Int}{us:List Ai},Vals (a.map V.int) us->ItemsAre (intKind prog w) a us
 | [],_,r=>by
  rw[EW] at r;cases r
  exact .nil
 | n::a,_,r=>by
  rw[AA] at r;cases r with
  | cons h t =>
   obtain⟨t',rfl⟩:=h;exact .cons (by show HC n (.int n t')=true;simp[HC]) (oJ t)
section
variable{X:Cx}
def ajT(K:Lf):R2:=fun x y H Q=>∃a b c d,x=.ref a/\y=.ref b/\SqT K H a (c.map V.int)/\SqT K H b (d.map V.int)/\Q (.bl (lx true c d)) H
theorem pS{pins:List (Ag×D5)}{σ:L2.St}{H:Hp}{s:Aq}(I:Inv X pins σ H s){a:Ag}{c:List Int}(h:SqT X.K H a (c.map V.int))(P:AI)(w:AZ):Hm (intKind P w) s.heap c a:=by
 obtain⟨b,d,e,_⟩:=I.tuple h;obtain⟨o,f,g,n,i⟩:=e;exact⟨o,b.toArray,n,f,g,i,oJ d⟩
theorem ahB(c:X.A.units<cLine):OpR X (compareOp .LtE) (ajT X.K):=by
 intro pins s σ H x y v u Q I d e h;obtain⟨a,b,f,g,rfl,rfl,i,j,q⟩:=h;cases d
 cases e
 show wpAny _ _ (richCompare .LtE (.ref a) (.ref b)) _ _ _;exact agX c (pS I i _ _) (pS I j _ _) ⟨.bl (lx true f g),H,I,rfl,q⟩
def ah8(K:Lf):R2:=fun x y H Q=>∃a p b R,x=.ref a/\y=.ref p/\SqT K H a (b.map V.int)/\Rows H p R/\Q (.bl (!decide (b∈R))) H
theorem zB(hu:X.A.units+64<cLine):OpR X (compareOp .NotIn) (ah8 X.K):=by
 intro pins s σ H x y v u Q I J M h;obtain⟨a,p,d,R,rfl,rfl,O,P,q⟩:=h;cases J
 cases M
 obtain⟨as,S,h2,C⟩:=P;obtain⟨T,W,pl,_⟩:=I.list (SqL.of (K:=X.K) S);have Y:=t7 W;subst Y;have e1:∀t:Ag,t∈as->∃(i:Nat)(r:List Int),as[i]? = some t/\R[i]? = some r/\H t=some (.tup (r.map V.int)):=fun t g=>by
  obtain⟨i,m,rfl⟩:=AQ.mp g;exact⟨i,_,Aa m,Aa (by omega),C i _ _ (Aa m) (Aa (by omega))⟩
 have j:∀{r n:List Int},r.map V.int=n.map V.int->r=n:=fun{r n} h=>by
  have:=B2 (KG fun v:V=>match v with|.int z=>z|_=>0) h
  simpa[Bd,Function.comp_def] using this
 refine SeqAt.notIn_listAt (fun v=>@decide (∃t:Ag,v=Bo t/\H t=some (.tup (d.map V.int))) (CT _)) pl.isList (fun y Z => ?_) ⟨.bl _,H,I,rfl,?_⟩
 ·have o:y∈as.map Value.ref:=by simpa using Z
  obtain⟨t,g,rfl⟩:=Ax.mp o;obtain⟨i,r,B,G,l⟩:=e1 t g;intro prog w E Q' hq;refine wpAny_eqBool_tuple (by show X.A.units+1<cLine;omega) (pS I (SqT.of l) prog w) (pS I O prog w) ?_;have ed:@decide (∃t':Ag,Bo t=Bo t'/\H t'=some (.tup (d.map V.int))) (CT _)=decide (r=d):=by
   by_cases c:r=d
   ·rw[AD c]
    exact @AD _ (CT _) ⟨t,rfl,c▸l⟩
   ·rw[AR c]
    refine @AR _ (CT _) fun⟨t',e,b⟩=>c ?_;injection e with e
    subst e;rw[l] at b;injection b with b
    injection b with b
    exact j b
  rw[<- ed];exact hq
 ·have B:((as.map Bo).toArray.any fun v=>@decide (∃t:Ag,v=Bo t/\H t=some (.tup (d.map V.int))) (CT _))=decide (d∈R):=by
   rw[B3];simp only[List.any_toArray,List.any_map,BM,A5,Function.comp]
   constructor
   ·rintro⟨t,g,t',e,f⟩
    injection e with e
    subst e;obtain⟨i,r,B,G,l⟩:=e1 t g;rw[l] at f;injection f with f
    injection f with f
    exact j f▸AE G
   ·intro hm
    obtain⟨i,m,e⟩:=AQ.mp hm;exact⟨as[i],AX _,as[i],rfl,e▸C i _ _ (Aa (by omega)) (Aa m)⟩
  rw[B];exact q
end
noncomputable def pK(e:Nat×Nat):List Key := [Cm (e.1:Int),Cm (e.2:Int)]
noncomputable def yC(a:List (List Key×V))(L:List (Nat×Nat)):List (List Key×V):=L.foldl (fun a e=>putK a (pK e) (.bl true)) a
theorem afV{e f:Nat×Nat}(h:pK e=pK f):e=f:=by
 unfold pK at h;injection h with h1 h2
 injection h2 with h2 _
 have a:=F5 h1;have b:=F5 h2;exact JM (by omega) (by omega)
theorem u9:∀(L:List (Nat×Nat))(b:List (List Key×V))(e:Nat×Nat),iV (yC b L) (pK e)=if e∈L then some (.bl true) else iV b (pK e)
 | [],b,e=>by simp[yC]
 | a::L,b,e=>by
  have:yC b (a::L)=yC (putK b (pK a) (.bl true)) L:=rfl;rw[this,u9 L,acn]
  by_cases h:e∈L
  ·rw[As h,As (Ac _ h)]
  ·rw[Ar h]
   by_cases h2:pK e=pK a
   ·rw[As h2,As (by rw[afV h2];exact Ad ..)]
   ·rw[Ar h2,Ar (fun z=>(Am.mp z).elim (fun y=>h2 (by rw[y])) h)]
theorem vo:∀(L:List (Nat×Nat))(b:List (List Key×V)),(yC b L).length<=b.length+L.length
 | [],b=>Ak _
 | a::L,b=>by
  have h:=vo L (putK b (pK a) (.bl true));have:=dW b (pK a) (.bl true);have e:yC b (a::L)=yC (putK b (pK a) (.bl true)) L:=rfl;rw[e,A7];omega
section
variable{X:Cx}{pins:List (Ag×D5)}{σ:L2.St}
theorem agi{H:Hp}{s:Aq}{a b:Ag}{d:List (List Key×V)}{k:List Key}{v:V}{r:Ai}{A:B7}{E:Ai->Aq->Prop}{Q:Unit->Aq->Prop}(S:A.units+2<cLine)(I:Inv X pins σ H s)(e:H a=some (.dT d))(m:H b=some (.tup (k.map kV)))(l:d.length<sizeLine)(u:RelV v r)(h:∀i,Inv X pins σ (upd H a (.dT (putK d k v))) i->Ez a s.heap i.heap->Q () i):wpAny (model X.prog X.w) A (dictSet a (.ref b) r) Q E s:=by
 obtain⟨z,y,xs,g,B⟩:=agN I.hok e;have hz:xs.length<=sizeLine:=by rw[<- F1 g];exact z
 have C:(putK d k v).length<=sizeLine:=by have:=dW d k v;omega
 have f:(tupleKind (bO X.prog X.w)).room A:=by
  show A.units<cLine;omega
 refine wpAny_dictSet_heap (hsz:=hz) f (rQ I.hok m) B fun h' j n=>h _ ?_ n;obtain⟨q,G,J,o,M,O,P,_,R⟩:=j;refine pI I (by rw[e];exact En) n ⟨q,o⟩ ⟨C,y,_,(g.put k m u).keeps fun c ys p => ?_,q,G,J,o,M,O,P,R⟩;rw[aw (tS p e (fun z=>nomatch z))];exact p
structure PT2(H:Hp)(l:Ag)(ps:List Ag)(L:List (Nat×Nat)):Prop where
 lst:H l=some (.lst (ps.map V.ref))
 len:ps.length=L.length
 at_:∀(j:Nat)(p:Ag)(e:Nat×Nat),ps[j]? = some p->L[j]? = some e->∃t,H p=some (.tup [.ref t,.bl true])/\H t=some (.tup [.int (e.1:Int),.int (e.2:Int)])
theorem PT2.same{H c:Hp}{l:Ag}{ps:List Ag}{L:List (Nat×Nat)}(h:PT2 H l ps L)(s:aM H c):PT2 c l ps L :=
 ⟨s _ _ h.lst,h.len,fun j p e e1 d=>let ⟨t,a,b⟩:=h.at_ j p e e1 d;⟨t,s _ _ a,s _ _ b⟩⟩
theorem aeX{P:AI}{w:AZ}{A:B7}{R:JH->Aq->Prop}{S I l:Ag}{ps:List Ag}{L:List (Nat×Nat)}{H1:Hp}(hP:X.prog=P)(hw:X.w=w)(hh:A.handled=none)(hu:A.units+3<cLine)(d:PT2 H1 l ps L)(B:H1 S=AK)(a7:l≠I)(f:S≠I)(hsz:L.length<sizeLine):
  ∀(k i:Nat)(p:Int)(t:KN)(s:Aq)(H:Hp),L.length-i=k->i<=L.length->Inv X pins σ H s->oU X pins H I->s.heap.IsListIter I l i->aM H1 H->H S=some (.dT (yC [] (L.take i))) ->
   (∀(s':Aq)(C:Hp),Inv X pins σ C s'->aM H1 C->C S=some (.dT (yC [] L))->R (.ok (.ret .none)) s') ->
   codeAny (model P w) A (.builtin "dict.update.loop" ⟨[.ref S,.ref I,.int p t,.none],[]⟩) R s:=by
 subst hP hw;intro k
 induction k with
 | zero =>
  intro i p t s H hk hi g hf a sm r E;have G:i=L.length:=by omega
  subst G;obtain⟨J,M,pl,_⟩:=g.list (SqL.of (K:=X.K) (sm _ _ d.lst));have hl:=M.length;rw[Ab,d.len] at hl;obtain⟨z,O,f2,W,Y,Z⟩:=hf;refine DB vM ?_;rw[DG jE _];show wpAny _ A.in1 (pyNext (.ref I) >>= _) _ _ s;refine Af (Hv (A:=A.in1) hh a pl.isList (by simp;omega) fun h' he => ?_);show wpAny _ A.in1 (Builtin.Dict.addKeywords S [] >>= _) _ _ _;refine Af (A2 (A2 ?_));rw[BG] at r;exact E _ H (g.turned (t':=s.toks) (fun b o hb q=>he b o hb q) z O W Y Z) sm r
 | succ k ih =>
  intro i p t s H hk hi g hf a sm r E;have c:i<L.length:=by omega
  have j:i<ps.length:=by rw[d.len];exact c
  obtain⟨J,M,pl,_⟩:=g.list (SqL.of (K:=X.K) (sm _ _ d.lst));have G:=t7 M;subst G;obtain⟨tt,hp,ht⟩:=d.at_ i _ _ (Aa j) (Aa c);have a0:=hf;obtain⟨z,O,f2,W,Y,Z⟩:=hf;refine DB vM ?_;rw[DG jE _];show wpAny _ A.in1 (pyNext (.ref I) >>= _) _ _ s;refine Af (Hd (x:=.ref ps[i]) a pl.isList (by simp[j]) fun h1 m a3 => ?_);have I1:Inv X pins σ H { s with heap:=h1 }:=g.turned (t':=s.toks) (fun b o hb q=>a3.extBut b o hb q) z O W Y Z;obtain⟨a6,a4,p2,_⟩:=I1.tuple (SqT.of (K:=X.K) (sm _ _ hp));obtain⟨u,y,eu,ru,ry⟩:=vals2 a4;subst eu;cases ru
  cases ry
  obtain⟨o,ho,hc,n,hd⟩:=p2;show wpAny _ A.in1 (holding [Bo ps[i]] _ >>= _) _ _ _;refine Af (C0 ?_);refine Af (wpAny_tryCatch ?_);unfold Builtin.Dict.pairItems;refine Af (IX (T := "tuple") ⟨o,ho,hc⟩ ?_);rw[As (by first|decide|rfl|simp)];refine Af (C6 ho hd (A2 ?_));show wpAny _ A.in1 (holding [Bo tt,Ip true] (dictSet S (Bo tt) (Ip true))) _ _ _;have eT:L.take (i+1)=L.take i++[L[i]]:=by rw[List.take_add_one,Aa c];rfl
  refine C0 (agi (k:=pK L[i]) (v:=.bl true) (by show A.units+1+2<cLine;omega) I1 r (sm _ _ ht) ?_ rfl fun s2 I2 a5 => ?_)
  ·have:=vo (L.take i) []
   rw[AO] at this;simp at this;omega
  refine A2 ⟨F4 jE _,ih (i+1) (p+1) 0 _ _ (by omega) (by omega) I2 ⟨?_,a0.2⟩ (m.at fun o' e=>a5.extBut I o' (Ne.symm f) e) (aI sm B) ?_ E⟩
  ·rw[aw (Ne.symm f)];exact z
  ·rw[ag,eT]
   unfold yC;rw[El];rfl
def agR:List V->Hp->VK->Prop:=fun xs H Q=>∃(a:Ag)(ps:List Ag)(L:List (Nat×Nat)),xs=[.ref a]/\PT2 H a ps L/\L.length<sizeLine/\∀d b,H d=AK->aM H b->b d=some (.dT (yC [] L))->Q (.ref d) b
theorem xT(f:X.calm=true)(hu:X.A.units+64<cLine):nO X (.type "dict") agR:=by
 intro pins s σ H xs us Q I r q;obtain⟨a,ps,L,ex,P,hsz,q⟩:=q;subst ex;obtain⟨u,eu,rx⟩:=vals1 r;subst eu;cases rx
 obtain⟨B,rv,pl,hz⟩:=I.list (SqL.of (K:=X.K) P.lst);obtain⟨W,n,y,C,hd,c⟩:=pl;have hh:=I.ok.hd f;have g:H s.heap.objs.size=Option.none:=I.hok.fresh (Ak _);refine JR (Q₁:=fun m Y=>m=.ref s.heap.objs.size/\Y={ s with heap:=s.heap.push { cls:=.type "dict",data:=.dict #[] } }) PySem.F.kt_called_dict (PySem.F.kt_typeCall_dict_1 _) PySem.F.entry_dict_init (kt_code_dict_new _ ⟨rfl,rfl⟩) ?_;rintro m Y ⟨rfl,rfl⟩;have d:(s.heap.push { cls:=.type "dict",data:=.dict #[] }).DictOf (bO X.prog X.w) s.heap.objs.size []:=J4 s.heap;have z:∀b o,s.heap.get? b=some o->(s.heap.push { cls:=.type "dict",data:=.dict #[] }).get? b=some o:=fun b o e=>Ap _ e;have I1:Inv X pins σ (upd H s.heap.objs.size (.dT [])) { s with heap:=s.heap.push { cls:=.type "dict",data:=.dict #[] } } :=
  I.laid (a:=s.heap.objs.size) (o:=.dT []) (t':=s.toks) z (Ak _) (vY s.heap I.big)
 refine⟨d.typeIs,PySem.F.args_dict_init_2 _ _,?_⟩;unfold Builtin.«dict.__init__»;refine Af ?_;unfold Builtin.Dict.selfAndRest;refine Af (wpAny_notOrdered_dict d.typeIs ?_);show wpAny _ _ (pure (s.heap.objs.size,[Bo a])) _ _ _;refine A2 ?_;show wpAny _ _ (GX "dict.__init__" s.heap.objs.size (.ref a) [] .none) _ _ _;unfold GX;refine Af (IX (T := "list") ⟨W,z _ _ y,C⟩ ?_);rw[As (by first|decide|rfl|simp)];refine Af (zU (z _ _ y) C c hd hh fun j p i => ?_);rw[As (show(none:Option Ai).isNone=true from rfl)];refine Af (Fx ?_);have E:=I1.kept (t':=p) i;have G:j.IsList a B.toArray:=⟨W,i _ _ (z _ _ y),C,n,c⟩;have v:s.heap.objs.size<j.objs.size:=by
  have e:(s.heap.push { cls:=.type "dict",data:=.dict #[] }).get? s.heap.objs.size=some { cls:=.type "dict",data:=.dict #[] }:=AH _ rfl;exact AF (i _ _ e)
 refine Af (IM G ?_);have k2:∀b o,j.get? b=some o->(j.push { cls:=.type "list_iterator",data:=.fields #[.ref a,.int 0 0] }).get? b=some o:=fun b o e=>Ap _ e;have I3:=E.kept (t':=p) k2;have J:a<s.heap.objs.size:=AF y;have M:(upd H s.heap.objs.size (.dT [])) j.objs.size=Option.none:=E.hok.fresh (Ak _);have key:=aeX (X:=X) (pins:=pins) (σ:=σ) (A:=X.A.in1) (R:=wants (fun r s₂=>r=.none/\EP X pins σ Q (.ref s.heap.objs.size) s₂) X.xe) (S:=s.heap.objs.size) (I:=j.objs.size) (l:=a) (ps:=ps) (L:=L) (H1:=H) rfl rfl hh (by show X.A.units+1+3<cLine;omega) P g
  (Bj (Kq J v)) (Bj v) hsz L.length 0 0 0 _ _ (DU _) (AN _) I3 (E.abo (Ak _) M) ⟨_,AH _ rfl,rfl,rfl⟩ (ak g) ag
  (fun s' Z I' sm O=>⟨rfl,.ref s.heap.objs.size,Z,I',rfl,q _ Z g sm O⟩)
 first
  | exact A2 ⟨F4 jE _,key⟩
  | exact Af (A2 (A2 ⟨F4 jE _,key⟩))
end
section
variable{prog:AI}{w:AZ}{A:B7}{E:Ai->Aq->Prop}{s:Aq}
theorem w8{it t:Ag}{i:Nat}{a:Array Ai}{x:Ai}{Q:Ai->Aq->Prop}(b:s.heap.IsTupleIter it t i)(g:s.heap.IsTuple t a)(j:a[i]? = some x)(l:∀h',h'.IsTupleIter it t (i+1)->Ez it s.heap h'->Q x { s with heap:=h' }):wpAny (model prog w) A (Bg (.ref it)) Q E s:=by
 obtain⟨o,d,m,c⟩:=id b;obtain⟨n,e,_,p,f⟩:=g;unfold Bg;refine Af (wpAny_callSpecial?_slot (name:=BR "__next__") b.typeIs D3 (Du D3 b.typeIs Ge ?_ (FT _)));show wpAny _ _ (field (.ref it) 0 >>= _) _ _ s;refine Af (Cy d c (x:=.ref t) rfl ?_);show wpAny _ _ (if (Bo t==DJ)=true then _ else _) _ _ s;rw[Ar (show ¬((Bo t==DJ)=true) from AS)];show wpAny _ _ (field (.ref it) 1 >>= _) _ _ s;refine Af (Cy d c (x:=.int i 0) rfl ?_);show wpAny _ _ (seqItems? (.ref t) >>= _) _ _ s;refine Af (C6 e f ?_);simp only[Ei,j];refine Af (JT d c (by simp) (A2 ⟨x,rfl,A2 (l _ ?_ (CY ..))⟩));exact⟨_,Ef _ d (Obj.isFreed_of_fields (IE c _)),(Obj.cls_mapFields ..).trans m,by rw[IE c];simp[rawInt]⟩
theorem iI{it t:Ag}{i:Nat}{b:Array Ai}{Q:Ai->Aq->Prop}(hh:A.handled=none)(c:s.heap.IsTupleIter it t i)(l:s.heap.IsTuple t b)(n:b[i]? = none)(p:∀h' e,KH it s.heap h'->(∃o,h'.get? e=some o/\o.cls=.type "StopIteration")->E (.ref e) { s with heap:=h' }):wpAny (model prog w) A (Bg (.ref it)) Q E s:=by
 obtain⟨o,d,q,f⟩:=id c;obtain⟨r,g,_,u,j⟩:=l;unfold Bg;refine Af (wpAny_callSpecial?_slot (name:=BR "__next__") c.typeIs D3 (Du D3 c.typeIs Ge ?_ (FT _)));show wpAny _ _ (field (.ref it) 0 >>= _) _ _ s;refine Af (Cy d f (x:=.ref t) rfl ?_);show wpAny _ _ (if (Bo t==DJ)=true then _ else _) _ _ s;rw[Ar (show ¬((Bo t==DJ)=true) from AS)];show wpAny _ _ (field (.ref it) 1 >>= _) _ _ s;refine Af (Cy d f (x:=.int i 0) rfl ?_);show wpAny _ _ (seqItems? (.ref t) >>= _) _ _ s;refine Af (C6 g j ?_);simp only[Ei,n];refine Af (Fx (Af (JT d f (by simp) ?_)));show wpAny _ _ (newExc (.type "StopIteration") [] >>= _) _ _ _;refine Af ?_;simp only[newExc,newTuple];refine Af (G6 ?_ (by size_fits));refine Af (m:=firstArgMember _ _) (KI (a:=DJ) (by first|rfl|(simp only[firstArgMember];rfl)) ?_);refine G6 ?_ (by size_fits);simp only[raiseNew];refine Af (wpAny_handled ?_)
 first|rw[show A.in1.handled=none from hh]|rw[hh]
 refine Af (A2 (wpAny_throw ?_));exact p _ _ (((CY ..).extBut.push _).push _) ⟨_,AH _ rfl,rfl⟩
theorem zu(hh:A.handled=none)(st:Nat)(it t:Ag)(hne:t≠it)(a:Array Ai):
  Draws prog w A it [it,t] (a.size+st) (fun j v=>∃i,j=i+st/\a[i]? = some v) (fun j h=>(∃i,j=i+st/\h.IsTupleIter it t i)/\h.IsTuple t a) where
 live:=fun _ _ q=>let ⟨_,_,o,ho,_⟩:=q.1;⟨o,ho⟩
 frame:=fun _ _ _ q l=>by
  obtain⟨⟨i,e,c⟩,b⟩:=q;exact⟨⟨i,e,c.at fun o e=>l it (by simp) o e⟩,let ⟨o,ho,r⟩:=b;⟨o,l t (by simp) _ ho,r⟩⟩
 item:=fun j s Q E p q m=>by
  obtain⟨⟨i,e,c⟩,b⟩:=q;have d:i<a.size:=by omega
  refine w8 c b (x:=a[i]) (by simp[d]) fun h' f g => ?_;exact m _ h' s.toks ⟨i,e,by simp[d]⟩ ⟨⟨i+1,by omega,f⟩,let ⟨o,ho,r⟩:=b;⟨o,g.extBut _ _ hne ho,r⟩⟩ g
 done:=fun s Q E q n=>by
  obtain⟨⟨i,e,c⟩,b⟩:=q;exact iI hh c b (by simp;omega) n
theorem oA{T b:String}{c a:Ai}{d:List Ai}{e:List (AW×Ai)}(i:typeLookup (.type T) "__init__" = pure (some (.builtin "object.__init__")))(j:Bind.madeBy (.type T)=pure (some b))(hne:(some b != some "object.__new__")=true):
  Lc (Builtin.«object.__init__» ⟨c::a::d,e⟩) (fun _ R s=>s.TypeIs c T/\R (.ok (.ret .none)) s):=by
 refine Meets.of_wp fun prog w A R s f => ?_;obtain⟨l,g⟩:=f
 repeat (any_goals (first|assumption|wp_step))
 exact⟨_,rfl,g⟩
theorem um{T d b:String}{G H:Builtin}{a:List Ai}{m:List (AW×Ai)}{S:PySem.Spec}{Q Q₁:Ai->Aq->Prop}(i:TypeCalled T d b)(O:checkTypeCall T ⟨a,m⟩=pure ())(q:checkBuiltinCall d ⟨.type T::a,m⟩=pure ())(j:entryFor table d=some G)(l:entryFor table b=some H)(g:Lc (G ⟨.type T::a,m⟩) S)(h:S A.in1 (wants Q₁ E) s)(n:∀f p,Q₁ f p->p.TypeIs f T/\argsOk b ⟨f::a,m⟩/\∃u,Lc (H ⟨f::a,m⟩) u/\u A.in1 (wants (fun r I=>r=.none/\Q f I) E) p):
  wpAny (model prog w) A (call (.type T) a m) Q E s:=by
 obtain⟨c,Z,J⟩:=i.mro;have v:=i.made;have M:=i.sub;refine Iu (codeAny_of_tree ?_);show wpAny _ _ (callAny (.type T) _) _ _ _;refine A2 ⟨IF _ (by decide +kernel),DB F.entry_type_call ?_⟩;rw[Around.under_plain (weight_type_call_type T a m) (units_type_call_type T a m)];have h1:=i.notType;have h2:=i.canCreate
 repeat (any_goals (first|assumption|wp_step))
 refine EU (HK i.plain j (KI q (g prog w A.in1 _ s h))) fun r p y => ?_;cases r with
 | error e=>exact y
 | ok fl =>
  cases fl with
  | ret f =>
   obtain⟨P,z,u,R,B⟩:=n _ _ y;have W:=i.init.lookup;have X:=i.init.bind f
   repeat (any_goals (first|assumption|wp_step))
   refine EU (HK i.init.plain l (i.init.check _ _ _ _ _ _ _ _ P z (R prog w A.in1 _ p B))) fun Y I o => ?_;cases Y with
   | error e=>exact o
   | ok C =>
    cases C with
    | ret r =>
     obtain⟨rfl,hq⟩:=o
     repeat (any_goals (first|assumption|wp_step))
    | _=>exact o.elim
  | _=>exact y.elim
theorem ow(a b:Ai):checkTypeCall "enumerate" ⟨[a],[(BR "start",b)]⟩=pure ():=by kernel_rfl
theorem pN(a b:Ai):checkBuiltinCall "enumerate.__new__" ⟨[.type "enumerate",a],[(BR "start",b)]⟩=pure ():=by kernel_rfl
theorem rq(a b c:Ai):argsOk "object.__init__" ⟨[a,b],[(BR "start",c)]⟩:=by
 unfold argsOk;rw[signature?_of (id := "object.__init__") (n := ['_','_','t','i','n','i','_','_']) (o := ['t','c','e','j','b','o']) (by kernel_rfl) F.owner_object];kernel_rfl
theorem uI(t:Ag)(a:Array Ai)(n:Nat)(e:Option Ag)(sl:Array (Option Ai))(tk:KN):
  Lc (Builtin.«enumerate.__new__» ⟨[.type "enumerate",.ref t],[(BR "start",.int 4 tk)]⟩) (fun _ R s=>s.heap.get? t=some { cls:=.type "tuple",dict:=e,data:=.seq a n,slots:=sl } /\
   R (.ok (.ret (.ref (s.heap.push { cls:=.type "tuple_iterator",data:=.fields #[.ref t,.int 0 0] }).objs.size)))
    { s with heap:=(s.heap.push { cls:=.type "tuple_iterator",data:=.fields #[.ref t,.int 0 0] }).push { cls:=.type "enumerate",data:=.fields #[.none,.bool false,.ref s.heap.objs.size,rawInt 4,.none,.none] } }) :=
 .of_wp fun prog w A R s h=>by
  obtain⟨j,g,d,tk,l⟩:=s;obtain⟨b,h⟩:=h;have i:=sub_enumerate;have f:Heap.IsTuple (Shared.heap ⟨j,g,d,tk,l⟩) t a:=⟨_,b,rfl,n,rfl⟩
  wp_walk using DL b
  refine wpAny_stack_any fun st=>A2 ?_
  split
  ·rename_i c _ _ _ _ _
   cases(c==Dx "enumerate")
   ·wp_walk using DL b,EJ f
    exact⟨_,rfl,h⟩
   ·wp_walk using DL b,EJ f
    exact⟨_,rfl,h⟩
  ·wp_walk using DL b,EJ f
   exact⟨_,rfl,h⟩
theorem xm{t:Ag}{a:Array Ai}{tk:KN}{Q:Ai->Aq->Prop}(l:s.heap.IsTuple t a)(h:∀h',Kr h' (s.heap.objs.size+1) s.heap.objs.size ((4:Nat):Int) .none->h'.IsTupleIter s.heap.objs.size t 0->(∀b o,s.heap.get? b=some o->h'.get? b=some o)->Q (.ref (s.heap.objs.size+1)) { s with heap:=h' }):
  wpAny (model prog w) A (call (.type "enumerate") [.ref t] [(BR "start",.int 4 tk)]) Q E s:=by
 obtain⟨⟨c,e,m,sl⟩,p,f,n,g⟩:=l
 replace f:c=.type "tuple" := f
 replace g:m=.seq a n:=g
 subst f g;refine um (Q₁:=fun d i=>i.TypeIs d "enumerate" /\ Q d i) F.called_enumerate (ow _ _) (pN _ _) F.entry_enumerate_new F.entry_object_init (uI t a n e sl tk) ⟨p,?_⟩ fun d i j =>
  ⟨j.1,rq d _ _,_,oA F.called_enumerate.init.lookup F.called_enumerate.made (by decide),j.1,rfl,j.2⟩
 have hz:(s.heap.push { cls:=.type "tuple_iterator",data:=.fields #[.ref t,.int 0 0] }).objs.size=s.heap.objs.size+1:=BU ..;show _/\_;rw[hz];have he:Kr ((s.heap.push { cls:=.type "tuple_iterator",data:=.fields #[.ref t,.int 0 0] }).push { cls:=.type "enumerate",data:=.fields #[.none,.bool false,.ref s.heap.objs.size,rawInt 4,.none,.none] }) (s.heap.objs.size+1) s.heap.objs.size ((4:Nat):Int) .none:=by
  have:=AH (s.heap.push { cls:=.type "tuple_iterator",data:=.fields #[.ref t,.int 0 0] }) (o:={ cls:=.type "enumerate",data:=.fields #[.none,.bool false,.ref s.heap.objs.size,rawInt 4,.none,.none] }) rfl;rw[hz] at this;exact this
 exact⟨⟨_,he,rfl⟩,h _ he ⟨_,Ap _ (AH _ rfl),rfl,rfl⟩ fun b o x=>Ap _ (Ap _ x)⟩
theorem aau{e it t:Ag}{i:Nat}{j:Int}{a:Array Ai}{c:Ai}{Q:Option Ai->Aq->Prop}(hh:A.handled=none)(he:Kr s.heap e it j c)(d:s.heap.IsTupleIter it t i)(m:s.heap.IsTuple t a)(n:a[i]? = none)(p:∀h',KH it s.heap h'->Q none { s with heap:=h' }):wpAny (model prog w) A (pyNext (.ref e)) Q E s:=by
 have l:s.TypeIs (.ref e) "enumerate" := ⟨_,he,rfl⟩;unfold pyNext;refine Af (GJ (wpAny_callSpecial?_slot (name:=BR "__next__") l HB (Du HB l F.entry_enumerate_next ?_ (F.args_enumerate_next_1 _))));show wpAny _ _ (field (.ref e) 2 >>= _) _ _ _;refine Af (Cy he rfl (x:=.ref it) rfl ?_);refine Af (iI (A:=A.in1) hh d m n fun h' x f g => ?_);obtain⟨o,q,r⟩:=g;exact Af (GW (T := "StopIteration") (b:=true) ⟨o,q,r⟩ JQ (A2 (p _ f)))
theorem oj{M:Kk}{pos:Pos}{T:String}{e:B9}{c:List B9}{d:List HW}{b:Ib}{Q:Ai->Aq->Prop}(h:wpAny M A (spliced (backTo pos (starEach (e::c) b))) (fun vs g=>wpAny M A (evalAll ((backToKw pos (keywordEach d b)).map (·.2)))
   (fun i m=>wpAny M A (call (.type T) vs (((backToKw pos (keywordEach d b)).filterMap (·.1)).zip i)) Q E m) E g) E s)(he:backTo pos (starEach (e::c) b)=(false,eval e b)::backTo pos (starEach c b):=by rfl)(j:(backTo pos (starEach (e::c) b)).any (·.1)=false:=by rfl)(f:(backToKw pos (keywordEach d b)).all (·.1.isSome)=true:=by rfl)(l:(backToKw pos (keywordEach d b)).any (·.1.isNone)=false:=by rfl):
  wpAny M A (callWith pos (.type T) [] (backTo pos (starEach (e::c) b)) (backToKw pos (keywordEach d b))) Q E s:=by
 have key:wpAny M A (evalArgs (.type T) true (backTo pos (starEach (e::c) b)) (backToKw pos (keywordEach d b))) (fun a g=>wpAny M A (call (.type T) ([]++a.pos) a.kw) Q E g) E s:=by
  rw[he] at h ⊢;exact evalArgs_kwB f h
 unfold callWith;refine Af (C0 (C2 key (fun a g n=>Af (GF ?_)) fun _ _ x=>x));simp only[j,l,Ii];refine Af (A2 ?_);exact Af (C2 n (fun r m o=>Af (C0 (wpAny_point (A2 o)))) fun _ _ x=>x)
end
noncomputable def ItS(K:Lf)(a:Ag):It :=
 ⟨fun i H=>∃(xs:List V)(x:V),SqT K H a xs/\xs[i]? = some x,fun i H v b=>∃T x,v=.ref T/\H T=none/\b=upd H T (.tup [.int ((i+4:Nat):Int),x])/\∀xs,SqT K H a xs->xs[i]? = some x,fun i H=>∃xs:List V,SqT K H a xs/\xs.length<=i⟩
theorem xh{P:AI}{w:AZ}{K:Lf}{r:List B9}{kk:Nat}{B:Pos}(a e it:Ag):
  Turn P w K (.Tuple r kk B) (ItS K a) [e,it] e (fun i h=>(∃c,Kr h e it ((i+4:Nat):Int) c)/\h.IsTupleIter it a i/\e≠it/\a≠it/\a≠e) where
 mem:=by simp
 obj:=fun i h st b f=>by
  obtain⟨⟨c,he⟩,⟨o,S,O,hd⟩,_⟩:=st;have T:b=e\/b=it:=by simpa using f
  rcases T with z|z
  ·rw[z];exact⟨_,he,fun v q=>nomatch q⟩
  ·rw[z];exact⟨o,S,fun v q=>by rw[hd] at q;cases q⟩
 keep:=fun i h h' st k=>let ⟨⟨c,he⟩,hi,hne⟩:=st;⟨⟨c,k e (by simp) _ he⟩,hi.at fun o q=>k it (by simp) o q,hne⟩
 item:=by
  intro X C W Y O i pins s σ H E I hf st Z;subst C W Y;obtain⟨⟨c,he⟩,j,hne,l,m⟩:=st;obtain⟨xs,x,R,hx⟩:=Z;obtain⟨d,rv,p,hz⟩:=I.tuple R;obtain⟨u,hu,ru⟩:=rv.get hx;have af:i<d.length:=(Aj.mp hu).1;have G:e<s.heap.objs.size:=AF he;have a0:it<s.heap.objs.size:=by obtain⟨_,q,_⟩:=j;exact AF q
  refine wpAny_pyNext_enum_itemD (i:=i+4) (zu (A:=X.A.in1) (I.ok.hd O) 4 it a l d.toArray) he ⟨⟨i,rfl,j⟩,show s.heap.IsTuple a d.toArray from p⟩ (by rw[A9];omega) hne (by
   intro z;have z':e=it\/e=a:=by simpa using z
   rcases z' with z|z
   ·exact hne z
   ·exact m z.symm) fun y h' tk C S a3 hT hsz hk => ?_
  obtain⟨g,ei,ey⟩:=C;have a4:g=i:=by omega
  subst a4;have J:d[g]? = some y:=by simpa using ey
  rw[hu] at J;obtain rfl:=Ah J;obtain⟨⟨i2,e2,M⟩,_⟩:=a3;have a5:i2=g+1:=by omega
  subst a5;refine⟨_,rfl,Gp (s:={ s with heap:=h',toks:=tk+1 }) S fun n a6 sb => ?_⟩;have a7:n.get? s.heap.objs.size=some { cls:=.type "tuple",data:=.seq #[.int ((g+4:Nat):Int) tk,u] }:=(sb.2 _ (CJ G)).trans hT;have aa:cf X.prog X.w (upd H s.heap.objs.size (.tup [.int ((g+4:Nat):Int),x])) n s.heap.objs.size (.tup [.int ((g+4:Nat):Int),x]) :=
   ⟨by show 2<=sizeLine;decide,[.int ((g+4:Nat):Int) tk,u],.cons ⟨_,rfl⟩ (.cons ru .nil),⟨_,a7,rfl,_,rfl⟩⟩
  have I1:Inv X pins σ (upd H s.heap.objs.size (.tup [.int ((g+4:Nat):Int),x])) { s with heap:=n,toks:=tk+1 } :=
   I.nE (ch := [e,it]) (fun b ob f q=>(sb.2 b (fun z=>f (by simp[z]))).trans (hk b ob (fun z=>f (by simp[z])) (fun z=>f (by simp[z])) q)) hf (Ak _) aa
  refine⟨.ref s.heap.objs.size,_,I1,rfl,⟨_,x,rfl,I.hok.fresh (Ak _),rfl,fun ys hy=>by rw[I.rL hy R];exact hx⟩,⟨⟨u,?_⟩,M.at fun o q=>(sb.2 it (Ne.symm hne)).trans q,hne,l,m⟩,fun b f => ?_⟩
  ·have e1:((g+1+4:Nat):Int)=((g+4:Nat):Int)+1:=by omega
   rw[e1];exact a6
  ·have ae:b<s.heap.objs.size:=by
    have T:b=e\/b=it:=by simpa using f
    rcases T with z|z
    ·rw[z];exact G
    ·rw[z];exact a0
   rw[aw (Bj ae)];exact(hf b f).1
 done:=by
  intro X C W Y O i pins s σ H E I hf st Z;subst C W Y;obtain⟨⟨c,he⟩,j,hne,l,m⟩:=st;obtain⟨xs,R,hx⟩:=Z;obtain⟨d,rv,p,hz⟩:=I.tuple R;obtain⟨f0,f1,f2,f3,f4,f5⟩:=hf it (by simp);have hl:=rv.length;exact aau (I.ok.hd O) he j (show s.heap.IsTuple a d.toArray from p) (by simp;omega) fun h' eb=>⟨rfl,I.turned (t':=s.toks) (fun b o f q=>eb b o f q) f0 f1 f3 f4 f5⟩
 self:=fun A i s Q E st h=>let ⟨⟨_,he⟩,_⟩:=st;Fc he h
section
variable{X:Cx}
def aho(K:Lf)(b:TE):TI:=fun σ H R=>b σ H fun x H1=>∃a xs,x=.ref a/\SqT K H1 a xs/\R (ItS K a) H1
theorem abI{e:B9}{A:TE}{p pos d J B:Pos}{f:List B9}{M C:Nat}(O:Gl X "enumerate")(P:X.mg "enumerate" = none)(S:PE X e A)(n:starEach [e] X.env=[(false,eval e X.env)]:=by rfl):
  PI X (.Tuple f M d) (.Call (.Name "enumerate" p) [e] [⟨some "start",.Constant (.int 4) C B,J⟩] pos) (aho X.K A):=by
 intro pins s σ H R I h;refine Cs (gw I O P boot_enumerate ?_);refine oj ?_ (by rw[n];rfl) (by rw[n];rfl);rw[n];show wpAny _ _ (spliced ((false,eval e X.env)::[])) _ _ _;refine Gm (thn (S pins s σ H _ I h) fun u T ⟨x,H1,W,Y,a,xs,Z,hq,q⟩=>G4 ?_);subst Z;cases Y
 refine kws_cons ?_;refine thn (aq (X:=X) (i:=4) (j:=C) (pos:=B) pins T σ H1 (fun v l=>v=.int 4/\l=H1) W ⟨rfl,rfl⟩) fun v c ⟨y,l,m,r2,e1,e2⟩ => ?_;subst e1 e2;obtain⟨tk,rfl⟩:=r2;refine kws_nil ?_;obtain⟨r,rv,E,hz⟩:=m.tuple hq;refine xm (show c.heap.IsTuple a r.toArray from E) fun h' he w hk=>Fc he ?_;have I3:Inv X pins σ l { c with heap:=h' }:=m.kept (t':=c.toks) hk;have G:a<c.heap.objs.size:=by obtain⟨o,ho,_⟩:=E;exact AF ho
 refine⟨c.heap.objs.size+1,[c.heap.objs.size+1,c.heap.objs.size],_,_,l,rfl,I3,xh a (c.heap.objs.size+1) c.heap.objs.size,⟨⟨.none,he⟩,w,Jn _,Bj G,Bj (EY G)⟩,fun b hb => ?_,q⟩;have e':b=c.heap.objs.size+1\/b=c.heap.objs.size:=by simpa using hb
 have g:c.heap.objs.size<=b:=by
  rcases e' with z|z
  ·rw[z];exact Ft _ _
  ·rw[z];exact Ak _
 exact m.abo g (m.hok.fresh g)
structure FnV(P:AI)(w:AZ)(K:Lf)(mg:Lg)(base:B1)(k:Nat)(f:Ag)(sp:Sp):Prop where
 ex:∃fd ps,Cb K (.ref f)=true/\Binds K fd ps []/\n8 P w K mg base CX0 k f fd ps sp
def ahf(Fs:Ag->Sp->Prop)(a:TE)(t:TA):TE:=fun σ H Q=>a σ H fun x H1=>∃f sp,x=.ref f/\Fs f sp/\t σ H1 fun vs b=>sp (vs++[]) b Q E0
theorem abW{k:Nat}{x:AW}{e:B9}{a:List B9}{t:TA}{c:TE}{p pos:Pos}(g:PE X (.Name x p) c)(i:fD k X.A)(j:PA X (e::a) t)(he:starEach (e::a) X.env=(false,eval e X.env)::starEach a X.env:=by rfl)(b:(backTo pos (starEach a X.env)).any (·.1)=false:=by rfl)(l:Passes CX0 X E0:=by exact sf):
  PE X (.Call (.Name x p) (e::a) [] pos) (ahf (FnV X.prog X.w X.K X.mg X.base k) c t):=by
 intro pins s σ H Q I h;refine Cs (thn (g pins s σ H _ I h) fun u m ⟨y,H1,n,o,f,sp,v,z,q⟩ => ?_);subst v;cases o
 obtain⟨G,ps,B,C,F⟩:=z.ex;refine EL (h₀:=X.base) I.ok.mod.kin B (thn (j pos pins m σ H1 _ n q) fun us J ⟨vs,M,d,r,E⟩=>⟨d.kIn,?_⟩) he b;exact vE F i C .nil l d r E
end
noncomputable def top(i:Nat):Stmt:=PySem.Challenge.pw_glasssheets_s03_lay.main.body.getD i (.Pass ⟨0,0,0,0⟩)
structure Adr where
 sign:Ag
 heads:Ag
 finders:Ag
 drawing:Ag
 pane:Ag
 cartoon:Ag
 blank:Ag
 sheet:Ag
 order:Ag
structure Fl(K:Lf)(C:Ag)(fs:List AW):Prop where
 cl:Cls K C
 no:∀f∈fs,fJ K C f
theorem aaz{K:Lf}{σ:L2.St}{H:Hp}{Q:VK}{i:Nat}{a C dx:Ag}{b:List (AW×V)}{v:V}{f:AW}{c:List AW}(d:σ[i]? = some (some (.ref a)))(e:H a=some (.ins C dx b))(F:Fl K C c)(g:b.lookup f=some v)(h:Q v H)(hf:f∈c:=by decide +kernel):acV K (qd i) f σ H Q:=⟨_,d,a,C,dx,b,v,rfl,e,F.cl,F.no f hf,g,h⟩
structure Txt(K:Lf)(mg:Lg)(ad:Adr):Prop where
 cy:mg "len" = none
 eM:mg "range" = none
 aZ:mg "enumerate" = none
 adO:mg "zip" = none
 uR:mg "reversed" = none
 aa6:mg "min" = none
 aa7:mg "max" = none
 acN:mg "tuple" = none
 afl:mg "dict" = none
 afm:mg "list" = none
 ba:i9 mg "HEAD_SIZE" 20
 bJ:i9 mg "POINT_SIZE" 8
 bR:i9 mg "LINE_SIZE" 4
 ck:i9 mg "MARK_SIZE" 12
 cF:i9 mg "MOST_LENGTH" 16777215
 di:i9 mg "MOST_GLASS" 65535
 bF:i9 mg "SHEET_NUMBERS" 4
 cG:i9 mg "MOST_MARGIN" 65535
 dj:i9 mg "MOST_BYTES" 131072
 cH:i9 mg "MOST_SHEETS" 1024
 draw:Fl K ad.drawing ["width","height","points","lines","marks"]
 pane:Fl K ad.pane ["glass","corners"]
 cartoon:Fl K ad.cartoon ["broken","panes"]
 blank:Fl K ad.blank ["glass","width","height"]
 sheet:Fl K ad.sheet ["glass","width","height","turns"]
 order:Fl K ad.order ["refusal","blanks","sheets"]
 ahE:mg "SIGN" = some (.ref ad.sign)
 oF:mg "HEAD_NUMBERS" = some (.ref ad.heads)
 sign_is:oR K ad.sign [.int 71,.int 76,.int 65,.int 49]
 heads_are:∃a0 a1 a2 a3 a4 a5:Ag,oR K ad.heads [.ref a0,.ref a1,.ref a2,.ref a3,.ref a4,.ref a5]/\oR K a0 [.int 4,.int 4,.int 16,.int 1048575]/\oR K a1 [.int 8,.int 4,.int 16,.int 1048575] /\
  oR K a2 [.int 12,.int 2,.int 4,.int 4096]/\oR K a3 [.int 14,.int 2,.int 4,.int 8192]/\oR K a4 [.int 16,.int 2,.int 1,.int 2048]/\oR K a5 [.int 18,.int 2,.int 0,.int 0]
section
variable{P:AI}{w:AZ}{K:Lf}{mg:Lg}{base:B1}{ad:Adr}
noncomputable def oh(c d a b e f:Int):Int:=(a-c)*(f-b)-(b-d)*(e-a)
inductive mX(K:Lf)(vs:List V)(H:Hp)(Q:VK)(E:XK):Prop
 | mk (a b c:Ag)(px py qx qy rx ry:Int)(c0:vs=[.ref a,.ref b,.ref c])(c1:wB K H a px py)(c2:wB K H b qx qy)(c3:wB K H c rx ry)(c4:Sm px)(c5:Sm py)(c6:Sm qx)(c7:Sm qy)(c8:Q (.int (oh px py qx qy rx ry)) H)
noncomputable abbrev ac6:Stmt:=(top 15)
theorem aea(D:Def K mg "turn" ac6 ["p","q","r"]):Fn P w K mg base 1 "turn" ["p","q","r"] (mX K):=by
 refine D.fx ["p","q","r"] ?_;rintro z f m A e s H vs Q E g ⟨a,b,c,B,C,G,I,J,M,rfl,⟨xs,i,n,o⟩,⟨ys,d,j,l⟩,⟨O,g,p,q⟩,r,u,v,y,k⟩;refine⟨_,(kxr (aV dE (aV dF (aV dE (kxT (pv 1) aq) (kxT (pv 0) aq)) (aV dE (kxT (pv 2) aq) (kxT (pv 1) aq))) (aV dF (aV dE (kxT (pv 1) aq) (kxT (pv 0) aq)) (aV dE (kxT (pv 2) aq) (kxT (pv 1) aq))))),?_⟩;refine dO rfl d j (dO rfl i n ⟨_,_,rfl,rfl,dO rfl g q (dO rfl d l ⟨_,_,rfl,rfl,_,_,rfl,rfl,afY v r,?_⟩)⟩);refine dO rfl d l (dO rfl i o ⟨_,_,rfl,rfl,dO rfl g p (dO rfl d j ⟨_,_,rfl,rfl,_,_,rfl,rfl,afY y u,_,_,rfl,rfl,?_⟩)⟩);exact k
inductive nQ(vs:List V)(H:Hp)(Q:VK)(E:XK):Prop
 | mk (v a b:Int)(c0:vs=[.int v,.int a,.int b])(c1:Q (.bl (decide (min a b<=v)&&decide (v<=max a b))) H)
noncomputable abbrev rS:Stmt:=(top 16)
theorem wY(D:Def K mg "is_between" rS ["value","one","other"])(T:Txt K mg ad):Fn P w K mg base 1 "is_between" ["value","one","other"] nQ:=by
 refine D.fx ["value","one","other"] ?_;rintro g f d A c s H vs Q E i ⟨v,a,b,rfl,k⟩;refine⟨_,(kxr (gI (bg wZ (dJ (yZ rfl) (by rfl) T.aa6 Fp (ab (pv 1) (ab (pv 2) ah))) (pv 0) (bj _)) (gv (bg wZ (pv 0) (dJ (ye rfl) (by rfl) T.aa7 Fq (ab (pv 1) (ab (pv 2) ah))) (bj _))))),?_⟩;have e1:(if b<a then b else a)=min a b:=by omega
 have e:(if b>a then b else a)=max a b:=by omega
 refine⟨_,rfl,_,rfl,_,_,rfl,_,rfl,_,_,rfl,rfl,_,rfl,?_⟩;rw[e1];refine bX (fun h => ?_) (fun h => ?_)
 ·refine⟨_,rfl,_,rfl,_,rfl,_,_,rfl,_,_,rfl,rfl,?_⟩
  rw[e];rw[h,BW] at k;exact k
 ·rw[Bv] at h
  rw[h,Bp] at k;exact k
inductive lP(K:Lf)(vs:List V)(H:Hp)(Q:VK)(E:XK):Prop
 | mk (a b:Ag)(px py qx qy:Int)(c0:vs=[.ref a,.ref b])(c1:wB K H a px py)(c2:wB K H b qx qy)(c3:Q (.bl (decide (qy<py)||(decide (py=qy)&&decide (qx<px)))) H)
noncomputable abbrev vn:Stmt:=(top 18)
theorem yM(D:Def K mg "comes_behind" vn ["point","last"]):Fn P w K mg base 1 "comes_behind" ["point","last"] (lP K):=by
 refine D.fx ["point","last"] ?_;rintro r f o A i s H vs Q E u ⟨a,b,v,c,y,d,rfl,⟨xs,j,p,m⟩,⟨ys,l,q,n⟩,k⟩;refine⟨_,(kxr (aeK (bg lJ (kxT (pv 0) aq) (kxT (pv 1) aq) (bj _)) (gv (gI (bg aeZ (kxT (pv 0) aq) (kxT (pv 1) aq) (bj _)) (gv (bg lJ (kxT (pv 0) aq) (kxT (pv 1) aq) (bj _))))))),?_⟩;refine dO rfl j m (dO rfl l n ⟨_,_,rfl,rfl,_,rfl,bX (fun h => ?_) (fun h => ?_)⟩)
 ·rw[h,Ga] at k
  exact k
 ·rw[Bv] at h
  rw[h,F2] at k;refine dO rfl j m (dO rfl l n ⟨rfl,_,rfl,bX (fun g => ?_) (fun g => ?_)⟩)
  ·refine dO rfl j p (dO rfl l q ⟨_,_,rfl,rfl,?_⟩)
   have e:(decide (V.int c=V.int d))=decide (c=d):=by rw[kJ];rfl
   rw[<- e,g,BW] at k;exact k
  ·rw[Bv] at g
   have e:(decide (V.int c=V.int d))=decide (c=d):=by rw[kJ];rfl
   rw[<- e,g,Bp] at k;exact k
noncomputable def onZ(a b c d e f:Int):Bool:=(decide (min d f<=b)&&decide (b<=max d f))&&((decide (min c e<=a)&&decide (a<=max c e))&&decide (oh c d e f a b=0))
inductive aga(K:Lf)(vs:List V)(H:Hp)(Q:VK)(E:XK):Prop
 | mk (c a b:Ag)(rx ry px py qx qy:Int)(c0:vs=[.ref c,.ref a,.ref b])(c1:wB K H c rx ry)(c2:wB K H a px py)(c3:wB K H b qx qy)(c4:Sm px)(c5:Sm py)(c6:Sm qx)(c7:Sm qy)(c8:Q (.bl (onZ rx ry px py qx qy)) H)
noncomputable abbrev ajn:Stmt:=(top 17)
theorem aip(D:Def K mg "is_on" ajn ["r","p","q"])(p:Fn P w K mg base 1 "is_between" ["value","one","other"] nQ)(z:Fn P w K mg base 1 "turn" ["p","q","r"] (mX K)):Fn P w K mg base 2 "is_on" ["r","p","q"] (aga K):=by
 refine D.fx ["r","p","q"] ?_;rintro X f B A d s H vs Q E g ⟨c,a,b,i,j,l,m,n,o,rfl,q,r,u,C,G,I,J,k⟩;obtain⟨Y,hz,M,O⟩:=id q;obtain⟨xs,v,R,S⟩:=id r;obtain⟨ys,y,T,W⟩:=id u;refine⟨_,(kxr (gI (kxF p g (ab (kxT (pv 0) aq) (ab (kxT (pv 1) aq) (ab (kxT (pv 2) aq) ah)))) (gI (kxF p g (ab (kxT (pv 0) aq) (ab (kxT (pv 1) aq) (ab (kxT (pv 2) aq) ah)))) (gv (bg aeZ (kxF z g (ab (pv 1) (ab (pv 2) (ab (pv 0) ah)))) aq (bj _)))))),?_⟩;unfold onZ at k;refine dO rfl hz O (dO rfl v S (dO rfl y W ⟨_,_,_,rfl,_,rfl,bX (fun h => ?_) (fun h => ?_)⟩))
 ·rw[h,BW] at k
  refine dO rfl hz M (dO rfl v R (dO rfl y T ⟨_,_,_,rfl,_,rfl,bX (fun h => ?_) (fun h => ?_)⟩))
  ·rw[h,BW] at k
   refine⟨_,rfl,_,rfl,_,rfl,a,b,c,l,m,n,o,i,j,rfl,r,u,q,C,G,I,J,rfl,?_⟩;have e:(decide (V.int (oh l m n o i j)=V.int 0))=decide (oh l m n o i j=0):=by rw[kJ];rfl
   rw[e];exact k
  ·rw[Bv] at h
   rw[h,Bp] at k;exact k
 ·rw[Bv] at h
  rw[h,Bp] at k;exact k
def Bytes(a:List Int):Prop:=∀z∈a,0<=z/\z<256
inductive uD(K:Lf)(vs:List V)(H:Hp)(Q:VK)(E:XK):Prop
 | mk (a:Ag)(ns:List Int)(st len:Nat)(c0:vs=[.ref a,.int st,.int len])(c1:SqL K H a (ns.map V.int))(c2:Bytes ns)(c3:∀H',aM H H'->Q (.int (fC ns st len)) H')
noncomputable abbrev ahw:Stmt:=(top 8)
theorem acd{l:List Int}{i:Nat}{z:Int}(h:l[i]? = some z):leZ (l.drop i)=z+256*leZ (l.drop (i+1)):=by
 obtain⟨a,e⟩:=Aj.mp h;rw[Bh a,e];rfl
theorem agO(D:Def K mg "read_number" ahw ["data","start","length"])(T:Txt K mg ad):Fn P w K mg base 1 "read_number" ["data","start","length"] (uD K):=by
 refine D.fx ["data","start","length","number","byte"] ?_;rintro d f q A e s H vs Q E z ⟨a,g,st,b,rfl,r,B,k⟩;refine⟨_,(kxs 3 d aq (az (a8 AJ rfl (tF (by rfl) T.uR (ab (iB kG (pv 0) (gQ (pv 1)) (gQ (aV cw (pv 1) (pv 2)))) ah)) (kxo 4 d) (aE (oW (i:=3) d rfl (IA rfl) (aV cw (aV dF (pv 3) aq) (pv 4))))) (kxr (pv 3)))),?_⟩;refine⟨_,rfl,_,rfl,_,rfl,_,rfl,_,rfl,_,_,rfl,rfl,_,rfl,a,_,rfl,r,fun p u => ?_⟩;have e1:lI (g.map V.int) (some (st:Int)) (some ((st:Int)+(b:Int)))=(((g.drop st).take b).map V.int):=by
  rw[show(st:Int)+(b:Int)=((st+b:Nat):Int) by omega,tO,F3,GH]
  congr 1;omega
 rw[e1];generalize j:(g.drop st).take b=l;have sm:=ak (o:=.lst (l.map V.int)) u;refine⟨p,_,rfl,SqL.of ag,?_⟩;rw[Ab];refine vX l.length (fun i σ c=>∃v,σ=[some (.ref a),some (.int st),some (.int b),some (.int (leZ (l.drop (l.length-i)))),v]/\c=upd H p (.lst (l.map V.int))) ?_ ?_ ?_ ?_
 ·refine⟨none,?_,rfl⟩
  rw[DU,Ff (Ak _)];rfl
 ·rintro i σ c m ⟨v,rfl,rfl⟩
  refine⟨m,l.map V.int,V.int l[l.length-1-i],SqL.of ag,?_⟩;rw[Av,Aa (show l.length-1-i<l.length by omega)];rfl
 ·rintro i x σ c C m ⟨v,rfl,rfl⟩ ⟨rfl,y⟩
  have n:=y _ (SqL.of ag);have hz:l[l.length-1-i]? = some l[l.length-1-i]:=Aa (by omega);rw[Av,hz] at n;obtain rfl:V.int l[l.length-1-i]=x:=Ah n;refine⟨_,rfl,_,_,rfl,rfl,.inr ⟨by decide,by decide⟩,_,rfl,_,_,rfl,rfl,?_⟩;refine⟨some (V.int l[l.length-1-i]),?_,rfl⟩;rw[show l.length-(i+1)=l.length-1-i by omega,acd hz,show l.length-1-i+1=l.length-i by omega];rw[show l[l.length-1-i]+256*leZ (l.drop (l.length-i))=leZ (l.drop (l.length-i))*256+l[l.length-1-i] by omega];rfl
 ·rintro σ c ⟨v,rfl,rfl⟩
  refine⟨Ak _,_,rfl,?_⟩;rw[BE,CP,<- j];exact k _ (by rw[<- j] at sm;exact sm)
inductive yz(K:Lf)(vs:List V)(H:Hp)(Q:VK)(E:XK):Prop
 | mk (a:Ag)(ns:List Int)(st len:Nat)(c0:vs=[.ref a,.int st,.int len])(c1:SqL K H a (ns.map V.int))(c2:Bytes ns)(c3:∀H' p,aM H H'->H' p=some (.tup [.int (fC ns st len),.int (fC ns (st+len) len)])->Q (.ref p) H')
noncomputable abbrev acU:Stmt:=(top 12)
theorem ad8(D:Def K mg "read_pair" acU ["data","start","length"])(d:Fn P w K mg base 1 "read_number" ["data","start","length"] (uD K)):Fn P w K mg base 2 "read_pair" ["data","start","length"] (yz K):=by
 refine D.fx ["data","start","length"] ?_;rintro q f m A c s H vs Q E e ⟨a,g,st,b,rfl,i,j,k⟩;refine⟨_,(kxr (df (ab (kxF d e (ab (pv 0) (ab (pv 1) (ab (pv 2) ah)))) (ab (kxF d e (ab (pv 0) (ab (aV cw (pv 1) (pv 2)) (ab (pv 2) ah)))) ah)))),?_⟩;refine⟨_,rfl,_,rfl,_,rfl,a,g,st,b,rfl,i,j,fun H1 l => ?_⟩;refine⟨_,rfl,_,rfl,_,rfl,_,_,rfl,rfl,_,rfl,a,g,st+b,b,rfl,l.seq i,j,fun r n=>⟨by show 2<=sizeLine;decide,fun p o => ?_⟩⟩;exact k _ p ((l.trans n).trans (ak o)) ag
inductive zL(K:Lf)(vs:List V)(H:Hp)(Q:VK)(E:XK):Prop
 | mk (a:Ag)(ns:List Int)(st:Nat)(c0:vs=[.ref a,.int st])(c1:SqL K H a (ns.map V.int))(c2:Bytes ns)(c3:∀H' p,aM H H'->H' p=some (.tup [.int (fC ns st 4),.int (fC ns (st+4) 4),.int (fC ns (st+8) 2)])->Q (.ref p) H')
noncomputable abbrev adK:Stmt:=(top 13)
theorem aeR(D:Def K mg "read_mark" adK ["data","start"])(b:Fn P w K mg base 1 "read_number" ["data","start","length"] (uD K)):Fn P w K mg base 2 "read_mark" ["data","start"] (zL K):=by
 refine D.fx ["data","start"] ?_;rintro q f m A c s H vs Q E d ⟨a,e,st,rfl,g,i,k⟩;refine⟨_,(kxr (df (ab (kxF b d (ab (pv 0) (ab (pv 1) (ab aq ah)))) (ab (kxF b d (ab (pv 0) (ab (aV cw (pv 1) aq) (ab aq ah)))) (ab (kxF b d (ab (pv 0) (ab (aV cw (pv 1) aq) (ab aq ah)))) ah))))),?_⟩;refine⟨_,rfl,_,rfl,a,e,st,4,rfl,g,i,fun H1 j => ?_⟩;refine⟨_,rfl,_,rfl,_,_,rfl,rfl,a,e,st+4,4,rfl,j.seq g,i,fun r l => ?_⟩;refine⟨_,rfl,_,rfl,_,_,rfl,rfl,a,e,st+8,2,rfl,(j.trans l).seq g,i,fun u n=>⟨by show 3<=sizeLine;decide,fun p o => ?_⟩⟩;exact k _ p (((j.trans l).trans n).trans (ak o)) ag
inductive zG(K:Lf)(vs:List V)(H:Hp)(Q:VK)(E:XK):Prop
 | mk (a:Ag)(ns:List Int)(c0:vs=[.ref a])(c1:SqL K H a (ns.map V.int))(c2:Bytes ns)(c3:∀H',aM H H'->Q (.int (20+8*fC ns 12 2+4*fC ns 14 2+12*fC ns 16 2)) H')
noncomputable abbrev adp:Stmt:=(top 10)
theorem aeS(D:Def K mg "told_size" adp ["data"])(T:Txt K mg ad)(b:Fn P w K mg base 1 "read_number" ["data","start","length"] (uD K)):Fn P w K mg base 2 "told_size" ["data"] (zG K):=by
 refine D.fx ["data","points","lines","marks"] ?_;rintro c f n A d s H vs Q E e ⟨a,g,rfl,i,j,k⟩;have c8:∀z:Int,x3 8 z:=fun z=>.inl ⟨by decide,by decide⟩;have c4:∀z:Int,x3 4 z:=fun z=>.inl ⟨by decide,by decide⟩;have c12:∀z:Int,x3 12 z:=fun z=>.inl ⟨by decide,by decide⟩;refine⟨_,(kxs 1 c (aV dF (kxG T.bJ) (kxF b e (ab (pv 0) (ab aq (ab aq ah))))) (kxs 2 c (aV dF (kxG T.bR) (kxF b e (ab (pv 0) (ab aq (ab aq ah))))) (kxs 3 c (aV dF (kxG T.ck) (kxF b e (ab (pv 0) (ab aq (ab aq ah))))) (kxr (aV cw (aV cw (aV cw (kxG T.ba) (pv 1)) (pv 2)) (pv 3)))))),?_⟩;refine⟨_,rfl,a,g,12,2,rfl,i,j,fun H1 l=>⟨_,_,rfl,rfl,c8 _,?_⟩⟩;refine⟨_,rfl,a,g,14,2,rfl,l.seq i,j,fun q m=>⟨_,_,rfl,rfl,c4 _,?_⟩⟩;refine⟨_,rfl,a,g,16,2,rfl,(l.trans m).seq i,j,fun o p=>⟨_,_,rfl,rfl,c12 _,?_⟩⟩;refine⟨_,rfl,_,_,rfl,rfl,_,rfl,_,_,rfl,rfl,_,rfl,_,_,rfl,rfl,?_⟩;exact k o ((l.trans m).trans p)
noncomputable def brk:Option (Int×Int)->List V
 | none=>[]
 | some (r,p)=>[.int r,.int p]
noncomputable def HN:List (Nat×Nat×Int×Int) := [(4,4,16,1048575),(8,4,16,1048575),(12,2,4,4096),(14,2,4,8192),(16,2,1,2048),(18,2,0,0)]
noncomputable def uK(a:List Int)(h:Nat×Nat×Int×Int):Bool:=decide (fC a h.1 h.2.1<h.2.2.1)||decide (h.2.2.2<fC a h.1 h.2.1)
noncomputable def aaT(a:List Int):Option (Int×Int) :=
 if a.length<20 then some (1,(a.length:Int)) else if a.take 4≠[71,76,65,49] then some (1,0) else match HN.find? (uK a) with
  | some h=>some (2,(h.1:Int))
  | none=>if (a.length:Int)≠20+8*fC a 12 2+4*fC a 14 2+12*fC a 16 2 then some (3,20) else none
inductive aaF(K:Lf)(vs:List V)(H:Hp)(Q:VK)(E:XK):Prop
 | mk (a:Ag)(ns:List Int)(c0:vs=[.ref a])(c1:SqL K H a (ns.map V.int))(c2:Bytes ns)(c3:∀H' p,aM H H'->H p=none->H' p=some (.lst (brk (aaT ns)))->Q (.ref p) H')
noncomputable abbrev adz:Stmt:=(top 9)
theorem find_none{α:Type}{p:α->Bool}{l:List α}(h:∀(i:Nat) a,i<l.length->l[i]? = some a->p a=false):l.find? p=none:=by
 rw[Cc];intro a c;obtain⟨i,b,e⟩:=AQ.mp c;rw[h i a b (by rw[Aa b,e])];exact AS
theorem find_some{α:Type}{p:α->Bool}{l:List α}{i:Nat}{a:α}(c:l[i]? = some a)(d:p a=true)(h:∀(j:Nat) b,j<i->l[j]? = some b->p b=false):l.find? p=some a:=by
 obtain⟨f,e⟩:=Aj.mp c;rw[Fz];refine⟨d,i,f,e,fun j g => ?_⟩;rw[h j l[j] g (Aa (by omega))];rfl
theorem aiT(x y:Int):decide (V.int x=V.int y)=decide (x=y):=by rw[kJ];rfl
theorem aeL(D:Def K mg "judge_head" adz ["data"])(T:Txt K mg ad)(aF:Fn P w K mg base 1 "read_number" ["data","start","length"] (uD K))(je:Fn P w K mg base 2 "told_size" ["data"] (zG K)):
  Fn P w K mg base 3 "judge_head" ["data"] (aaF K):=by
 refine D.fx ["data","place","length","least","greatest","number"] ?_;rintro v f a6 A S s H vs Q E W ⟨a,c,rfl,r,hB,k⟩;have B:=W.units;refine⟨_,(kxf (kxl (kxL T.cy (pv 0)) (kxG T.ba)) (aP (ab aq (ab (kxL T.cy (pv 0)) ah))) (kxf (fV (agF B) (nN p5 (by rfl) T.acN boot_tuple (ab (iB kG (pv 0) (gQ aq) (gQ aq)) ah)) (kxR T.ahE) (bj _)) (aP (ab aq (ab aq ah))) (az (a8 AJ rfl (yV (kxR T.oF)) (dQ rfl (aL (kxo 1 v) (aL (kxo 2 v) (aL (kxo 3 v) (aL (kxo 4 v) cj))))) (kxs 5 v (kxF aF W (ab (pv 0) (ab (pv 1) (ab (pv 2) ah)))) (aE (cg ((qr (kxl (pv 5) (pv 3)) (jv (kxg (pv 5) (pv 4))))).pt (kxr (aP (ab aq (ab (pv 1) ah)))) aR)))) (kxf (kxn (kxL T.cy (pv 0)) (kxF je W (ab (pv 0) ah))) (aP (ab aq (ab (kxG T.ba) ah))) (kxr (aP ah)))))),?_⟩;unfold aaT at k;have g:∀(H1:Hp)(x y:Int),aM H H1->(∀m p,aM H m->H p=none->m p=some (.lst [.int x,.int y])->Q (.ref p) m)->([V.int x,V.int y].length<=sizeLine/\∀p,H1 p=none->Q (.ref p) (upd H1 p (.lst [.int x,.int y]))) :=
  fun H1 x y C q=>⟨by show 2<=sizeLine;decide,fun p G=>q _ p (C.trans (ak G)) (C.free G) ag⟩
 refine⟨_,rfl,a,_,rfl,.inl r,_,_,rfl,rfl,_,rfl,?_⟩;rw[Ab];refine bX (fun h => ?_) (fun h => ?_)
 ·have h':c.length<20:=by have:=AV h;omega
  rw[As h'] at k;refine⟨_,rfl,a,_,rfl,.inl r,?_⟩;rw[Ab];exact g H _ _ (aM.refl H) k
 ·have h':¬c.length<20:=fun z=>h (AD (by omega))
  rw[Ar h'] at k;refine⟨_,rfl,_,rfl,_,rfl,a,_,rfl,r,fun l hl => ?_⟩;have e0:lI (c.map V.int) (some 0) (some 4)=(c.take 4).map V.int:=by
   have:=tO (c.map V.int) 0 4;rw[CP,F3] at *
   exact this
  rw[e0];refine⟨l,_,rfl,.inl ⟨SqL.of ag,fun t ht => ?_⟩⟩;have C:aM H (upd (upd H l (.lst ((c.take 4).map V.int))) t (.tup ((c.take 4).map V.int))):=(ak hl).trans (ak ht);refine⟨.tuple ((c.take 4).map C5),.tuple (([71,76,65,49]:List Int).map C5),.tup (SqT.of ag) (ue _),.tup (T.sign_is _) (ue [71,76,65,49]),oM _,oM _,_,rfl,?_⟩;have e2:JO (.tuple ((c.take 4).map C5)) (.tuple (([71,76,65,49]:List Int).map C5))=decide (c.take 4=[71,76,65,49]):=vH _ _;rw[e2];generalize upd (upd H l (.lst ((c.take 4).map V.int))) t (.tup ((c.take 4).map V.int))=H1 at *
  refine bX (fun X => ?_) (fun X => ?_)
  ·have Y:c.take 4≠[71,76,65,49]:=by simpa using X
   rw[As Y] at k;exact g H1 _ _ C k
  ·have Y:¬c.take 4≠[71,76,65,49]:=by simpa using X
   rw[Ar Y] at k;obtain⟨Z,a1,a2,a3,a4,a5,hh,t0,t1,t2,t3,t4,t5⟩:=T.heads_are;have I:∀(i:Nat)(x:V),([V.ref Z,.ref a1,.ref a2,.ref a3,.ref a4,.ref a5]:List V)[i]? = some x->∃(q:Ag)(h:Nat×Nat×Int×Int),x=.ref q/\HN[i]? = some h/\oR K q [.int h.1,.int h.2.1,.int h.2.2.1,.int h.2.2.2]:=by
    intro i x d
    match i,d with
    | 0,d=>exact⟨Z,_,(Ah d).symm,rfl,t0⟩
    | 1,d=>exact⟨a1,_,(Ah d).symm,rfl,t1⟩
    | 2,d=>exact⟨a2,_,(Ah d).symm,rfl,t2⟩
    | 3,d=>exact⟨a3,_,(Ah d).symm,rfl,t3⟩
    | 4,d=>exact⟨a4,_,(Ah d).symm,rfl,t4⟩
    | 5,d=>exact⟨a5,_,(Ah d).symm,rfl,t5⟩
    | i+6,d=>simp at d
   refine⟨ad.heads,rfl,⟨_,hh _⟩,uy (K:=K) (a:=ad.heads) (xs := [.ref Z,.ref a1,.ref a2,.ref a3,.ref a4,.ref a5])
    (fun i σ m=>(∃v1 v2 v3 v4 v5,σ=[some (.ref a),v1,v2,v3,v4,v5])/\aM H m/\∀(j:Nat) b,j<i->HN[j]? = some b->uK c b=false) ⟨⟨none,none,none,none,none,rfl⟩,C,fun j _ hj=>absurd hj (Bt j)⟩ (fun i σ m _ _=>hh m) ?_ ?_⟩
   ·rintro i x σ m d ⟨⟨v1,v2,v3,v4,v5,rfl⟩,n,J⟩
    obtain⟨q,h,rfl,M,hq⟩:=I i x d;refine⟨q,_,rfl,hq m,rfl,_,_,rfl,_,_,rfl,_,_,rfl,_,_,rfl,rfl,?_⟩;refine⟨_,rfl,_,rfl,_,rfl,a,c,h.1,h.2.1,rfl,n.seq r,hB,fun R O => ?_⟩;have st:=n.trans O;refine⟨_,rfl,_,rfl,_,_,rfl,rfl,_,rfl,bX (fun z => ?_) (fun z => ?_)⟩
    ·have o:uK c h=true:=by unfold uK;rw[z,Ga]
     rw[find_some M o J] at k;exact jO ⟨_,rfl,g R _ _ st k⟩
    ·refine⟨_,rfl,_,rfl,_,_,rfl,rfl,_,rfl,bX (fun y => ?_) (fun y => ?_)⟩
     ·have o:uK c h=true:=by unfold uK;rw[y,DH]
      rw[find_some M o J] at k;exact⟨_,rfl,g R _ _ st k⟩
     ·refine⟨⟨_,_,_,_,_,rfl⟩,st,fun j b hj e => ?_⟩
      rcases CL.mp hj with u|u
      ·exact J j b u e
      ·rw[u,M] at e
       obtain rfl:=Ah e;unfold uK;rw[Bv] at z y;rw[z,y];rfl
   ·rintro σ m ⟨⟨v1,v2,v3,v4,v5,rfl⟩,n,J⟩
    rw[find_none (fun i b M e=>J i b M e)] at k;refine⟨_,rfl,a,_,rfl,.inl (n.seq r),?_⟩;rw[Ab];refine⟨_,rfl,a,c,rfl,n.seq r,hB,fun R O=>⟨rfl,_,rfl,?_⟩⟩;rw[aiT];refine bX (fun z => ?_) (fun z => ?_)
    ·have z':(c.length:Int)≠20+8*fC c 12 2+4*fC c 14 2+12*fC c 16 2:=by simpa using z
     dsimp only at k;rw[As z'] at k;exact g R _ _ (n.trans O) k
    ·have z':¬(c.length:Int)≠20+8*fC c 12 2+4*fC c 14 2+12*fC c 16 2:=by simpa using z
     dsimp only at k;rw[Ar z'] at k;refine⟨AN _,fun p G=>k _ p ((n.trans O).trans (ak G)) ((n.trans O).free G) ag⟩
end
open Gla (Plan Pt Mark)
section
variable{P:AI}{w:AZ}{K:Lf}{mg:Lg}{base:B1}{ad:Adr}
noncomputable def vN:List V->List (AW×V)
 | [a,b,c,d,e]=>[("width",a),("height",b),("points",c),("lines",d),("marks",e)]
 | _=>[]
noncomputable abbrev zJ:Stmt:=(inClass (top 7) 0)
theorem adF:bD ["self","width","height","points","lines","marks"] ["self","width","height","points","lines","marks"] (aG zJ):=fsc
theorem aeA(D:lK K mg "Drawing" "Drawing.__init__" ad.drawing zJ ["self","width","height","points","lines","marks"] ["width","height","points","lines","marks"]):Kl P w K mg base 1 "Drawing" ad.drawing 5 vN:=by
 have e:=adF.nd;refine D.kl (n:=5) adF rfl (fun f b A a s H p dx us Q E g c d k => ?_);obtain⟨i,j,l,m,o,rfl⟩:=us5 c;refine⟨_,(az (bb (pv 0) (pv 1) rfl) (az (bb (pv 0) (pv 2) rfl) (az (bb (pv 0) (pv 3) rfl) (az (bb (pv 0) (pv 4) rfl) (aE (bb (pv 0) (pv 5) rfl)))))),?_⟩;refine⟨_,rfl,_,rfl,p,_,dx,_,rfl,d,D.cl,D.no _ (by decide +kernel),AL rfl,?_⟩
 iterate 4 (refine⟨_,rfl,_,rfl,p,_,dx,_,rfl,ag,D.cl,D.no _ (by decide +kernel),AL rfl,?_⟩;rw[bQ])
 exact k
noncomputable def tK(p:Pt):List Int := [(p.x:Int),(p.y:Int)]
noncomputable def acC(l:Nat×Nat):List Int := [(l.1:Int),(l.2:Int)]
noncomputable def abT(m:Mark):List Int := [(m.at_.x:Int),(m.at_.y:Int),(m.glass:Int)]
noncomputable def fsD(S:Plan)(a b c:Ag):List (AW×V) := [("width",.int S.w),("height",.int S.h),("points",.ref a),("lines",.ref b),("marks",.ref c)]
structure bW(ad:Adr)(H:Hp)(d:Ag)(S:Plan)(dx lp ll lm:Ag):Prop where
 ob:H d=some (.ins ad.drawing dx (fsD S lp ll lm))
 pts:Rows H lp (S.pts.map tK)
 lns:Rows H ll (S.lines.map acC)
 mks:Rows H lm (S.marks.map abT)
theorem bW.same{H a:Hp}{d dx b c e:Ag}{S:Plan}(h:bW ad H d S dx b c e)(s:aM H a):bW ad a d S dx b c e:=⟨s _ _ h.ob,h.pts.same s,h.lns.same s,h.mks.same s⟩
theorem agm{S:Plan}{a b c:Ag}:(fsD S a b c).lookup ("width" : AW)=some (.int S.w):=by unfold fsD;rfl
theorem ahp{S:Plan}{a b c:Ag}:(fsD S a b c).lookup ("height" : AW)=some (.int S.h):=by unfold fsD;rfl
theorem qR{S:Plan}{a b c:Ag}:(fsD S a b c).lookup ("points" : AW)=some (.ref a):=by unfold fsD;rfl
theorem aca{S:Plan}{a b c:Ag}:(fsD S a b c).lookup ("lines" : AW)=some (.ref b):=by unfold fsD;rfl
theorem ahF{S:Plan}{a b c:Ag}:(fsD S a b c).lookup ("marks" : AW)=some (.ref c):=by unfold fsD;rfl
theorem c8(z:Int):x3 8 z:=.inl ⟨by decide,by decide⟩
theorem c4(z:Int):x3 4 z:=.inl ⟨by decide,by decide⟩
theorem c12(z:Int):x3 12 z:=.inl ⟨by decide,by decide⟩
inductive ads(vs:List V)(H:Hp)(Q:VK)(E:XK):Prop
 | mk (d:Ag)(k:Int)(c0:vs=[.ref d,.int k])(c1:Q (.int (20+8*k)) H)
noncomputable abbrev aiW:Stmt:=(inClass (top 7) 1)
theorem aiH(D:sy K ad.drawing "point_place" "Drawing.point_place" aiW ["self","k"])(T:Txt K mg ad):Me P w K mg base 1 ad.drawing "point_place" ["self","k"] ads:=by
 refine D.fx T.draw.cl ["self","k"] ?_;rintro c f b A a s H vs Q E e ⟨d,k,rfl,q⟩;exact⟨_,(kxr (aV cw (kxG T.ba) (aV dF (kxG T.bJ) (pv 1)))),_,rfl,_,_,rfl,rfl,c8 _,_,_,rfl,rfl,q⟩
inductive afv(ad:Adr)(vs:List V)(H:Hp)(Q:VK)(E:XK):Prop
 | mk (d dx lp ll lm:Ag)(S:Plan)(k:Int)(c0:vs=[.ref d,.int k])(c1:bW ad H d S dx lp ll lm)(c2:Q (.int (20+8*(S.pts.length:Int)+4*k)) H)
noncomputable abbrev aiU:Stmt:=(inClass (top 7) 2)
theorem aia(D:sy K ad.drawing "line_place" "Drawing.line_place" aiU ["self","k"])(T:Txt K mg ad)(c:Me P w K mg base 1 ad.drawing "point_place" ["self","k"] ads):
  Me P w K mg base 2 ad.drawing "line_place" ["self","k"] (afv ad):=by
 refine D.fx T.draw.cl ["self","k"] ?_;rintro m f e A a s H vs Q E g ⟨d,dx,i,n,o,S,k,rfl,b,q⟩;obtain⟨xs,j,l,_⟩:=b.pts.get;refine⟨_,(kxr (aV cw (gF (pv 0) c (g.mono (by decide)) (ab (kxL T.cy (aA (pv 0) rfl)) ah)) (aV dF (kxG T.bR) (pv 1)))),?_⟩;refine⟨_,rfl,d,dx,_,rfl,b.ob,rfl,aaz rfl b.ob T.draw qR ⟨i,xs,rfl,.inl (SqL.of j),d,_,rfl,_,rfl,_,_,rfl,rfl,c4 _,_,_,rfl,rfl,?_⟩⟩;rw[l,Ab];exact q
inductive afy(ad:Adr)(vs:List V)(H:Hp)(Q:VK)(E:XK):Prop
 | mk (d dx lp ll lm:Ag)(S:Plan)(k:Int)(c0:vs=[.ref d,.int k])(c1:bW ad H d S dx lp ll lm)(c2:Q (.int (20+8*(S.pts.length:Int)+4*(S.lines.length:Int)+12*k)) H)
noncomputable abbrev ai0:Stmt:=(inClass (top 7) 3)
theorem ahO(D:sy K ad.drawing "mark_place" "Drawing.mark_place" ai0 ["self","k"])(T:Txt K mg ad)(e:Me P w K mg base 2 ad.drawing "line_place" ["self","k"] (afv ad)):
  Me P w K mg base 3 ad.drawing "mark_place" ["self","k"] (afy ad):=by
 refine D.fx T.draw.cl ["self","k"] ?_;rintro o f g A b s H vs Q E i ⟨d,dx,j,c,l,S,k,rfl,a,q⟩;obtain⟨xs,m,n,_⟩:=a.lns.get;refine⟨_,(kxr (aV cw (gF (pv 0) e (i.mono (by decide)) (ab (kxL T.cy (aA (pv 0) rfl)) ah)) (aV dF (kxG T.ck) (pv 1)))),?_⟩;refine⟨_,rfl,d,dx,_,rfl,a.ob,rfl,aaz rfl a.ob T.draw aca ⟨c,xs,rfl,.inl (SqL.of m),d,dx,j,c,l,S,_,rfl,a,_,rfl,_,_,rfl,rfl,c12 _,_,_,rfl,rfl,?_⟩⟩;rw[n,Ab];exact q
inductive aiD(ad:Adr)(vs:List V)(H:Hp)(Q:VK)(E:XK):Prop
 | mk (d dx lp ll lm:Ag)(S:Plan)(c0:vs=[.ref d])(c1:bW ad H d S dx lp ll lm)(c2:Q (.int (20+8*(S.pts.length:Int)+4*(S.lines.length:Int)+12*(S.marks.length:Int))) H)
noncomputable abbrev aiZ:Stmt:=(inClass (top 7) 4)
theorem ahP(D:sy K ad.drawing "byte_count" "Drawing.byte_count" aiZ ["self"])(T:Txt K mg ad)(e:Me P w K mg base 3 ad.drawing "mark_place" ["self","k"] (afy ad)):
  Me P w K mg base 4 ad.drawing "byte_count" ["self"] (aiD ad):=by
 refine D.fx T.draw.cl ["self"] ?_;rintro o f g A b s H vs Q E i ⟨d,dx,j,l,c,S,rfl,a,q⟩;obtain⟨xs,m,n,_⟩:=a.mks.get;refine⟨_,(kxr (gF (pv 0) e (i.mono (by decide)) (ab (kxL T.cy (aA (pv 0) rfl)) ah))),?_⟩;refine⟨_,rfl,d,dx,_,rfl,a.ob,rfl,aaz rfl a.ob T.draw ahF ⟨c,xs,rfl,.inl (SqL.of m),d,dx,j,l,c,S,_,rfl,a,?_⟩⟩;rw[n,Ab];exact q
inductive aaW(K:Lf)(ad:Adr)(vs:List V)(H:Hp)(Q:VK)(E:XK):Prop
 | mk (a:Ag)(b:List UInt8)(c0:vs=[.ref a])(c1:SqL K H a ((bz b).map V.int))(c2:b.length=20+8*Bs b 12 2+4*Bs b 14 2+12*Bs b 16 2)(c3:∀H' d dx lp ll lm,aM H H'->bW ad H' d (B5 b) dx lp ll lm->Q (.ref d) H')
noncomputable abbrev adB:Stmt:=(top 11)
noncomputable def rowsOf(g:Nat->List Int)(i:Nat):List (List Int):=(An i).map g
theorem i6(g:Nat->List Int)(i:Nat):rowsOf g (i+1)=rowsOf g i++[g i]:=by
 unfold rowsOf;rw[Ce,Ay];rfl
theorem kn(g:Nat->List Int)(i:Nat):(rowsOf g i).length=i:=by
 unfold rowsOf;rw[Ab,AG]
theorem aT{n:Nat}(h:n<65536):n<sizeLine:=by
 have:(65536:Nat)<sizeLine:=by decide
 omega
theorem aet(D:Def K mg "read_drawing" adB ["data"])(T:Txt K mg ad)(X:Fn P w K mg base 1 "read_number" ["data","start","length"] (uD K))(fW:Fn P w K mg base 2 "read_pair" ["data","start","length"] (yz K))(jf:Fn P w K mg base 2 "read_mark" ["data","start"] (zL K))(nR:Kl P w K mg base 1 "Drawing" ad.drawing 5 vN):Fn P w K mg base 3 "read_drawing" ["data"] (aaW K ad):=by
 refine D.fx ["data","lines_start","marks_start","k","points","lines","marks"] ?_;rintro n f a3 A Z s H vs Q E o ⟨a,b,rfl,q,a0,k⟩;refine⟨_,(kxs 1 n (aV cw (kxG T.ba) (aV dF (kxG T.bJ) (kxF X o (ab (pv 0) (ab aq (ab aq ah)))))) (kxs 2 n (aV cw (pv 1) (aV dF (kxG T.bR) (kxF X o (ab (pv 0) (ab aq (ab aq ah)))))) (az (da (i:=4) rfl n rfl rfl rfl (js (by rfl) T.eM (ab (kxG T.ba) (ab (pv 1) (ab (kxG T.bJ) ah)))) (d4 (own := [("k",3)]) rfl) (fun _ _ _ _ _=>(kxo 3 n)) (fun _ _ _ _ _=>cP) (fun _ _ _ _ _=>(kxF fW o (ab (pv 0) (ab (pv 3) (ab aq ah)))))) (az (da (i:=5) rfl n rfl rfl rfl (js (by rfl) T.eM (ab (pv 1) (ab (pv 2) (ab (kxG T.bR) ah)))) (d4 (own := [("k",3)]) rfl) (fun _ _ _ _ _=>(kxo 3 n)) (fun _ _ _ _ _=>cP) (fun _ _ _ _ _=>(kxF fW o (ab (pv 0) (ab (pv 3) (ab aq ah)))))) (az (da (i:=6) rfl n rfl rfl rfl (js (by rfl) T.eM (ab (pv 2) (ab (kxL T.cy (pv 0)) (ab (kxG T.ck) ah)))) (d4 (own := [("k",3)]) rfl) (fun _ _ _ _ _=>(kxo 3 n)) (fun _ _ _ _ _=>cP) (fun _ _ _ _ _=>(kxF jf o (ab (pv 0) (ab (pv 3) ah))))) (kxr (kxK nR o (ab (kxF X o (ab (pv 0) (ab aq (ab aq ah)))) (ab (kxF X o (ab (pv 0) (ab aq (ab aq ah)))) (ab (pv 4) (ab (pv 5) (ab (pv 6) ah)))))))))))),?_⟩;have nP:=iS b 12;have nL:=iS b 14;have nM:=iS b 16;refine⟨_,rfl,a,bz b,12,2,rfl,q,mf b,fun H1 s1=>⟨_,_,rfl,rfl,c8 _,_,_,rfl,rfl,?_⟩⟩;refine⟨_,rfl,_,rfl,a,bz b,14,2,rfl,s1.seq q,mf b,fun H2 s2=>⟨_,_,rfl,rfl,c4 _,_,_,rfl,rfl,?_⟩⟩;have sA:=s1.trans s2;rw[jc,jc];generalize hP:Bs b 12 2=c at *
 generalize hL:Bs b 14 2=g at *
 generalize hM:Bs b 16 2=z at *
 refine⟨_,rfl,_,_,_,c,rfl,rgc (.inr (.inl rfl)) (by decide) (by omega),fun Dp B => ?_⟩;refine iW (J:=Itc _ _ c) Dp c (fun i l=>aM H2 l/\Rows l Dp (rowsOf (fun j=>[fC (bz b) (20+8*j) 4,fC (bz b) (20+8*j+4) 4]) i)) ⟨ak B,.nil ag⟩ (fun i l r _=>r) ?_ ?_
 ·rintro i x l C r ⟨Y,R⟩ ⟨rfl,rfl⟩
  refine⟨rfl,ke ?_⟩;refine⟨_,rfl,_,rfl,a,bz b,20+8*i,4,?_,(sA.trans Y).seq q,mf b,fun H3 p s3 G => ?_⟩
  ·have:(20:Int)+(i:Int)*8=((20+8*i:Nat):Int):=by omega
   rw[this];rfl
  ·have u:=R.same s3
   obtain⟨acc,v,m⟩:=u.lst;refine⟨acc,v,aT (by rw[m,kn];omega),aI (Y.trans s3) B,?_⟩;rw[i6];exact u.snoc v G
 ·rintro H3 ⟨Y,RP⟩
  refine⟨Ak _,?_⟩;have sC:=sA.trans Y;refine⟨_,rfl,_,rfl,_,_,_,g,rfl,rgc (.inl rfl) (by omega) (by omega),fun I M => ?_⟩;refine iW (J:=Itc _ _ g) I g (fun i l=>aM H3 l/\Rows l I (rowsOf (fun j=>[fC (bz b) (20+8*c+4*j) 2,fC (bz b) (20+8*c+4*j+2) 2]) i)) ⟨ak M,.nil ag⟩ (fun i l r _=>r) ?_ ?_
  ·rintro i x l C r ⟨O,R⟩ ⟨rfl,rfl⟩
   refine⟨rfl,ke ?_⟩;refine⟨_,rfl,_,rfl,a,bz b,20+8*c+4*i,2,?_,(sC.trans O).seq q,mf b,fun H4 p s4 G => ?_⟩
   ·have:(20:Int)+8*(c:Int)+(i:Int)*4=((20+8*c+4*i:Nat):Int):=by omega
    rw[this];rfl
   ·have u:=R.same s4
    obtain⟨acc,v,m⟩:=u.lst;refine⟨acc,v,aT (by rw[m,kn];omega),aI (O.trans s4) M,?_⟩;rw[i6];exact u.snoc v G
  ·rintro H4 ⟨O,RL⟩
   refine⟨Ak _,?_⟩;have sE:=sC.trans O;refine⟨_,rfl,_,rfl,a,_,rfl,.inl (sE.seq q),_,_,_,z,rfl,?_,fun S W => ?_⟩
   ·have:(((bz b).map V.int).length:Int)=20+8*(c:Int)+4*(g:Int)+12*(z:Int):=by
     rw[Ab];unfold bz;rw[Ab];omega
    rw[this];exact rgc (.inr (.inr rfl)) (by omega) (by omega)
   refine iW (J:=Itc _ _ z) S z (fun i l=>aM H4 l/\Rows l S (rowsOf (fun j=>[fC (bz b) (20+8*c+4*g+12*j) 4,fC (bz b) (20+8*c+4*g+12*j+4) 4,fC (bz b) (20+8*c+4*g+12*j+8) 2]) i)) ⟨ak W,.nil ag⟩ (fun i l r _=>r) ?_ ?_
   ·rintro i x l C r ⟨y,R⟩ ⟨rfl,rfl⟩
    refine⟨rfl,ke ?_⟩;refine⟨_,rfl,_,rfl,a,bz b,20+8*c+4*g+12*i,?_,(sE.trans y).seq q,mf b,fun H5 p s5 G => ?_⟩
    ·have:(20:Int)+8*(c:Int)+4*(g:Int)+(i:Int)*12=((20+8*c+4*g+12*i:Nat):Int):=by omega
     rw[this];rfl
    ·have u:=R.same s5
     obtain⟨acc,v,m⟩:=u.lst;refine⟨acc,v,aT (by rw[m,kn];omega),aI (y.trans s5) W,?_⟩;rw[i6];exact u.snoc v G
   ·rintro H5 ⟨y,RM⟩
    refine⟨Ak _,?_⟩;have sG:=sE.trans y;refine⟨_,rfl,a,bz b,4,4,rfl,sG.seq q,mf b,fun H6 s6 => ?_⟩;refine⟨_,rfl,a,bz b,8,4,rfl,(sG.trans s6).seq q,mf b,fun H7 s7 => ?_⟩;refine⟨_,rfl,_,rfl,_,rfl,vv rfl fun d dx n1 n2 ne => ?_⟩;have s8:aM H7 (upd (upd H7 dx (.own d)) d (.ins ad.drawing dx (vN [.int (fC (bz b) 4 4),.int (fC (bz b) 8 4),.ref Dp,.ref I,.ref S]))) :=
     aI (ak n2) n1
    have s9:aM H5 (upd (upd H7 dx (.own d)) d (.ins ad.drawing dx (vN [.int (fC (bz b) 4 4),.int (fC (bz b) 8 4),.ref Dp,.ref I,.ref S]))):=(s6.trans s7).trans s8;refine k _ d dx Dp I S ((sG.trans (s6.trans s7)).trans s8) ⟨?_,?_,?_,?_⟩
    ·rw[ag,jc,jc]
     rfl
    ·have e:(B5 b).pts.map tK=rowsOf (fun j=>[fC (bz b) (20+8*j) 4,fC (bz b) (20+8*j+4) 4]) c:=by
      unfold B5 rowsOf;dsimp only;rw[hP,Bd];refine DM fun j _ => ?_;rw[jc,jc];rfl
     rw[e];exact RP.same ((O.trans y).trans s9)
    ·have e:(B5 b).lines.map acC=rowsOf (fun j=>[fC (bz b) (20+8*c+4*j) 2,fC (bz b) (20+8*c+4*j+2) 2]) g:=by
      unfold B5 rowsOf;dsimp only;rw[hP,hL,Bd];refine DM fun j _ => ?_;rw[jc,jc];rfl
     rw[e];exact RL.same (y.trans s9)
    ·have e:(B5 b).marks.map abT=rowsOf (fun j=>[fC (bz b) (20+8*c+4*g+12*j) 4,fC (bz b) (20+8*c+4*g+12*j+4) 4,fC (bz b) (20+8*c+4*g+12*j+8) 2]) z:=by
      unfold B5 rowsOf;dsimp only;rw[hP,hL,hM,Bd];refine DM fun j _ => ?_;rw[jc,jc,jc];rfl
     rw[e];exact RM.same s9
end
theorem abp{K:Lf}{σ:L2.St}{H:Hp}{Q:VK}{i j m:Nat}{a:Ag}{xs:List V}{v:V}(b:σ[i]? = some (some (.ref a)))(c:σ[j]? = some (some (.int (m:Int))))(d:H a=some (.lst xs))(e:xs[m]? = some v)(h:Q v H):
  tOp (ae2 K) (qd i) (qd j) σ H Q:=⟨_,b,_,c,_,_,_,_,rfl,rfl,SqL.of d,aQ e,h⟩
structure PL(H:Hp)(a:Ag)(pts:List Pt)(xs:List V):Prop where
 lst:H a=some (.lst xs)
 len:xs.length=pts.length
 at_:∀i,i<pts.length->∃p,xs[i]? = some (.ref p)/\H p=some (.tup [.int ((pts.getD i ⟨0,0⟩).x:Int),.int ((pts.getD i ⟨0,0⟩).y:Int)])
theorem Rows.pts{H:Hp}{a:Ag}{pts:List Pt}(h:Rows H a (pts.map tK)):∃xs,PL H a pts xs:=by
 obtain⟨xs,b,c,d⟩:=h.get;refine⟨xs,b,by rw[c,Ab],fun i e => ?_⟩;obtain⟨p,e1,f⟩:=d i (tK (pts.getD i ⟨0,0⟩)) (by rw[Av,Az,Aa e];rfl);exact⟨p,e1,f⟩
def SmP(pts:List Pt):Prop:=∀p∈pts,p.x<4294967296/\p.y<4294967296
theorem SmP.at_{pts:List Pt}(h:SmP pts)(i:Nat):Sm ((pts.getD i ⟨0,0⟩).x:Int)/\Sm ((pts.getD i ⟨0,0⟩).y:Int):=by
 unfold Sm;rw[Az];cases e:pts[i]? with
 | none=>exact⟨⟨by decide,by decide⟩,by decide,by decide⟩
 | some p =>
  have:=h p (AE e);simp only[GY];omega
noncomputable def tnI(pts:List Pt)(i j k:Nat):Int:=CF (pts.getD i ⟨0,0⟩) (pts.getD j ⟨0,0⟩) (pts.getD k ⟨0,0⟩)
theorem mM{K:Lf}{H:Hp}{pts:List Pt}{i j k:Nat}{p q r:Ag}{Q:VK}(sm:SmP pts)(a:H p=some (.tup [.int ((pts.getD i ⟨0,0⟩).x:Int),.int ((pts.getD i ⟨0,0⟩).y:Int)]))(b:H q=some (.tup [.int ((pts.getD j ⟨0,0⟩).x:Int),.int ((pts.getD j ⟨0,0⟩).y:Int)]))(c:H r=some (.tup [.int ((pts.getD k ⟨0,0⟩).x:Int),.int ((pts.getD k ⟨0,0⟩).y:Int)]))(h:Q (.int (tnI pts i j k)) H):
  mX K [.ref p,.ref q,.ref r] H Q E0 :=
 ⟨p,q,r,_,_,_,_,_,_,rfl,.of2 a,.of2 b,.of2 c,(sm.at_ i).1,(sm.at_ i).2,(sm.at_ j).1,(sm.at_ j).2,h⟩
section
variable{P:AI}{w:AZ}{K:Lf}{mg:Lg}{base:B1}{ad:Adr}
noncomputable def lQ(pts:List Pt)(h t o b:Nat):Bool :=
 if (decide (0<tnI pts h t o))≠(decide (0<tnI pts h t b)) then decide (0<tnI pts h t o) else decide (0<tnI pts o t b)
inductive aai(vs:List V)(H:Hp)(Q:VK)(E:XK):Prop
 | mk (a:Ag)(pts:List Pt)(xs:List V)(h t o b:Nat)(c0:vs=[.ref a,.int h,.int t,.int o,.int b])(c1:PL H a pts xs)(c2:SmP pts)(c3:h<pts.length)(c4:t<pts.length)(c5:o<pts.length)(c6:b<pts.length)(c7:Q (.bl (lQ pts h t o b)) H)
noncomputable abbrev adt:Stmt:=(top 23)
theorem ajg(x y:Bool):decide (V.bl x=V.bl y)=decide (x=y):=by rw[yF];cases x <;> cases y <;> rfl
theorem adR(D:Def K mg "is_more_left" adt ["points","here","there","other","best"])(c:Fn P w K mg base 1 "turn" ["p","q","r"] (mX K)):Fn P w K mg base 2 "is_more_left" ["points","here","there","other","best"] aai:=by
 refine D.fx ["points","here","there","other","best","other_is_left","best_is_left"] ?_;rintro j f u A d s H vs Q E e ⟨a,pts,xs,h,t,o,b,rfl,pl,sm,hh,v,y,B,k⟩;obtain⟨C,l,m⟩:=pl.at_ h hh;obtain⟨G,g,i⟩:=pl.at_ t v;obtain⟨po,n,p⟩:=pl.at_ o y;obtain⟨pb,q,r⟩:=pl.at_ b B;refine⟨_,(kxs 5 j (bg lJ (kxF c e (ab (kxI (pv 0) (pv 1)) (ab (kxI (pv 0) (pv 2)) (ab (kxI (pv 0) (pv 3)) ah)))) aq (bj _)) (kxs 6 j (bg lJ (kxF c e (ab (kxI (pv 0) (pv 1)) (ab (kxI (pv 0) (pv 2)) (ab (kxI (pv 0) (pv 4)) ah)))) aq (bj _)) (kxf (kxn (pv 5) (pv 6)) (pv 5) (kxr (bg lJ (kxF c e (ab (kxI (pv 0) (pv 3)) (ab (kxI (pv 0) (pv 2)) (ab (kxI (pv 0) (pv 4)) ah)))) aq (bj _)))))),?_⟩;refine abp rfl rfl pl.lst l (abp rfl rfl pl.lst g (abp rfl rfl pl.lst n (xZ <| mM sm m i p ⟨_,_,rfl,rfl,?_⟩)));refine abp rfl rfl pl.lst l (abp rfl rfl pl.lst g (abp rfl rfl pl.lst q (xZ <| mM sm m i r ⟨_,_,rfl,rfl,?_⟩)));refine⟨_,rfl,_,rfl,rfl,_,rfl,?_⟩;rw[ajg];unfold lQ at k;refine bX (fun z => ?_) (fun z => ?_)
 ·rw[As (by simpa using z)] at k
  exact⟨_,rfl,k⟩
 ·rw[Ar (by simpa using z)] at k
  exact abp rfl rfl pl.lst n (abp rfl rfl pl.lst g (abp rfl rfl pl.lst q (xZ <| mM sm p i r ⟨_,_,rfl,rfl,k⟩)))
noncomputable def kW(pts:List Pt)(h t:Nat)(a:Option Nat)(o:Nat):Option Nat :=
 if o=h then a else match a with
  | none=>some o
  | some b=>if lQ pts h t o b=true then some o else some b
noncomputable def abl:Option Nat->V
 | none=>.non
 | some n=>.int (n:Int)
noncomputable def fG(n:Nat):V:=.int (n:Int)
noncomputable def ae1(pts:List Pt)(a:List Nat)(h t:Nat):Option Nat:=a.foldl (kW pts h t) none
theorem adG(pts:List Pt)(h t:Nat):∀(a:List Nat)(b:Option Nat)(c:Nat),a.foldl (kW pts h t) b=some c->b=some c\/c∈a
 | [],b,c,e=>.inl e
 | o::r,b,c,e=>by
  rcases adG pts h t r _ c e with z|z
  ·unfold kW at z
   by_cases q:o=h
   ·rw[As q] at z;exact .inl z
   ·rw[Ar q] at z
    cases b with
    | none=>injection z with z;exact .inr (z▸Ad ..)
    | some b =>
     dsimp only at z
     by_cases y:lQ pts h t o b=true
     ·rw[As y] at z;injection z with z;exact .inr (z▸Ad ..)
     ·rw[Ar y] at z;exact .inl z
  ·exact .inr (Ac _ z)
inductive ah9(vs:List V)(H:Hp)(Q:VK)(E:XK):Prop
 | mk (a l:Ag)(pts:List Pt)(xs:List V)(os:List Nat)(h t:Nat)(c0:vs=[.ref a,.ref l,.int h,.int t])(c1:PL H a pts xs)(c2:SmP pts)(c3:H l=some (.lst (os.map fG)))(c4:h<pts.length)(c5:t<pts.length)(c6:(∀o∈os,o<pts.length))(c7:Q (abl (ae1 pts os h t)) H)
noncomputable abbrev ajh:Stmt:=(top 22)
theorem take_snoc{α:Type}{l:List α}{i:Nat}{x:α}(h:l[i]? = some x):l.take (i+1)=l.take i++[x]:=by
 obtain⟨a,e⟩:=Aj.mp h;rw[List.take_succ,h];rfl
theorem ajs(x y:Nat):decide (V.int (x:Int)=V.int (y:Int))=decide (x=y):=by
 rw[aiT]
 by_cases h:x=y
 ·subst h;simp
 ·rw[AR h,AR (by omega)]
theorem nG{a:List Nat}{i:Nat}{x:V}(h:(a.map fG)[i]? = some x):∃o,a[i]? = some o/\x=.int (o:Int):=by
 rw[Av] at h;cases e:a[i]? with
 | none=>rw[e] at h;cases h
 | some o=>rw[e] at h;exact⟨o,rfl,(Ah h).symm⟩
theorem aiu(D:Def K mg "leftmost" ajh ["points","others","here","there"])(u:Fn P w K mg base 2 "is_more_left" ["points","here","there","other","best"] aai):Fn P w K mg base 3 "leftmost" ["points","others","here","there"] ah9:=by
 refine D.fx ["points","others","here","there","best","other"] ?_;rintro m f B A n s H vs Q E C ⟨a,l,pts,xs,d,h,t,rfl,pl,sm,p,hh,G,q,k⟩;refine⟨_,(kxs 4 m eI (az (a8 AJ rfl (aY (pv 1)) (kxo 5 m) (aE (cg ((k9 (kxn (pv 5) (pv 2)) (gD ((qr (gg (afS (pv 4))) (jv (aX (kxF u C (ab (pv 0) (ab (pv 2) (ab (pv 3) (ab (pv 5) (ab (pv 4) ah)))))) (fun _=>rfl))))).pt))).pt (aE (oW (i:=4) m rfl (IA rfl) (pv 5))) aR))) (kxr (pv 4)))),?_⟩;refine⟨_,rfl,l,rfl,⟨_,SqL.of p⟩,bB (K:=K) (a:=l) (xs:=d.map fG) (fun i σ j=>(∃v,σ=[some (.ref a),some (.ref l),some (.int h),some (.int t),some (abl (ae1 pts (d.take i) h t)),v])/\j=H)
  ⟨⟨none,rfl⟩,rfl⟩ (fun i σ j _ ⟨_,e⟩=>by rw[e];exact SqL.of p) ?_ ?_⟩
 ·rintro i x σ j I ⟨⟨v,rfl⟩,rfl⟩
  obtain⟨o,r,rfl⟩:=nG I;have J:=q o (AE r);have c:∀b,kW pts h t (ae1 pts (d.take i) h t) o=b->ae1 pts (d.take (i+1)) h t=b:=by
   intro b e;unfold ae1 at *
   rw[take_snoc r,El];exact e
  refine⟨_,rfl,_,rfl,rfl,_,rfl,?_⟩;rw[ajs];refine bX (fun z => ?_) (fun z => ?_)
  ·have g:¬o=h:=by simpa using z
   cases eb:ae1 pts (d.take i) h t with
   | none =>
    rw[eb] at c;refine⟨_,rfl,_,rfl,jO (jO ⟨_,rfl,⟨some (V.int (o:Int)),?_⟩,rfl⟩)⟩;rw[c (some o) (by unfold kW;rw[Ar g])];rfl
   | some b =>
    rw[eb] at c;have M:b<pts.length:=by
     rcases adG pts h t _ _ b eb with y|y
     ·cases y
     ·exact q b (FA y)
    refine⟨_,rfl,_,rfl,jt ⟨_,rfl,_,rfl,_,rfl,_,rfl,_,rfl,a,pts,xs,h,t,o,b,rfl,pl,sm,hh,G,J,M,_,rfl,bX (fun y => ?_) (fun y => ?_)⟩⟩
    ·refine⟨_,rfl,⟨some (V.int (o:Int)),?_⟩,rfl⟩
     rw[c (some o) (by unfold kW;rw[Ar g];dsimp only;rw[As y])];rfl
    ·refine⟨⟨some (V.int (o:Int)),?_⟩,rfl⟩
     rw[c (some b) (by unfold kW;rw[Ar g];dsimp only;rw[Ar y])];rfl
  ·have g:o=h:=by simpa using z
   refine jt ⟨⟨some (V.int (o:Int)),?_⟩,rfl⟩;rw[c _ (by unfold kW;rw[As g])];rfl
 ·rintro σ j ⟨⟨v,rfl⟩,rfl⟩
  rw[Ab,BG];exact⟨_,rfl,k⟩
inductive uN(K:Lf)(vs:List V)(H:Hp)(Q:VK)(E:XK):Prop
 | mk (c a b:Ag)(rx ry px py qx qy:Int)(c0:vs=[.ref c,.ref a,.ref b])(c1:wB K H c rx ry)(c2:wB K H a px py)(c3:wB K H b qx qy)(c4:Sm px)(c5:Sm py)(c6:Sm qx)(c7:Sm qy)(c8:Q (.bl (if py<qy then decide (0<oh px py qx qy rx ry) else decide (oh px py qx qy rx ry<0))) H)
noncomputable abbrev aaj:Stmt:=(top 27)
theorem abB(D:Def K mg "is_right_of" aaj ["mark","p","q"])(i:Fn P w K mg base 1 "turn" ["p","q","r"] (mX K)):Fn P w K mg base 2 "is_right_of" ["mark","p","q"] (uN K):=by
 refine D.fx ["mark","p","q"] ?_;rintro R f G A d s H vs Q E j ⟨c,a,b,l,m,n,o,p,q,rfl,r,e,g,u,v,B,C,k⟩;obtain⟨xs,I,S,J⟩:=id e;obtain⟨ys,M,T,O⟩:=id g;refine⟨_,(kxf (kxg (kxT (pv 2) aq) (kxT (pv 1) aq)) (bg lJ (kxF i j (ab (pv 1) (ab (pv 2) (ab (pv 0) ah)))) aq (bj _)) (kxr (bg xH (kxF i j (ab (pv 1) (ab (pv 2) (ab (pv 0) ah)))) aq (bj _)))),?_⟩;refine dO rfl M O (dO rfl I J ⟨_,_,rfl,rfl,_,rfl,bX (fun z => ?_) (fun z => ?_)⟩)
 ·rw[As (AV z)] at k
  exact⟨_,rfl,_,rfl,_,rfl,a,b,c,n,o,p,q,l,m,rfl,e,g,r,u,v,B,C,_,_,rfl,rfl,k⟩
 ·rw[Ar (fun y=>z (AD y))] at k
  exact⟨_,rfl,_,rfl,_,rfl,a,b,c,n,o,p,q,l,m,rfl,e,g,r,u,v,B,C,_,_,rfl,rfl,k⟩
end
def afx(H:Hp)(b:Ag)(i j:Nat):Prop:=H b=some (.tup [.int (i:Int),.int (j:Int)])
theorem acR{K:Lf}{σ:L2.St}{H:Hp}{Q:VK}{i j m c:Nat}{a b:Ag}{xs ys:List V}{v:V}{n:Int}(d:σ[i]? = some (some (.ref a)))(f:σ[j]? = some (some (.ref b)))(g:H a=some (.lst xs))(l:H b=some (.tup ys))(o:ys[c]? = some (.int (m:Int)))(p:xs[m]? = some v)(h:Q v H)(e:n=(c:Int):=by rfl):tOp (ae2 K) (qd i) (tOp (ags K) (qd j) (tC (.int n))) σ H Q :=
 ⟨_,d,_,f,_,_,_,_,rfl,rfl,SqT.of l,by rw[e];exact aQ o,_,_,_,_,rfl,rfl,SqL.of g,aQ p,h⟩
section
variable{P:AI}{w:AZ}{K:Lf}{mg:Lg}{base:B1}{ad:Adr}
noncomputable def qS(pts:List Pt)(i j k l:Nat):Bool:=(decide (tnI pts i j k<0)&&decide (0<tnI pts i j l))||(decide (0<tnI pts i j k)&&decide (tnI pts i j l<0))
inductive tG(vs:List V)(H:Hp)(Q:VK)(E:XK):Prop
 | mk (a b c:Ag)(pts:List Pt)(xs:List V)(i j k l:Nat)(c0:vs=[.ref a,.ref b,.ref c])(c1:PL H a pts xs)(c2:SmP pts)(c3:afx H b i j)(c4:afx H c k l)(c5:i<pts.length)(c6:j<pts.length)(c7:k<pts.length)(c8:l<pts.length)(c9:Q (.bl (qS pts i j k l)) H)
noncomputable abbrev ym:Stmt:=(top 36)
theorem acp(D:Def K mg "parts" ym ["points","line","other"])(g:Fn P w K mg base 1 "turn" ["p","q","r"] (mX K)):Fn P w K mg base 2 "parts" ["points","line","other"] tG:=by
 refine D.fx ["points","line","other","first","second"] ?_;rintro m f C A e s H vs Q E n ⟨a,b,c,pts,xs,i,j,k,l,rfl,pl,sm,d,o,G,I,J,M,q⟩;obtain⟨X,p,r⟩:=pl.at_ i G;obtain⟨Y,v,B⟩:=pl.at_ j I;obtain⟨Z,O,R⟩:=pl.at_ k J;obtain⟨S,T,W⟩:=pl.at_ l M;refine⟨_,(kxs 3 m (kxF g n (ab (kxI (pv 0) (kxT (pv 1) aq)) (ab (kxI (pv 0) (kxT (pv 1) aq)) (ab (kxI (pv 0) (kxT (pv 2) aq)) ah)))) (kxs 4 m (kxF g n (ab (kxI (pv 0) (kxT (pv 1) aq)) (ab (kxI (pv 0) (kxT (pv 1) aq)) (ab (kxI (pv 0) (kxT (pv 2) aq)) ah)))) (kxr (aeK (gI (bg xH (pv 3) aq (bj _)) (gv (bg lJ (pv 4) aq (bj _)))) (gv (gI (bg lJ (pv 3) aq (bj _)) (gv (bg xH (pv 4) aq (bj _))))))))),?_⟩;refine acR (c:=0) rfl rfl pl.lst d rfl p (acR (c:=1) rfl rfl pl.lst d rfl v (acR (c:=0) rfl rfl pl.lst o rfl O (xZ <| mM sm r B R ?_)));refine acR (c:=0) rfl rfl pl.lst d rfl p (acR (c:=1) rfl rfl pl.lst d rfl v (acR (c:=1) rfl rfl pl.lst o rfl T (xZ <| mM sm r B W ?_)));unfold qS at q;refine⟨_,rfl,_,_,rfl,rfl,_,rfl,bX (fun z => ?_) (fun z => ?_)⟩
 ·rw[z,BW] at q
  refine⟨_,rfl,_,_,rfl,rfl,_,rfl,bX (fun y => ?_) (fun y => ?_)⟩
  ·rw[y,Ga] at q;exact q
  ·rw[Bv] at y
   rw[y,F2] at q;refine⟨_,rfl,_,_,rfl,rfl,_,rfl,bX (fun u => ?_) (fun u => ?_)⟩
   ·rw[u,BW] at q
    exact⟨_,rfl,_,_,rfl,rfl,q⟩
   ·rw[Bv] at u
    rw[u,Bp] at q;exact q
 ·rw[Bv] at z
  rw[z,Bp,F2] at q;refine⟨_,rfl,jt ?_⟩;refine⟨_,rfl,_,_,rfl,rfl,_,rfl,bX (fun u => ?_) (fun u => ?_)⟩
  ·rw[u,BW] at q
   exact⟨_,rfl,_,_,rfl,rfl,q⟩
  ·rw[Bv] at u
   rw[u,Bp] at q;exact q
noncomputable def oZ(pts:List Pt)(i j k l:Nat):Bool:=qS pts i j k l&&qS pts k l i j
inductive uu(vs:List V)(H:Hp)(Q:VK)(E:XK):Prop
 | mk (a b c:Ag)(pts:List Pt)(xs:List V)(i j k l:Nat)(c0:vs=[.ref a,.ref b,.ref c])(c1:PL H a pts xs)(c2:SmP pts)(c3:afx H b i j)(c4:afx H c k l)(c5:i<pts.length)(c6:j<pts.length)(c7:k<pts.length)(c8:l<pts.length)(c9:Q (.bl (oZ pts i j k l)) H)
noncomputable abbrev aaN:Stmt:=(top 35)
theorem acA(D:Def K mg "crosses" aaN ["points","line","other"])(e:Fn P w K mg base 2 "parts" ["points","line","other"] tG):Fn P w K mg base 3 "crosses" ["points","line","other"] uu:=by
 refine D.fx ["points","line","other"] ?_;rintro y f v A d s H vs Q E g ⟨a,b,c,pts,xs,i,j,k,l,rfl,pl,sm,m,n,o,p,r,u,q⟩;refine⟨_,(kxr (gI (kxF e g (ab (pv 0) (ab (pv 1) (ab (pv 2) ah)))) (gv (kxF e g (ab (pv 0) (ab (pv 2) (ab (pv 1) ah))))))),?_⟩;unfold oZ at q;refine⟨_,rfl,_,rfl,_,rfl,a,b,c,pts,xs,i,j,k,l,rfl,pl,sm,m,n,o,p,r,u,_,rfl,bX (fun z => ?_) (fun z => ?_)⟩
 ·rw[z,BW] at q
  exact⟨_,rfl,_,rfl,_,rfl,a,c,b,pts,xs,k,l,i,j,rfl,pl,sm,n,m,r,u,o,p,q⟩
 ·rw[Bv] at z
  rw[z,Bp] at q;exact q
noncomputable def onI(pts:List Pt)(k i j:Nat):Bool:=onZ (pts.getD k ⟨0,0⟩).x (pts.getD k ⟨0,0⟩).y (pts.getD i ⟨0,0⟩).x (pts.getD i ⟨0,0⟩).y (pts.getD j ⟨0,0⟩).x (pts.getD j ⟨0,0⟩).y
noncomputable def yD(pts:List Pt)(i j:Nat):Bool:=(An (j-(i+1))).any fun d=>onI pts (i+1+d) i j
inductive afd(vs:List V)(H:Hp)(Q:VK)(E:XK):Prop
 | mk (a b:Ag)(pts:List Pt)(xs:List V)(i j:Nat)(c0:vs=[.ref a,.ref b])(c1:PL H a pts xs)(c2:SmP pts)(c3:afx H b i j)(c4:i<j)(c5:j<pts.length)(c6:pts.length<65536)(c7:Q (.bl (yD pts i j)) H)
noncomputable abbrev ahd:Stmt:=(top 33)
theorem dR{n:Nat}{p:Nat->Bool}(h:∀i,i<n->p i=false):(An n).any p=false:=by
 rw[Eh];intro i a;rw[h i (A6.mp a)];exact AS
theorem eX{n i:Nat}{p:Nat->Bool}(h:i<n)(a:p i=true):(An n).any p=true:=BM.mpr ⟨i,A6.mpr h,a⟩
theorem ahY{K:Lf}{H:Hp}{pts:List Pt}{i j k:Nat}{p q r:Ag}{Q:VK}(sm:SmP pts)(a:H r=some (.tup [.int ((pts.getD k ⟨0,0⟩).x:Int),.int ((pts.getD k ⟨0,0⟩).y:Int)]))(b:H p=some (.tup [.int ((pts.getD i ⟨0,0⟩).x:Int),.int ((pts.getD i ⟨0,0⟩).y:Int)]))(c:H q=some (.tup [.int ((pts.getD j ⟨0,0⟩).x:Int),.int ((pts.getD j ⟨0,0⟩).y:Int)]))(h:Q (.bl (onI pts k i j)) H):
  aga K [.ref r,.ref p,.ref q] H Q E0 :=
 ⟨r,p,q,_,_,_,_,_,_,rfl,.of2 a,.of2 b,.of2 c,(sm.at_ i).1,(sm.at_ i).2,(sm.at_ j).1,(sm.at_ j).2,h⟩
theorem ahe(D:Def K mg "has_point_on_it" ahd ["points","line"])(T:Txt K mg ad)(o:Fn P w K mg base 2 "is_on" ["r","p","q"] (aga K)):Fn P w K mg base 3 "has_point_on_it" ["points","line"] afd:=by
 refine D.fx ["points","line","k"] ?_;rintro p f r A l s H vs Q E y ⟨a,b,pts,xs,i,j,rfl,pl,sm,g,B,C,W,q⟩;obtain⟨X,G,I⟩:=pl.at_ i (by omega);obtain⟨Y,J,M⟩:=pl.at_ j C;refine⟨_,(az (a8 AJ rfl (y9 (by rfl) T.eM (ab (aV cw (kxT (pv 1) aq) aq) (ab (kxT (pv 1) aq) ah))) (kxo 2 p) (aE (cg (aX (kxF o y (ab (kxI (pv 0) (pv 2)) (ab (kxI (pv 0) (kxT (pv 1) aq)) (ab (kxI (pv 0) (kxT (pv 1) aq)) ah)))) (fun _=>rfl)) (kxr iF) aR))) (kxr iF)),?_⟩;refine dO (j:=0) rfl (SqT.of g) rfl ⟨_,_,rfl,rfl,dO (j:=1) rfl (SqT.of g) rfl ⟨_,_,rfl,⟨by omega,by omega,by omega,by omega⟩,?_⟩⟩;rw[show((j:Int)-((i:Int)+1)).toNat=j-(i+1) by omega];refine mP (fun d σ m=>(∃v,σ=[some (.ref a),some (.ref b),v])/\m=H/\∀e,e<d->onI pts (i+1+e) i j=false) ⟨⟨none,rfl⟩,rfl,fun e he=>absurd he (Bt e)⟩ ?_ ?_
 ·rintro d σ m O ⟨⟨v,rfl⟩,rfl,n⟩
  obtain⟨Z,R,S⟩:=pl.at_ (i+1+d) (by omega);have e1:((i:Int)+1+(d:Int))=((i+1+d:Nat):Int):=by omega
  rw[e1];refine abp rfl rfl pl.lst R (acR (c:=0) rfl rfl pl.lst g rfl G (acR (c:=1) rfl rfl pl.lst g rfl J (xZ <| ahY sm S I M ⟨_,rfl,bX (fun z => ?_) (fun z => ?_)⟩)))
  ·unfold yD at q
   rw[eX O z] at q;exact q
  ·refine⟨⟨_,rfl⟩,rfl,fun e he => ?_⟩
   rcases CL.mp he with u|u
   ·exact n e u
   ·rw[u];exact A8.mpr z
 ·rintro σ m ⟨⟨v,rfl⟩,rfl,n⟩
  unfold yD at q;rw[dR n] at q;exact q
end
theorem fl{K:Lf}{H:Hp}{d C dx:Ag}{b:List (AW×V)}{v:V}{f:AW}{c:List AW}{Q:V->Prop}(e:H d=some (.ins C dx b))(F:Fl K C c)(g:b.lookup f=some v)(h:Q v)(hf:f∈c:=by decide +kernel):
  ∃a C dx b v,V.ref d=.ref a/\H a=some (.ins C dx b)/\Cls K C/\fJ K C f/\b.lookup f=some v/\Q v:=⟨d,C,dx,b,v,rfl,e,F.cl,F.no f hf,g,h⟩
theorem dN{K:Lf}{a:Ag}{xs:List V}{g:TG}{tb:TS}{D:Ends}{σ:L2.St}{H:Hp}(b:Nat->L2.St->Hp->Prop)(o:b 0 σ H)(e:∀i σ H,i<=xs.length->b i σ H->SqL K H a xs)(q:∀i x σ H T,xs[i]? = some x->b i σ H->H T=AK->g (.ref T) σ (upd H T (.tup [.int (i:Nat),x])) fun f j=>tb { D with nx:=b (i+1),ct:=b (i+1),bk:=D.nx } f j)(r:∀σ H,b xs.length σ H->D.nx σ H):
  ∃W:Nat->Nat->L2.St->Hp->Prop,(∃m,W 0 m σ H)/\∀i m σ H,W i m σ H ->
   ((Ite K a).stop i H/\D.nx σ H)\/((Ite K a).go i H/\∃N:L2.St->Hp->Prop,(∀l c,N l c->∃n,n<m/\W (i+1) n l c)/\∀x c,(Ite K a).yld i H x c->g x σ c fun f j=>tb { D with nx:=N,ct:=N,bk:=D.nx } f j):=by
 refine vX (J:=Ite K a) xs.length b o (fun i σ H d p => ?_) (fun i v σ H c d p y => ?_) (fun σ H p=>⟨⟨xs,e _ σ H (Ak _) p,Ak _⟩,r σ H p⟩)
 ·exact⟨xs,xs[i],e i σ H (BQ d) p,Aa d⟩
 ·obtain⟨T,x,rfl,s,rfl,u⟩:=y
  exact q i x σ H T (u xs (e i σ H (BQ d) p)) p s
noncomputable def aO(n:Nat)(p:Nat->Bool):Option Nat:=(An n).find? p
theorem aW{n i:Nat}{p:Nat->Bool}(h:i<n)(a:p i=true)(c:∀j,j<i->p j=false):aO n p=some i:=by
 unfold aO;refine find_some (i:=i) (by rw[B8 h]) a fun j b d e => ?_;rw[B8 (by omega)] at e;obtain rfl:=Ah e;exact c j d
theorem a9{n:Nat}{p:Nat->Bool}(a:∀j,j<n->p j=false):aO n p=none:=by
 unfold aO;rw[Cc];intro i b;rw[a i (A6.mp b)];exact AS
theorem bY{i:Nat}{p:Nat->Bool}(a:∀j,j<i->p j=false)(h:p i=false):∀j,j<i+1->p j=false:=fun j b=>by
 rcases CL.mp b with u|u
 ·exact a j u
 ·rw[u];exact h
noncomputable def plV:Option Int->V
 | none=>.non
 | some z=>.int z
structure LL(H:Hp)(a:Ag)(lns:List (Nat×Nat))(xs:List V):Prop where
 lst:H a=some (.lst xs)
 len:xs.length=lns.length
 at_:∀i,i<lns.length->∃p,xs[i]? = some (.ref p)/\afx H p (lns.getD i (0,0)).1 (lns.getD i (0,0)).2
theorem Rows.lns{H:Hp}{a:Ag}{b:List (Nat×Nat)}(h:Rows H a (b.map acC)):∃xs,LL H a b xs:=by
 obtain⟨xs,c,d,e⟩:=h.get;refine⟨xs,c,by rw[d,Ab],fun i f => ?_⟩;obtain⟨p,e1,g⟩:=e i (acC (b.getD i (0,0))) (by rw[Av,Az,Aa f];rfl);exact⟨p,e1,g⟩
theorem PL.same{H b:Hp}{a:Ag}{pts:List Pt}{xs:List V}(h:PL H a pts xs)(s:aM H b):PL b a pts xs:=⟨s _ _ h.lst,h.len,fun i c=>let ⟨p,e1,e2⟩:=h.at_ i c;⟨p,e1,s _ _ e2⟩⟩
def sW(S:Plan):Prop:=∀l∈S.lines,l.1<l.2/\l.2<S.pts.length
theorem sW.at_{S:Plan}(h:sW S){i:Nat}(a:i<S.lines.length):(S.lines.getD i (0,0)).1<(S.lines.getD i (0,0)).2/\(S.lines.getD i (0,0)).2<S.pts.length:=by
 refine h _ ?_;rw[Az,Aa a];exact AX a
section
variable{P:AI}{w:AZ}{K:Lf}{mg:Lg}{base:B1}{ad:Adr}
noncomputable def sI(S:Plan)(k:Nat):Bool:=(An k).any fun e=>decide ((S.lines.getD k (0,0)).1<(S.lines.getD e (0,0)).2)&&oZ S.pts (S.lines.getD k (0,0)).1 (S.lines.getD k (0,0)).2 (S.lines.getD e (0,0)).1 (S.lines.getD e (0,0)).2
inductive pX(ad:Adr)(vs:List V)(H:Hp)(Q:VK)(E:XK):Prop
 | mk (d dx lp ll lm:Ag)(S:Plan)(k:Nat)(c0:vs=[.ref d,.int k])(c1:bW ad H d S dx lp ll lm)(c2:SmP S.pts)(c3:sW S)(c4:k<S.lines.length)(c5:∀H',aM H H'->Q (.bl (sI S k)) H')
noncomputable abbrev wC:Stmt:=(top 34)
theorem adJ(xs:List V)(b:Nat):lI xs AK (some (b:Int))=xs.take b:=by
 unfold lI;rw[HT.abF,HT.m9,CP,DU]
 by_cases h:b<=xs.length
 ·rw[CW h]
 ·rw[Fw (by omega),BB (Ak _),BB (by omega)]
theorem aak(D:Def K mg "crosses_one_before" wC ["drawing","k"])(T:Txt K mg ad)(X:Fn P w K mg base 3 "crosses" ["points","line","other"] uu):Fn P w K mg base 4 "crosses_one_before" ["drawing","k"] (pX ad):=by
 refine D.fx ["drawing","k","line","other"] ?_;rintro J f Y A G s H vs Q E Z ⟨d,dx,lp,ll,lm,S,k,rfl,m,sm,M,O,q⟩;obtain⟨ps,pl⟩:=m.pts.pts;obtain⟨r,ln⟩:=m.lns.lns;obtain⟨b,eb,R⟩:=ln.at_ k O;have hi:=M.at_ O;refine⟨_,(kxs 2 J (kxI (aA (pv 0) rfl) (pv 1)) (az (a8 AJ rfl (aY (iB kG (aA (pv 0) rfl) pW (gQ (pv 1)))) (kxo 3 J) (aE (cg ((k9 (kxg (kxT (pv 3) aq) (kxT (pv 2) aq)) (gD (aX (kxF X Z (ab (aA (pv 0) rfl) (ab (pv 2) (ab (pv 3) ah)))) (fun _=>rfl))))).pt (kxr iF) aR))) (kxr iF))),?_⟩;refine⟨_,rfl,fl m.ob T.draw aca ⟨_,rfl,_,_,_,_,rfl,rfl,SqL.of ln.lst,aQ eb,?_⟩⟩;refine⟨_,rfl,fl m.ob T.draw aca ⟨_,rfl,_,rfl,ll,r,rfl,SqL.of ln.lst,fun p hp => ?_⟩⟩;rw[adJ];have sp:=ak (o:=.lst (r.take k)) hp;refine⟨p,rfl,⟨_,SqL.of ag⟩,bB (K:=K) (a:=p) (xs:=r.take k) (fun e σ B=>(∃v,σ=[some (.ref d),some (.int k),some (.ref b),v])/\B=upd H p (.lst (r.take k)) /\
  ∀g,g<e->(decide ((S.lines.getD k (0,0)).1<(S.lines.getD g (0,0)).2)&&oZ S.pts (S.lines.getD k (0,0)).1 (S.lines.getD k (0,0)).2 (S.lines.getD g (0,0)).1 (S.lines.getD g (0,0)).2)=false)
  ⟨⟨none,rfl⟩,rfl,fun e he=>absurd he (Bt e)⟩ (fun i σ B _ ⟨_,e,_⟩=>by rw[e];exact SqL.of ag) ?_ ?_⟩
 ·rintro e x σ B C ⟨⟨v,rfl⟩,rfl,n⟩
  have he:e<k:=by
   have:=(Aj.mp C).1;rw[AO] at this;omega
  rw[BC he] at C;obtain⟨c,ec,W⟩:=ln.at_ e (by omega);rw[ec] at C;obtain rfl:=Ah C;have hj:=M.at_ (show e<S.lines.length by omega);refine dO (j:=1) rfl (SqT.of (sp _ _ W)) rfl (dO (j:=0) rfl (SqT.of (sp _ _ R)) rfl ⟨_,_,rfl,rfl,_,rfl,bX (fun z => ?_) (fun z => ?_)⟩)
  ·have I:decide ((S.lines.getD k (0,0)).1<(S.lines.getD e (0,0)).2)=true:=AD (by have:=AV z;omega)
   refine⟨_,rfl,fl (sp _ _ m.ob) T.draw qR ⟨_,rfl,_,rfl,lp,b,c,S.pts,ps,_,_,_,_,rfl,pl.same sp,sm,sp _ _ R,sp _ _ W,by omega,by omega,by omega,by omega,_,rfl,bX (fun y => ?_) (fun y => ?_)⟩⟩
   ·unfold sI at q
    rw[eX he (by rw[I,y];rfl)] at q;exact q _ sp
   ·refine⟨⟨_,rfl⟩,rfl,fun g l => ?_⟩
    rcases CL.mp l with u|u
    ·exact n g u
    ·rw[u,A8.mpr y,Ep]
  ·have I:decide ((S.lines.getD k (0,0)).1<(S.lines.getD e (0,0)).2)=false:=AR (fun y=>z (AD (by omega)))
   refine jt ⟨⟨_,rfl⟩,rfl,fun g l => ?_⟩;rcases CL.mp l with u|u
   ·exact n g u
   ·rw[u,I,Bp]
 ·rintro σ B ⟨⟨v,rfl⟩,rfl,n⟩
  unfold sI at q;rw[AO,ln.len,CW (by omega)] at n;rw[dR n] at q;exact q _ sp
noncomputable def mi(S:Plan)(k:Nat):Bool:=yD S.pts (S.lines.getD k (0,0)).1 (S.lines.getD k (0,0)).2||sI S k
noncomputable def acf(S:Plan)(k:Nat):Int:=20+8*(S.pts.length:Int)+4*(k:Int)
inductive yw(ad:Adr)(vs:List V)(H:Hp)(Q:VK)(E:XK):Prop
 | mk (d dx lp ll lm:Ag)(S:Plan)(c0:vs=[.ref d])(c1:bW ad H d S dx lp ll lm)(c2:SmP S.pts)(c3:S.pts.length<65536)(c4:sW S)(c5:∀H',aM H H'->Q (plV ((aO S.lines.length (mi S)).map (acf S))) H')
noncomputable abbrev acX:Stmt:=(top 32)
theorem ad3(D:Def K mg "tangled_line" acX ["drawing"])(T:Txt K mg ad)(Z:Fn P w K mg base 3 "has_point_on_it" ["points","line"] afd)(bZ:Fn P w K mg base 4 "crosses_one_before" ["drawing","k"] (pX ad))(bo:Me P w K mg base 2 ad.drawing "line_place" ["self","k"] (afv ad)):Fn P w K mg base 5 "tangled_line" ["drawing"] (yw ad):=by
 refine D.fx ["drawing","k","line"] ?_;rintro O f a0 A B s H vs Q E C ⟨d,dx,r,m,G,S,rfl,c,sm,hn,R,q⟩;obtain⟨ps,pl⟩:=c.pts.pts;obtain⟨W,ln⟩:=c.lns.lns;refine⟨_,(az (a8 AJ rfl (eY (by rfl) T.aZ (ab (aA (pv 0) rfl) ah)) (dQ rfl (aL (kxo 1 O) (aL (kxo 2 O) cj))) (aE (cg ((qr (aX (kxF Z C (ab (aA (pv 0) rfl) (ab (pv 2) ah))) (fun _=>rfl)) (jv (aX (kxF bZ C (ab (pv 0) (ab (pv 1) ah))) (fun _=>rfl))))).pt (kxr (gF (pv 0) bo (C.mono (by decide)) (ab (pv 1) ah))) aR))) (kxr eI)),?_⟩;refine⟨_,rfl,fl c.ob T.draw aca ⟨m,W,rfl,SqL.of ln.lst,dN (K:=K) (a:=m) (xs:=W) (fun i σ n=>(∃u v,σ=[some (.ref d),u,v])/\aM H n/\∀e,e<i->mi S e=false)
  ⟨⟨none,none,rfl⟩,aM.refl H,fun e he=>absurd he (Bt e)⟩ (fun i σ n _ ⟨_,e,_⟩=>SqL.of (e _ _ ln.lst)) ?_ ?_⟩⟩
 ·rintro i x σ n t I ⟨⟨u,v,rfl⟩,J,l⟩ ht
  have p:i<S.lines.length:=by
   have:=(Aj.mp I).1;rw[ln.len] at this;exact this
  obtain⟨b,eb,qb⟩:=ln.at_ i p;rw[eb] at I;obtain rfl:=Ah I;have X:=R.at_ p;refine⟨t,_,rfl,SqT.of ag,rfl,_,_,rfl,_,_,rfl,rfl,?_⟩;have g:=J.trans (ak (o:=.tup [.int (i:Nat),.ref b]) ht);generalize upd n t (.tup [.int (i:Nat),.ref b])=H1 at *
  refine⟨_,rfl,fl (g _ _ c.ob) T.draw qR ⟨_,rfl,r,b,S.pts,ps,_,_,rfl,pl.same g,sm,g _ _ qb,X.1,X.2,hn,_,rfl,bX (fun z => ?_) (fun z => ?_)⟩⟩
  ·have j:mi S i=true:=by unfold mi;rw[z,Ga]
   rw[aW p j l] at q;exact jO ⟨_,rfl,d,dx,_,rfl,g _ _ c.ob,rfl,_,rfl,d,dx,r,m,G,S,_,rfl,c.same g,q _ g⟩
  ·refine⟨_,rfl,_,rfl,d,dx,r,m,G,S,i,rfl,c.same g,sm,R,p,fun H2 Y=>⟨_,rfl,bX (fun y => ?_) (fun y => ?_)⟩⟩
   ·have j:mi S i=true:=by unfold mi;rw[y,DH]
    rw[aW p j l] at q;have M:=g.trans Y;exact⟨_,rfl,d,dx,_,rfl,M _ _ c.ob,rfl,_,rfl,d,dx,r,m,G,S,_,rfl,c.same M,q _ M⟩
   ·refine⟨⟨_,_,rfl⟩,g.trans Y,bY l ?_⟩
    unfold mi;rw[A8.mpr z,A8.mpr y];rfl
 ·rintro σ n ⟨⟨u,v,rfl⟩,J,l⟩
  rw[ln.len] at l;rw[a9 l] at q;exact q _ J
end
noncomputable def m0:Mark:=⟨⟨0,0⟩,0,0⟩
noncomputable def mkV(m:Mark):List V := [.int (m.at_.x:Int),.int (m.at_.y:Int),.int (m.glass:Int)]
structure ML(H:Hp)(a:Ag)(mks:List Mark)(xs:List V):Prop where
 lst:H a=some (.lst xs)
 len:xs.length=mks.length
 at_:∀i,i<mks.length->∃p,xs[i]? = some (.ref p)/\H p=some (.tup (mkV (mks.getD i m0)))
theorem Rows.mks{H:Hp}{a:Ag}{b:List Mark}(h:Rows H a (b.map abT)):∃xs,ML H a b xs:=by
 obtain⟨xs,c,d,e⟩:=h.get;refine⟨xs,c,by rw[d,Ab],fun i f => ?_⟩;obtain⟨p,e1,g⟩:=e i (abT (b.getD i m0)) (by rw[Av,Az,Aa f];rfl);exact⟨p,e1,g⟩
section
variable{P:AI}{w:AZ}{K:Lf}{mg:Lg}{base:B1}{ad:Adr}
noncomputable def iX(S:Plan)(m:Mark):Bool:=decide (0<m.at_.x)&&(decide (m.at_.x<S.w)&&(decide (0<m.at_.y)&&decide (m.at_.y<S.h)))
inductive tH(ad:Adr)(vs:List V)(H:Hp)(Q:VK)(E:XK):Prop
 | mk (d dx lp ll lm p:Ag)(S:Plan)(m:Mark)(c0:vs=[.ref d,.ref p])(c1:bW ad H d S dx lp ll lm)(c2:H p=some (.tup (mkV m)))(c3:Q (.bl (iX S m)) H)
noncomputable abbrev aaD:Stmt:=(top 43)
theorem abn(x y:Nat):decide ((x:Int)<(y:Int))=decide (x<y):=by
 by_cases h:x<y
 ·rw[AD h,AD (by omega)]
 ·rw[AR h,AR (by omega)]
theorem aaL(y:Nat):decide ((0:Int)<(y:Int))=decide (0<y):=abn 0 y
theorem acj(D:Def K mg "is_within_frame" aaD ["drawing","mark"])(T:Txt K mg ad):Fn P w K mg base 1 "is_within_frame" ["drawing","mark"] (tH ad):=by
 refine D.fx ["drawing","mark"] ?_;rintro g f e A b s H vs Q E i ⟨d,dx,l,n,o,p,S,m,rfl,c,a,q⟩;refine⟨_,(kxr (gI (bg lJ (kxT (pv 1) aq) aq (bj _)) (gI (bg xH (kxT (pv 1) aq) (aA (pv 0) rfl) (bj _)) (gI (bg lJ (kxT (pv 1) aq) aq (bj _)) (gv (bg xH (kxT (pv 1) aq) (aA (pv 0) rfl) (bj _))))))),?_⟩;unfold iX at q;refine dO (j:=0) rfl (SqT.of a) rfl ⟨_,_,rfl,rfl,_,rfl,?_⟩;rw[aaL];refine bX (fun z => ?_) (fun z => ?_)
 ·rw[z,BW] at q
  refine dO (j:=0) rfl (SqT.of a) rfl (aaz rfl c.ob T.draw agm ⟨_,_,rfl,rfl,_,rfl,?_⟩);rw[abn];refine bX (fun z => ?_) (fun z => ?_)
  ·rw[z,BW] at q
   refine dO (j:=1) rfl (SqT.of a) rfl ⟨_,_,rfl,rfl,_,rfl,?_⟩;rw[aaL];refine bX (fun z => ?_) (fun z => ?_)
   ·rw[z,BW] at q
    refine dO (j:=1) rfl (SqT.of a) rfl (aaz rfl c.ob T.draw ahp ⟨_,_,rfl,rfl,?_⟩);rw[<- abn] at q;exact q
   ·rw[Bv] at z
    rw[z,Bp] at q;exact q
  ·rw[Bv] at z
   rw[z,Bp] at q;exact q
 ·rw[Bv] at z
  rw[z,Bp] at q;exact q
noncomputable def onM(S:Plan)(m:Mark)(e:Nat):Bool:=onZ m.at_.x m.at_.y (S.pts.getD (S.lines.getD e (0,0)).1 ⟨0,0⟩).x (S.pts.getD (S.lines.getD e (0,0)).1 ⟨0,0⟩).y (S.pts.getD (S.lines.getD e (0,0)).2 ⟨0,0⟩).x (S.pts.getD (S.lines.getD e (0,0)).2 ⟨0,0⟩).y
noncomputable def abE(S:Plan)(m:Mark):Bool:=(An S.lines.length).any (onM S m)
inductive yq(ad:Adr)(vs:List V)(H:Hp)(Q:VK)(E:XK):Prop
 | mk (d dx lp ll lm p:Ag)(S:Plan)(m:Mark)(c0:vs=[.ref d,.ref p])(c1:bW ad H d S dx lp ll lm)(c2:SmP S.pts)(c3:sW S)(c4:H p=some (.tup (mkV m)))(c5:Q (.bl (abE S m)) H)
noncomputable abbrev ac5:Stmt:=(top 44)
theorem aeb(D:Def K mg "is_on_a_line" ac5 ["drawing","mark"])(T:Txt K mg ad)(B:Fn P w K mg base 2 "is_on" ["r","p","q"] (aga K)):Fn P w K mg base 3 "is_on_a_line" ["drawing","mark"] (yq ad):=by
 refine D.fx ["drawing","mark","line"] ?_;rintro C f G A n s H vs Q E I ⟨d,dx,lp,r,lm,p,S,m,rfl,b,sm,J,M,q⟩;obtain⟨ps,pl⟩:=b.pts.pts;obtain⟨O,ln⟩:=b.lns.lns;refine⟨_,(az (a8 AJ rfl (aY (aA (pv 0) rfl)) (kxo 2 C) (aE (cg (aX (kxF B I (ab (pv 1) (ab (kxI (aA (pv 0) rfl) (kxT (pv 2) aq)) (ab (kxI (aA (pv 0) rfl) (kxT (pv 2) aq)) ah)))) (fun _=>rfl)) (kxr iF) aR))) (kxr iF)),?_⟩;refine⟨_,rfl,fl b.ob T.draw aca ⟨r,rfl,⟨_,SqL.of ln.lst⟩,bB (K:=K) (a:=r) (xs:=O) (fun e σ g=>(∃v,σ=[some (.ref d),some (.ref p),v])/\g=H/\∀u,u<e->onM S m u=false)
  ⟨⟨none,rfl⟩,rfl,fun e he=>absurd he (Bt e)⟩ (fun i σ g _ ⟨_,e,_⟩=>by rw[e];exact SqL.of ln.lst) ?_ ?_⟩⟩
 ·rintro e x σ g o ⟨⟨v,rfl⟩,rfl,l⟩
  have he:e<S.lines.length:=by
   have:=(Aj.mp o).1;rw[ln.len] at this;exact this
  obtain⟨c,R,y⟩:=ln.at_ e he;rw[R] at o;obtain rfl:=Ah o;have W:=J.at_ he;obtain⟨X,Y,Z⟩:=pl.at_ _ (show(S.lines.getD e (0,0)).1<S.pts.length by omega);obtain⟨pj,ej,qj⟩:=pl.at_ _ W.2;refine⟨_,rfl,_,rfl,fl b.ob T.draw qR ⟨_,rfl,_,_,_,_,rfl,rfl,SqT.of y,aQ (j:=0) rfl,_,_,_,_,rfl,rfl,SqL.of pl.lst,aQ Y,?_⟩⟩;refine⟨_,rfl,fl b.ob T.draw qR ⟨_,rfl,_,_,_,_,rfl,rfl,SqT.of y,aQ (j:=1) rfl,_,_,_,_,rfl,rfl,SqL.of pl.lst,aQ ej,?_⟩⟩;refine⟨p,X,pj,_,_,_,_,_,_,rfl,.of2 M,.of2 Z,.of2 qj,(sm.at_ _).1,(sm.at_ _).2,(sm.at_ _).1,(sm.at_ _).2,_,rfl,bX (fun z => ?_) (fun z => ?_)⟩
  ·unfold abE at q
   rw[eX he z] at q;exact q
  ·exact⟨⟨_,rfl⟩,rfl,bY l (A8.mpr z)⟩
 ·rintro σ g ⟨⟨v,rfl⟩,rfl,l⟩
  unfold abE at q;rw[ln.len] at l;rw[dR l] at q;exact q
noncomputable def kj(c a d b:Nat):Bool:=decide (b<a)||(decide (a=b)&&decide (d<c))
theorem wI(c a d b:Nat):(decide ((b:Int)<(a:Int))||(decide ((a:Int)=(b:Int))&&decide ((d:Int)<(c:Int))))=kj c a d b:=by
 unfold kj;rw[abn,abn]
 congr 2
 by_cases h:a=b
 ·subst h;simp
 ·rw[AR h,AR (by omega)]
noncomputable def de(S:Plan)(k:Nat):Bool:=(!iX S (S.marks.getD k m0)||abE S (S.marks.getD k m0))||(decide (0<k) && !kj (S.marks.getD k m0).at_.x (S.marks.getD k m0).at_.y (S.marks.getD (k-1) m0).at_.x (S.marks.getD (k-1) m0).at_.y)
noncomputable def acb(S:Plan)(k:Nat):Int:=20+8*(S.pts.length:Int)+4*(S.lines.length:Int)+12*(k:Int)
inductive pF(ad:Adr)(vs:List V)(H:Hp)(Q:VK)(E:XK):Prop
 | mk (d dx lp ll lm:Ag)(S:Plan)(c0:vs=[.ref d])(c1:bW ad H d S dx lp ll lm)(c2:SmP S.pts)(c3:sW S)(c4:∀H',aM H H'->Q (plV ((aO S.marks.length (de S)).map (acb S))) H')
noncomputable abbrev u6:Stmt:=(top 42)
theorem aaU(D:Def K mg "stray_mark" u6 ["drawing"])(T:Txt K mg ad)(cW:Fn P w K mg base 1 "is_within_frame" ["drawing","mark"] (tH ad))(fc:Fn P w K mg base 3 "is_on_a_line" ["drawing","mark"] (yq ad))(bM:Fn P w K mg base 1 "comes_behind" ["point","last"] (lP K))(Z:Me P w K mg base 3 ad.drawing "mark_place" ["self","k"] (afy ad)):Fn P w K mg base 4 "stray_mark" ["drawing"] (pF ad):=by
 refine D.fx ["drawing","k","mark"] ?_;rintro nd f a0 A J s H vs Q E G ⟨d,dx,M,O,B,S,rfl,m,sm,lk,q⟩;obtain⟨R,n⟩:=m.mks.mks;refine⟨_,(az (a8 AJ rfl (eY (by rfl) T.aZ (ab (aA (pv 0) rfl) ah)) (dQ rfl (aL (kxo 1 nd) (aL (kxo 2 nd) cj))) (kxf ((qr (oN (aX (kxF cW G (ab (pv 0) (ab (pv 2) ah))) (fun _=>rfl))) (jv (aX (kxF fc G (ab (pv 0) (ab (pv 2) ah))) (fun _=>rfl))))).pt (gF (pv 0) Z (G.mono (by decide)) (ab (pv 1) ah)) (aE (cg ((k9 (kxg (pv 1) aq) (gD (oN (aX (kxF bM G (ab (pv 2) (ab (kxI (aA (pv 0) rfl) (aV dE (pv 1) aq)) ah))) (fun _=>rfl)))))).pt (kxr (gF (pv 0) Z (G.mono (by decide)) (ab (pv 1) ah))) aR)))) (kxr eI)),?_⟩;refine⟨_,rfl,fl m.ob T.draw ahF ⟨B,R,rfl,SqL.of n.lst,dN (K:=K) (a:=B) (xs:=R) (fun i σ p=>(∃u v,σ=[some (.ref d),u,v])/\aM H p/\∀e,e<i->de S e=false)
  ⟨⟨none,none,rfl⟩,aM.refl H,fun e he=>absurd he (Bt e)⟩ (fun i σ p _ ⟨_,e,_⟩=>SqL.of (e _ _ n.lst)) ?_ ?_⟩⟩
 ·rintro i x σ p t W ⟨⟨u,v,rfl⟩,X,C⟩ ht
  have hi:i<S.marks.length:=by
   have:=(Aj.mp W).1;rw[n.len] at this;exact this
  obtain⟨b,eb,Y⟩:=n.at_ i hi;rw[eb] at W;obtain rfl:=Ah W;refine⟨t,_,rfl,SqT.of ag,rfl,_,_,rfl,_,_,rfl,rfl,?_⟩;have j:=X.trans (ak (o:=.tup [.int (i:Nat),.ref b]) ht);generalize upd p t (.tup [.int (i:Nat),.ref b])=H1 at *
  have r:de S i=true->afy ad [.ref d,.int (i:Nat)] H1 Q E0:=by
   intro l;rw[aW hi l C] at q;exact⟨d,dx,M,O,B,S,_,rfl,m.same j,q _ j⟩
  have I:(!iX S (S.marks.getD i m0)||abE S (S.marks.getD i m0))=false->∀(D':Ends),D'.nx=(fun σ p=>(∃u v,σ=[some (.ref d),u,v])/\aM H p/\∀e,e<i+1->de S e=false)->True:=fun _ _ _=>trivial;refine⟨_,rfl,_,rfl,d,dx,M,O,B,b,S,_,rfl,m.same j,j _ _ Y,_,rfl,bX (fun z => ?_) (fun z => ?_)⟩
  ·have l:de S i=true:=by unfold de;rw[z];rfl
   exact jO ⟨_,rfl,d,dx,_,rfl,j _ _ m.ob,rfl,_,rfl,r l⟩
  ·refine⟨_,rfl,_,rfl,d,dx,M,O,B,b,S,_,rfl,m.same j,sm,lk,j _ _ Y,_,rfl,bX (fun y => ?_) (fun y => ?_)⟩
   ·have l:de S i=true:=by unfold de;rw[y,DH];rfl
    exact⟨_,rfl,d,dx,_,rfl,j _ _ m.ob,rfl,_,rfl,r l⟩
   ·have first:(!iX S (S.marks.getD i m0)||abE S (S.marks.getD i m0))=false:=by
     rw[A8.mpr z,A8.mpr y];rfl
    refine⟨_,rfl,_,_,rfl,rfl,_,rfl,?_⟩;rw[aaL];refine bX (fun g => ?_) (fun g => ?_)
    ·have g':0<i:=AV g
     obtain⟨c,ec,qc⟩:=n.at_ (i-1) (by omega);refine⟨_,rfl,_,rfl,fl (j _ _ m.ob) T.draw ahF ⟨_,rfl,_,_,rfl,rfl,B,R,_,.ref c,rfl,rfl,SqL.of (j _ _ n.lst),?_,?_⟩⟩
     ·rw[show(i:Int)-1=((i-1:Nat):Int) by omega]
      exact aQ ec
     ·refine⟨b,c,_,_,_,_,rfl,.of2 (j _ _ Y),.of2 (j _ _ qc),_,rfl,?_⟩
      rw[wI];refine bX (fun h => ?_) (fun h => ?_)
      ·have l:de S i=true:=by unfold de;rw[h,g,GL,DH]
       exact⟨_,rfl,d,dx,_,rfl,j _ _ m.ob,rfl,_,rfl,r l⟩
      ·refine⟨⟨_,_,rfl⟩,j,bY C ?_⟩
       unfold de;rw[first,A8.mpr h,Ep];rfl
    ·refine jt ⟨⟨_,_,rfl⟩,j,bY C ?_⟩
     unfold de;rw[first,A8.mpr g,Bp];rfl
 ·rintro σ p ⟨⟨u,v,rfl⟩,X,C⟩
  rw[n.len] at C;rw[a9 C] at q;exact q _ X
noncomputable def dU(S:Plan)(k:Nat):Bool:=(decide (S.w<(S.pts.getD k ⟨0,0⟩).x)||decide (S.h<(S.pts.getD k ⟨0,0⟩).y)) ||
 (decide (0<k) && !kj (S.pts.getD k ⟨0,0⟩).x (S.pts.getD k ⟨0,0⟩).y (S.pts.getD (k-1) ⟨0,0⟩).x (S.pts.getD (k-1) ⟨0,0⟩).y)
noncomputable def adb(k:Nat):Int:=20+8*(k:Int)
inductive qw(ad:Adr)(vs:List V)(H:Hp)(Q:VK)(E:XK):Prop
 | mk (d dx lp ll lm:Ag)(S:Plan)(c0:vs=[.ref d])(c1:bW ad H d S dx lp ll lm)(c2:∀H',aM H H'->Q (plV ((aO S.pts.length (dU S)).map adb)) H')
noncomputable abbrev u4:Stmt:=(top 29)
theorem aae(D:Def K mg "stray_point" u4 ["drawing"])(T:Txt K mg ad)(Y:Fn P w K mg base 1 "comes_behind" ["point","last"] (lP K))(R:Me P w K mg base 1 ad.drawing "point_place" ["self","k"] ads):
  Fn P w K mg base 2 "stray_point" ["drawing"] (qw ad):=by
 refine D.fx ["drawing","k","point"] ?_;rintro W f Z A C s H vs Q E G ⟨d,dx,I,ll,lm,S,rfl,n,q⟩;obtain⟨ps,pl⟩:=n.pts.pts;refine⟨_,(az (a8 AJ rfl (eY (by rfl) T.aZ (ab (aA (pv 0) rfl) ah)) (dQ rfl (aL (kxo 1 W) (aL (kxo 2 W) cj))) (kxf ((qr (kxg (kxT (pv 2) aq) (aA (pv 0) rfl)) (jv (kxg (kxT (pv 2) aq) (aA (pv 0) rfl))))).pt (gF (pv 0) R (G.mono (by decide)) (ab (pv 1) ah)) (aE (cg ((k9 (kxg (pv 1) aq) (gD (oN (aX (kxF Y G (ab (pv 2) (ab (kxI (aA (pv 0) rfl) (aV dE (pv 1) aq)) ah))) (fun _=>rfl)))))).pt (kxr (gF (pv 0) R (G.mono (by decide)) (ab (pv 1) ah))) aR)))) (kxr eI)),?_⟩;refine⟨_,rfl,fl n.ob T.draw qR ⟨I,ps,rfl,SqL.of pl.lst,dN (K:=K) (a:=I) (xs:=ps) (fun i σ B=>(∃u v,σ=[some (.ref d),u,v])/\aM H B/\∀e,e<i->dU S e=false)
  ⟨⟨none,none,rfl⟩,aM.refl H,fun e he=>absurd he (Bt e)⟩ (fun i σ B _ ⟨_,e,_⟩=>SqL.of (e _ _ pl.lst)) ?_ ?_⟩⟩
 ·rintro i x σ B t J ⟨⟨u,v,rfl⟩,M,r⟩ ht
  have X:i<S.pts.length:=by
   have:=(Aj.mp J).1;rw[pl.len] at this;exact this
  obtain⟨b,eb,O⟩:=pl.at_ i X;rw[eb] at J;obtain rfl:=Ah J;refine⟨t,_,rfl,SqT.of ag,rfl,_,_,rfl,_,_,rfl,rfl,?_⟩;have m:=M.trans (ak (o:=.tup [.int (i:Nat),.ref b]) ht);generalize upd B t (.tup [.int (i:Nat),.ref b])=H1 at *
  have p:dU S i=true->ads [.ref d,.int (i:Nat)] H1 Q E0:=by
   intro l;rw[aW X l r] at q;exact⟨d,_,rfl,q _ m⟩
  refine dO (j:=0) rfl (SqT.of (m _ _ O)) rfl ⟨_,rfl,fl (m _ _ n.ob) T.draw agm ⟨_,_,rfl,rfl,_,rfl,?_⟩⟩;rw[abn];refine bX (fun z => ?_) (fun z => ?_)
  ·have l:dU S i=true:=by unfold dU;rw[z];rfl
   exact jO ⟨_,rfl,d,dx,_,rfl,m _ _ n.ob,rfl,_,rfl,p l⟩
  ·refine dO (j:=1) rfl (SqT.of (m _ _ O)) rfl ⟨_,rfl,fl (m _ _ n.ob) T.draw ahp ⟨_,_,rfl,rfl,_,rfl,?_⟩⟩
   rw[abn];refine bX (fun y => ?_) (fun y => ?_)
   ·have l:dU S i=true:=by unfold dU;rw[y,DH];rfl
    exact⟨_,rfl,d,dx,_,rfl,m _ _ n.ob,rfl,_,rfl,p l⟩
   ·refine⟨_,rfl,_,_,rfl,rfl,_,rfl,?_⟩
    rw[aaL];refine bX (fun g => ?_) (fun g => ?_)
    ·have g':0<i:=AV g
     obtain⟨c,ec,qc⟩:=pl.at_ (i-1) (by omega);refine⟨_,rfl,_,rfl,fl (m _ _ n.ob) T.draw qR ⟨_,rfl,_,_,rfl,rfl,I,ps,_,.ref c,rfl,rfl,SqL.of (m _ _ pl.lst),?_,?_⟩⟩
     ·rw[show(i:Int)-1=((i-1:Nat):Int) by omega]
      exact aQ ec
     ·refine⟨b,c,_,_,_,_,rfl,.of2 (m _ _ O),.of2 (m _ _ qc),_,rfl,?_⟩
      rw[wI];refine bX (fun h => ?_) (fun h => ?_)
      ·have l:dU S i=true:=by unfold dU;rw[h,g,GL,DH]
       exact⟨_,rfl,d,dx,_,rfl,m _ _ n.ob,rfl,_,rfl,p l⟩
      ·refine⟨⟨_,_,rfl⟩,m,bY r ?_⟩
       unfold dU;rw[A8.mpr z,A8.mpr y,A8.mpr h,Ep];rfl
    ·refine jt ⟨⟨_,_,rfl⟩,m,bY r ?_⟩
     unfold dU;rw[A8.mpr z,A8.mpr y,A8.mpr g,Bp];rfl
 ·rintro σ B ⟨⟨u,v,rfl⟩,M,r⟩
  rw[pl.len] at r;rw[a9 r] at q;exact q _ M
end
structure NA(H:Hp)(a:Ag)(as:List Ag)(nl:List (List Nat)):Prop where
 lst:H a=some (.lst (as.map V.ref))
 nd:as.Nodup
 ne:a ∉ as
 len:as.length=nl.length
 at_:∀(i:Nat)(p:Ag),as[i]? = some p->H p=some (.lst ((nl.getD i []).map fG))
theorem NA.same{H b:Hp}{a:Ag}{as:List Ag}{c:List (List Nat)}(h:NA H a as c)(s:aM H b):NA b a as c:=⟨s _ _ h.lst,h.nd,h.ne,h.len,fun i p e=>s _ _ (h.at_ i p e)⟩
theorem NA.get{H:Hp}{a:Ag}{as:List Ag}{b:List (List Nat)}(h:NA H a as b){i:Nat}(d:i<b.length):∃p,as[i]? = some p/\(as.map V.ref)[i]? = some (.ref p)/\H p=some (.lst ((b.getD i []).map fG)):=by
 have c:i<as.length:=by rw[h.len];exact d
 have e:as[i]? = some as[i]:=Aa c;exact⟨as[i],e,by rw[Av,e];rfl,h.at_ i _ e⟩
theorem NA.app{H:Hp}{a:Ag}{as:List Ag}{b:List (List Nat)}(h:NA H a as b){i v:Nat}{p:Ag}(e:as[i]? = some p)(f:i<b.length):
  NA (upd H p (.lst ((b.getD i []).map fG++[fG v]))) a as (b.set i (b.getD i []++[v])):=by
 have g:a≠p:=fun z=>h.ne (z▸AE e);refine⟨by rw[aw g];exact h.lst,h.nd,h.ne,by rw[D8];exact h.len,fun j q c => ?_⟩
 by_cases ij:j=i
 ·subst ij
  rw[e] at c;obtain rfl:=Ah c;have d:(b.set j (b.getD j []++[v])).getD j []=b.getD j []++[v]:=by
   rw[Az (l:=b.set j (b.getD j []++[v])),C1 f,GY]
  rw[ag,d,Ay];rfl
 ·have m:q≠p:=fun z=>ij (aim h.nd c (by rw[z];exact e))
  have d:(b.set i (b.getD i []++[v])).getD j []=b.getD j []:=by
   rw[Az (l:=b.set i (b.getD i []++[v])),Cv (Ne.symm ij),<- Az]
  rw[aw m,h.at_ j q c,d]
noncomputable def jQ(S:Plan)(k i:Nat):List Nat:=(S.lines.take k).filterMap fun(l:Nat×Nat)=>if l.1=i then some l.2 else if l.2=i then some l.1 else none
noncomputable def cE(S:Plan)(k:Nat):List (List Nat):=(An S.pts.length).map (jQ S k)
noncomputable def cQ(S:Plan):List (List Nat):=(An S.pts.length).map S.near
theorem xF(S:Plan):cE S S.lines.length=cQ S:=by
 unfold cE cQ jQ;rw[BG];rfl
theorem o8(S:Plan)(k:Nat):(cE S k).length=S.pts.length:=by unfold cE;rw[Ab,AG]
theorem kC(S:Plan)(k:Nat){i:Nat}(a:i<S.pts.length):(cE S k).getD i []=jQ S k i:=by
 unfold cE;rw[Az,Av,B8 a];rfl
theorem wQ(S:Plan){k:Nat}(a:k<S.lines.length)(i:Nat):jQ S (k+1) i=jQ S k i++(if (S.lines.getD k (0,0)).1=i then [(S.lines.getD k (0,0)).2] else if (S.lines.getD k (0,0)).2=i then [(S.lines.getD k (0,0)).1] else []):=by
 unfold jQ;have e:S.lines[k]? = some (S.lines.getD k (0,0)):=by rw[Az,Aa a];rfl
 rw[take_snoc e,List.filterMap_append]
 congr 1
 generalize S.lines.getD k (0,0)=l;simp only[E7,List.filterMap_nil]
 by_cases h1:l.1=i
 ·simp[h1]
 ·by_cases h2:l.2=i
  ·simp[h1,h2]
  ·simp[h1,h2]
theorem uO(S:Plan){k:Nat}(a:k<S.lines.length)(h:(S.lines.getD k (0,0)).1<(S.lines.getD k (0,0)).2)(b:(S.lines.getD k (0,0)).2<S.pts.length):
  cE S (k+1)=((cE S k).set (S.lines.getD k (0,0)).1 (jQ S k (S.lines.getD k (0,0)).1++[(S.lines.getD k (0,0)).2])).set (S.lines.getD k (0,0)).2 (jQ S k (S.lines.getD k (0,0)).2++[(S.lines.getD k (0,0)).1]):=by
 refine G9 fun i => ?_;have L:=o8 S
 by_cases hi:i<S.pts.length
 ·have e1:(cE S (k+1))[i]? = some (jQ S (k+1) i):=by unfold cE;rw[Av,B8 hi];rfl
  have c:(cE S k)[i]? = some (jQ S k i):=by unfold cE;rw[Av,B8 hi];rfl
  rw[e1,wQ S a]
  by_cases c2:i=(S.lines.getD k (0,0)).2
  ·rw[c2,C1 (by rw[D8,L];exact b),Ar (by omega),As rfl]
  ·rw[Cv (Ne.symm c2)]
   by_cases c1:i=(S.lines.getD k (0,0)).1
   ·rw[c1,C1 (by rw[L];omega),As rfl]
   ·rw[Cv (Ne.symm c1),c,Ar (Ne.symm c1),Ar (Ne.symm c2),CB]
 ·rw[Co (by rw[L];omega),Co (by rw[D8,D8,L];omega)]
theorem rp(S:Plan)(k i:Nat):(jQ S k i).length<=S.lines.length:=by
 unfold jQ;refine Br (List.length_filterMap_le _ _) ?_;rw[AO];omega
section
variable{P:AI}{w:AZ}{K:Lf}{mg:Lg}{base:B1}{ad:Adr}
inductive xw(ad:Adr)(vs:List V)(H:Hp)(Q:VK)(E:XK):Prop
 | mk (d dx lp ll lm:Ag)(S:Plan)(c0:vs=[.ref d])(c1:bW ad H d S dx lp ll lm)(c2:sW S)(c3:S.pts.length<65536)(c4:S.lines.length<65536)(c5:∀H' a as,aM H H'->NA H' a as (cQ S)->Q (.ref a) H')
noncomputable abbrev ahz:Stmt:=(top 37)
theorem agZ(D:Def K mg "neighbours" ahz ["drawing"])(T:Txt K mg ad):Fn P w K mg base 1 "neighbours" ["drawing"] (xw ad):=by
 refine D.fx ["drawing","point","near","line"] ?_;rintro W f a5 A X s H vs Q E hr ⟨d,dx,lp,ll,lm,S,rfl,G,lk,hn,I,q⟩;obtain⟨ps,pl⟩:=G.pts.pts;obtain⟨ls,ln⟩:=G.lns.lns;refine⟨_,(az (da (i:=2) rfl W rfl rfl rfl (aY (aA (pv 0) rfl)) (d4 (own := [("point",1)]) rfl) (fun _ _ _ _ _=>(kxo 1 W)) (fun _ _ _ _ _=>cP) (fun _ _ _ _ _=>(aP ah))) (az (a8 AJ rfl (aY (aA (pv 0) rfl)) (kxo 3 W) (kxe (kxA (kxI (pv 2) (kxT (pv 3) aq)) (kxT (pv 3) aq)) (aE (cS (kxA (kxI (pv 2) (kxT (pv 3) aq)) (kxT (pv 3) aq)))))) (kxr (pv 2)))),?_⟩;refine⟨_,rfl,fl G.ob T.draw qR ⟨lp,rfl,⟨_,SqL.of pl.lst⟩,fun a ha => ?_⟩⟩;refine iW (J:=Itl K lp) a S.pts.length (fun i c=>aM H c/\∃as:List Ag,NA c a as (EV i [])/\∀p∈as,H p=AK)
  ⟨ak ha,[],⟨ag,EZ,by simp,rfl,fun i p e=>by simp at e⟩,fun p m=>nomatch m⟩ ?_ ?_ ?_
 ·rintro i c r ⟨g,_⟩
  obtain⟨p,e,_⟩:=pl.at_ i r;exact⟨ps,_,SqL.of (g _ _ pl.lst),e⟩
 ·rintro i x c H2 r ⟨g,as,l,M⟩ ⟨rfl,_⟩
  refine⟨rfl,ke ⟨AN _,fun p m => ?_⟩⟩;have Y:a≠p:=aB l.lst m;have B:=ak (o:=.lst []) m;have al:as.length=i:=by rw[l.len,Fj]
  refine⟨as.map V.ref,by rw[aw Y];exact l.lst,aT (by rw[Ab,al];omega),aI (g.trans B) ha,as++[p],⟨?_,?_,?_,?_,?_⟩,?_⟩
  ·rw[ag,Ay];rfl
  ·refine tV l.nd fun I => ?_
   obtain⟨j,n,e⟩:=AQ.mp I;have:=l.at_ j p (by rw[Aa n,e]);rw[m] at this;cases this
  ·intro I
   rcases A4.mp I with z|z
   ·exact l.ne z
   ·exact Y (Ao.mp z)
  ·rw[Al,al,Fj];rfl
  ·intro j y e
   have Z:((EV (i+1) ([]:List Nat)).getD j [])=[]:=by
    rw[Az,DN]
    split <;> rfl
   rw[Z];have ya:y≠a:=by
    intro z;subst z;rcases A4.mp (AE e) with z|z
    ·exact l.ne z
    ·exact Y (Ao.mp z)
   rw[aw ya]
   by_cases n:j<as.length
   ·rw[A1 n] at e
    have yp:H2 y=some (.lst []):=by
     have:=l.at_ j y e;have em:((EV i ([]:List Nat)).getD j [])=[]:=by
      rw[Az,DN]
      split <;> rfl
     rw[em] at this;exact this
    rw[aw (aB yp m)];exact yp
   ·rw[Aw (by omega)] at e
    have:y=p:=by
     have hl:=(Aj.mp e).1;have:j-as.length=0:=by simp at hl;omega
     rw[this] at e;exact(Ah e).symm
    rw[this,ag];rfl
  ·intro y hy
   rcases A4.mp hy with z|z
   ·exact M y z
   ·rw[Ao.mp z];exact g.free m
 ·rintro H1 ⟨B,as,l,M⟩
  refine⟨⟨ps,SqL.of (B _ _ pl.lst),by rw[pl.len];exact Ak _⟩,?_⟩;have a0:NA H1 a as (cE S 0):=by
   have e:cE S 0=EV S.pts.length []:=by
    unfold cE jQ;rw[HL];show(An S.pts.length).map (fun _=>[])=_;refine G9 fun i => ?_;rw[Av,DN]
    by_cases r:i<S.pts.length
    ·rw[B8 r,As r];rfl
    ·rw[Co (by rw[AG];omega),Ar r];rfl
   rw[e];exact l
  refine⟨_,rfl,fl (B _ _ G.ob) T.draw aca ⟨ll,rfl,⟨_,SqL.of (B _ _ ln.lst)⟩,bB (K:=K) (a:=ll) (xs:=ls) (fun k σ c=>(∃u v,σ=[some (.ref d),u,some (.ref a),v])/\aM H c/\NA c a as (cE S k))
   ⟨⟨_,_,rfl⟩,B,a0⟩ (fun i σ c _ ⟨_,e,_⟩=>SqL.of (e _ _ ln.lst)) ?_ ?_⟩⟩
  ·rintro k x σ c hx ⟨⟨u,v,rfl⟩,g,C⟩
   have hk:k<S.lines.length:=by
    have:=(Aj.mp hx).1;rw[ln.len] at this;exact this
   obtain⟨b,eb,O⟩:=ln.at_ k hk;rw[eb] at hx;obtain rfl:=Ah hx;have n:=lk.at_ hk;have R:=o8 S k;obtain⟨p1,f1,g1,h1⟩:=C.get (i:=(S.lines.getD k (0,0)).1) (by rw[R];omega);have a3:=M p1 (AE f1);refine⟨_,rfl,_,rfl,_,_,_,_,rfl,rfl,SqT.of (g _ _ O),aQ (j:=0) rfl,_,_,_,_,rfl,rfl,SqL.of C.lst,aQ g1,.inl ⟨rfl,_,SqL.of h1⟩,?_⟩;refine dO (j:=1) rfl (SqT.of (g _ _ O)) rfl ⟨p1,_,_,rfl,rfl,h1,aT (by rw[Ab,kC S k (by omega)];have:=rp S k (S.lines.getD k (0,0)).1;omega),?_⟩;have n1:=C.app (v:=(S.lines.getD k (0,0)).2) f1 (by rw[R];omega);have s2:=aI (o:=.lst (((cE S k).getD (S.lines.getD k (0,0)).1 []).map fG++[fG (S.lines.getD k (0,0)).2])) g a3;have e2:((cE S k).set (S.lines.getD k (0,0)).1 ((cE S k).getD (S.lines.getD k (0,0)).1 []++[(S.lines.getD k (0,0)).2])).getD (S.lines.getD k (0,0)).2 []=jQ S k (S.lines.getD k (0,0)).2:=by
    rw[Az,Cv (by omega),<- Az,kC S k n.2]
   obtain⟨p2,f2,g2,h2⟩:=n1.get (i:=(S.lines.getD k (0,0)).2) (by rw[D8,R];omega);have a4:=M p2 (AE f2);refine⟨_,rfl,_,rfl,_,_,_,_,rfl,rfl,SqT.of (s2 _ _ O),aQ (j:=1) rfl,_,_,_,_,rfl,rfl,SqL.of n1.lst,aQ g2,.inl ⟨rfl,_,SqL.of h2⟩,?_⟩;refine dO (j:=0) rfl (SqT.of (s2 _ _ O)) rfl ⟨p2,_,_,rfl,rfl,h2,aT (by rw[Ab,e2];have:=rp S k (S.lines.getD k (0,0)).2;omega),?_⟩;have n2:=n1.app (v:=(S.lines.getD k (0,0)).1) f2 (by rw[D8,R];omega);refine⟨⟨_,_,rfl⟩,aI s2 a4,?_⟩;rw[uO S hk n.1 n.2];rw[e2] at n2 ⊢;rw[kC S k (by omega)] at n2 ⊢;exact n2
  ·rintro σ c ⟨⟨u,v,rfl⟩,g,C⟩
   rw[ln.len,xF] at C;exact⟨_,rfl,q _ a as g C⟩
noncomputable def l9(S:Plan)(k:Nat):Bool:=decide ((S.near k).length<2)
inductive uk(ad:Adr)(vs:List V)(H:Hp)(Q:VK)(E:XK):Prop
 | mk (d dx lp ll lm:Ag)(S:Plan)(c0:vs=[.ref d])(c1:bW ad H d S dx lp ll lm)(c2:sW S)(c3:S.pts.length<65536)(c4:S.lines.length<65536)(c5:∀H',aM H H'->Q (plV ((aO S.pts.length (l9 S)).map adb)) H')
noncomputable abbrev zb:Stmt:=(top 38)
theorem bw(S:Plan):(cQ S).length=S.pts.length:=by unfold cQ;rw[Ab,AG]
theorem iU(S:Plan){i:Nat}(a:i<S.pts.length):(cQ S).getD i []=S.near i:=by
 unfold cQ;rw[Az,Av,B8 a];rfl
theorem abP(D:Def K mg "loose_point" zb ["drawing"])(T:Txt K mg ad)(M:Fn P w K mg base 1 "neighbours" ["drawing"] (xw ad))(O:Me P w K mg base 1 ad.drawing "point_place" ["self","k"] ads):
  Fn P w K mg base 2 "loose_point" ["drawing"] (uk ad):=by
 refine D.fx ["drawing","k","near"] ?_;rintro B f R A m s H vs Q E C ⟨d,dx,W,X,Y,S,rfl,G,Z,hn,hm,q⟩;refine⟨_,(az (a8 AJ rfl (eY (by rfl) T.aZ (ab (kxF M C (ab (pv 0) ah)) ah)) (dQ rfl (aL (kxo 1 B) (aL (kxo 2 B) cj))) (aE (cg (kxl (kxL T.cy (pv 2)) aq) (kxr (gF (pv 0) O (C.mono (by decide)) (ab (pv 1) ah))) aR))) (kxr eI)),?_⟩;refine⟨_,rfl,d,dx,W,X,Y,S,rfl,G,Z,hn,hm,fun I a as n c => ?_⟩;refine⟨a,_,rfl,SqL.of c.lst,dN (K:=K) (a:=a) (xs:=as.map V.ref) (fun i σ g=>(∃u v,σ=[some (.ref d),u,v])/\aM I g/\∀e,e<i->l9 S e=false)
  ⟨⟨none,none,rfl⟩,aM.refl I,fun e he=>absurd he (Bt e)⟩ (fun i σ g _ ⟨_,e,_⟩=>SqL.of (e _ _ c.lst)) ?_ ?_⟩
 ·rintro i x σ g t p ⟨⟨u,v,rfl⟩,r,j⟩ ht
  have y:i<S.pts.length:=by
   have:=(Aj.mp p).1;rw[Ab,c.len,bw] at this;exact this
  obtain⟨b,eb,gb,J⟩:=c.get (i:=i) (by rw[bw];exact y);rw[gb] at p;obtain rfl:=Ah p;rw[iU S y] at J;refine⟨t,_,rfl,SqT.of ag,rfl,_,_,rfl,_,_,rfl,rfl,?_⟩;have l:=r.trans (ak (o:=.tup [.int (i:Nat),.ref b]) ht);generalize upd g t (.tup [.int (i:Nat),.ref b])=H1 at *
  refine⟨_,rfl,b,_,rfl,.inl (SqL.of (l _ _ J)),_,_,rfl,rfl,_,rfl,?_⟩;rw[Ab];have e1:decide (((S.near i).length:Int)<2)=l9 S i:=by
   unfold l9;exact abn _ 2
  rw[e1];refine bX (fun z => ?_) (fun z => ?_)
  ·rw[aW y z j] at q
   exact⟨_,rfl,d,dx,_,rfl,l _ _ (n _ _ G.ob),rfl,_,rfl,d,_,rfl,q _ (n.trans l)⟩
  ·exact⟨⟨_,_,rfl⟩,l,bY j (A8.mpr z)⟩
 ·rintro σ g ⟨⟨u,v,rfl⟩,r,j⟩
  rw[Ab,c.len,bw] at j;rw[a9 j] at q;exact q _ (n.trans r)
end
noncomputable def inn(bar:Option Nat)(z:List Nat×List Nat)(o:Nat):List Nat×List Nat:=if bar=some o\/o∈z.1 then z else (z.1++[o],z.2++[o])
noncomputable def sst(a:List Nat×Array Bool)(j:Nat):List Nat×Array Bool:=if a.2.getD j true=true then a else (j::a.1,a.2.setIfInBounds j true)
structure Rl(n:Nat)(bar:Option Nat)(R:List Nat)(seen:Array Bool):Prop where
 sz:seen.size=n
 iff:∀j,j<n->(seen.getD j false=true↔(j∈R\/bar=some j))
theorem aeG{a:Array Bool}{j:Nat}(h:j<a.size):a.getD j true=a.getD j false:=by
 rw[A3,A3,CD h];rfl
theorem ad7{n:Nat}{bar:Option Nat}{R W todo:List Nat}{seen:Array Bool}(h:Rl n bar R seen)(a:W=todo.reverse){o:Nat}(b:o<n):
  Rl n bar (inn bar (R,W) o).1 (sst (todo,seen) o).2/\(inn bar (R,W) o).2=(sst (todo,seen) o).1.reverse /\
  (inn bar (R,W) o).1.length+todo.length=R.length+(sst (todo,seen) o).1.length:=by
 have k:=h.iff o b;unfold inn sst;dsimp only;rw[aeG (by rw[h.sz];exact b)]
 by_cases c:bar=some o\/o∈R
 ·rw[As c,As (k.mpr c.symm)]
  exact⟨h,a,rfl⟩
 ·rw[Ar c,Ar (fun z=>c ((k.mp z).symm))]
  refine⟨⟨by rw[BV];exact h.sz,fun j d => ?_⟩,?_,?_⟩
  ·by_cases e:j=o
   ·subst e
    have e1:(seen.setIfInBounds j true).getD j false=true:=by
     rw[A3,Ca (by rw[h.sz];exact d)];rfl
    exact⟨fun _=>.inl (Au _ (Ao.mpr rfl)),fun _=>e1⟩
   ·rw[A3,Bq (Ne.symm e),<- A3,h.iff j d]
    constructor
    ·rintro(z|z)
     ·exact .inl (AM _ z)
     ·exact .inr z
    ·rintro(z|z)
     ·rcases A4.mp z with y|y
      ·exact .inl y
      ·exact absurd (Ao.mp y) e
     ·exact .inr z
  ·rw[IY,a]
  ·rw[Al,A7];simp only[A7,D9];omega
theorem yO{n:Nat}{bar:Option Nat}:∀(a:List Nat){R W todo:List Nat}{seen:Array Bool},Rl n bar R seen->W=todo.reverse->(∀o∈a,o<n) ->
  Rl n bar (a.foldl (inn bar) (R,W)).1 (a.foldl sst (todo,seen)).2/\(a.foldl (inn bar) (R,W)).2=(a.foldl sst (todo,seen)).1.reverse /\
  (a.foldl (inn bar) (R,W)).1.length+todo.length=R.length+(a.foldl sst (todo,seen)).1.length
 | [],_,_,_,_,h,hw,_=>⟨h,hw,rfl⟩
 | o::r,R,W,todo,seen,h,hw,ho=>by
  obtain⟨c,d,i⟩:=ad7 h hw (ho o (Ad ..));obtain⟨k1,b,e⟩:=yO r (R:=(inn bar (R,W) o).1) (W:=(inn bar (R,W) o).2) (todo:=(sst (todo,seen) o).1) (seen:=(sst (todo,seen) o).2) c d (fun x f=>ho x (Ac _ f));have e1:((inn bar (R,W) o).1,(inn bar (R,W) o).2)=inn bar (R,W) o:=rfl;have g:((sst (todo,seen) o).1,(sst (todo,seen) o).2)=sst (todo,seen) o:=rfl;rw[e1,g] at k1 b e;exact⟨k1,b,by rw[BK,BK];omega⟩
structure Rk(n:Nat)(bar:Option Nat)(R W:List Nat):Prop where
 nd:R.Nodup
 lt:∀j∈R,j<n
 sub:∀j∈W,j<n
 wl:W.length<=R.length
 nb:∀p,bar=some p->p ∉ R
theorem ae6{n:Nat}{bar:Option Nat}{R W:List Nat}(h:Rk n bar R W){o:Nat}(b:o<n):Rk n bar (inn bar (R,W) o).1 (inn bar (R,W) o).2:=by
 unfold inn;dsimp only
 by_cases c:bar=some o\/o∈R
 ·rw[As c];exact h
 ·rw[Ar c]
  refine⟨tV h.nd fun z=>c (.inr z),fun j a => ?_,fun j a => ?_,by rw[Al,Al];have:=h.wl;simp only[A7,D9];omega,fun p d e => ?_⟩
  ·rcases A4.mp a with z|z
   ·exact h.lt j z
   ·rw[Ao.mp z];exact b
  ·rcases A4.mp a with z|z
   ·exact h.sub j z
   ·rw[Ao.mp z];exact b
  ·rcases A4.mp e with z|z
   ·exact h.nb p d z
   ·exact c (.inl (by rw[d,Ao.mp z]))
theorem uc{n:Nat}{bar:Option Nat}:∀(a:List Nat){R W:List Nat},Rk n bar R W->(∀o∈a,o<n)->Rk n bar (a.foldl (inn bar) (R,W)).1 (a.foldl (inn bar) (R,W)).2
 | [],_,_,h,_=>h
 | o::r,R,W,h,ho=>uc r (R:=(inn bar (R,W) o).1) (W:=(inn bar (R,W) o).2) (ae6 h (ho o (Ad ..))) (fun x b=>ho x (Ac _ b))
theorem zp{bar:Option Nat}:∀(a:List Nat)(z:List Nat×List Nat),z.1.length<=(a.foldl (inn bar) z).1.length
 | [],z=>Ak _
 | o::r,z=>by
  refine Br ?_ (zp r (inn bar z o));unfold inn
  split
  ·exact Ak _
  ·rw[Al];omega
theorem wJ{n:Nat}{bar:Option Nat}{R W:List Nat}(h:Rk n bar R W):R.length<=n:=by
 have:=h.nd.length_le_of_subset (l₂:=An n) (fun j a=>A6.mpr (h.lt j a));rw[AG] at this;exact this
theorem uj(near:Array (List Nat))(f k:Nat)(r:List Nat)(seen:Array Bool):Gv near (f+1) (k::r) seen=Gv near f ((near.getD k []).foldl sst (r,seen)).1 ((near.getD k []).foldl sst (r,seen)).2:=rfl
theorem xo(near:Array (List Nat))(f:Nat)(seen:Array Bool):Gv near f [] seen=seen:=by cases f <;> rfl
noncomputable def dkV(R:List Nat):List (Key×V):=R.map fun(j:Nat)=>(Cm (j:Int),V.bl true)
theorem vt(R:List Nat)(o:Nat):iV (dkV R) (Cm (o:Int))=if o∈R then some (.bl true) else Option.none:=by
 induction R with
 | nil=>rfl
 | cons a r b =>
  by_cases e:a=o
  ·subst e
   rw[As (Ad ..)];exact bU (p:=(Cm (a:Int),V.bl true)) rfl
  ·have:iV (dkV (a::r)) (Cm (o:Int))=iV (dkV r) (Cm (o:Int)):=bS (p:=(Cm (a:Int),V.bl true)) (fun z=>e (by have:=F5 z;omega))
   rw[this,b]
   by_cases m:o∈r
   ·rw[As m,As (Ac _ m)]
   ·rw[Ar m,Ar (fun z=>(Am.mp z).elim (fun y=>e y.symm) m)]
theorem ac0{R:List Nat}{o:Nat}(h:¬o∈R):putK (dkV R) (Cm (o:Int)) (V.bl true)=dkV (R++[o]):=by
 rw[vR _ (by rw[vt,Ar h])];unfold dkV;rw[Ay];rfl
noncomputable def xf(n:Nat)(bar:Option Nat)(s:Nat):Array Bool:=(match bar with
 | none=>DI n
 | some p=>(DI n).setIfInBounds p true).setIfInBounds s true
theorem abO{n s:Nat}{bar:Option Nat}(f:s<n)(g:∀p,bar=some p->p<n):Rl n bar [s] (xf n bar s):=by
 have c:∀b:Option Nat,(match b with|none=>DI n|some p=>(DI n).setIfInBounds p true).size=n:=by
  intro b;cases b with
  | none=>exact CO
  | some p=>rw[BV];exact CO
 have d:∀j,j<n->(DI n).getD j false=false:=by
  intro j a;unfold DI;rw[A3,EF,As a];rfl
 refine⟨by unfold xf;rw[BV];exact c bar,fun j a => ?_⟩;unfold xf
 by_cases e:j=s
 ·subst e
  rw[A3,Ca (by rw[c bar];exact a)];exact⟨fun _=>.inl (Ao.mpr rfl),fun _=>rfl⟩
 ·rw[A3,Bq (Ne.symm e),<- A3]
  cases bar with
  | none =>
   dsimp only;rw[d j a]
   constructor
   ·intro z;cases z
   ·rintro(z|z)
    ·exact absurd (Ao.mp z) e
    ·cases z
  | some p =>
   dsimp only
   by_cases ep:j=p
   ·subst ep
    rw[A3,Ca (by unfold DI;rw[CO];exact a)];exact⟨fun _=>.inr rfl,fun _=>rfl⟩
   ·rw[A3,Bq (Ne.symm ep),<- A3,d j a]
    constructor
    ·intro z;cases z
    ·rintro(z|z)
     ·exact absurd (Ao.mp z) e
     ·injection z with z;exact absurd z.symm ep
section
variable{P:AI}{w:AZ}{K:Lf}{mg:Lg}{base:B1}{ad:Adr}
inductive mV(vs:List V)(H:Hp)(Q:VK)(E:XK):Prop
 | mk (a:Ag)(as:List Ag)(nl:List (List Nat))(s:Nat)(bar:Option Nat)(c0:vs=[.ref a,.int s,abl bar])(c1:NA H a as nl)(c2:s<nl.length)(c3:nl.length<65536)(c4:bar≠some s)(c5:(∀p,bar=some p->p<nl.length))(c6:(∀l∈nl,∀o∈l,o<nl.length))(c7:∀H' r R,aM H H'->H' r=some (.dK (dkV R))->Rk nl.length bar R []->Rl nl.length bar R (Gv nl.toArray (nl.length+1) [s] (xf nl.length bar s))->Q (.ref r) H')
noncomputable abbrev zo:Stmt:=(top 39)
theorem acD(D:Def K mg "reach" zo ["near","start","barred"]):Fn P w K mg base 1 "reach" ["near","start","barred"] mV:=by
 refine D.fx ["near","start","barred","reached","waiting","point","other"] ?_;rintro nd f ae A a4 s H vs Q E hr ⟨a,as,d,st,bar,rfl,na,hs,hn,hb,a5,a6,q⟩;have hu:=rZ hr;refine⟨_,(kxs 3 nd (aeY (abX (pv 1) iF aep) rfl rfl (by decide) (by decide)) (kxs 4 nd (aP (ab (pv 1) ah)) (az (vG AJ (aX (pv 4) (fun _=>rfl)) (kxs 5 nd (agS ES PySem.F.slot_list_pop PySem.F.type_list_pop agU (pv 4)) (aE (a8 AJ rfl (aY (kxI (pv 0) (pv 5))) (kxo 6 nd) (aE (cg ((k9 (kxn (pv 6) (pv 2)) (gD (gg (gA hu (pv 6) (pv 3)))))).pt (az (uA hu (pv 3) (pv 6) iF rfl) (aE (cS (kxA (pv 4) (pv 6))))) aR)))))) (kxr (pv 3))))),?_⟩;intro r O;refine⟨_,rfl,ag,[(Cm (st:Int),.bl true)],rfl,by show 1<=15;decide,?_⟩;have er:upd (upd H r (.dK [])) r (.dK (oV [] [(Cm (st:Int),.bl true)]))=upd H r (.dK (dkV [st])):=by rw[bQ];rfl
 refine⟨_,rfl,by show 1<=sizeLine;decide,fun C hw => ?_⟩;rw[er] at hw ⊢;have g:r≠C:=aB (H:=upd H r (.dK (dkV [st]))) ag hw;have S:H C=Option.none:=(ak O).free hw;dsimp only[rF,afs];refine vq (fun σ G=>∃(R W todo:List Nat)(seen:Array Bool)(Z:Nat)(u v:Option V),σ=[some (.ref a),some (.int st),some (abl bar),some (.ref r),some (.ref C),u,v]/\aM H G/\G r=some (.dK (dkV R))/\G C=some (.lst (W.map fG)) /\
   W=todo.reverse/\Rk d.length bar R W/\Rl d.length bar R seen/\Gv d.toArray (d.length+1) [st] (xf d.length bar st)=Gv d.toArray Z todo seen/\todo.length+(d.length-R.length)<Z)
  (fun σ G=>match G C,G r with|some (.lst xs),some (.dK kvs)=>xs.length+2*(d.length-kvs.length)|_,_=>0) ?_ ?_ ?_
 ·refine⟨[st],[st],[st],xf d.length bar st,d.length+1,none,none,rfl,aI (ak O) S,?_,ag,rfl,⟨by simp,fun j I => ?_,fun j I => ?_,Ak _,fun p hp hm=>hb (by rw[hp,Ao.mp hm])⟩,abO hs a5,rfl,by simp;omega⟩
  ·rw[aw g];exact ag
  ·rw[Ao.mp I];exact hs
  ·rw[Ao.mp I];exact hs
 ·rintro σ G ⟨R,W,todo,seen,Z,u,v,rfl,sH,hR,hW,ew,m,rl,T,hf⟩
  refine⟨_,rfl,!(W.map fG).isEmpty,.inl ⟨_,SqL.of hW,rfl⟩,?_⟩;cases todo with
  | nil =>
   have:W=[]:=ew;subst this;refine jt ⟨_,rfl,?_⟩;rw[xo] at T;rw[<- T] at rl;exact q _ r R sH hR ⟨m.nd,m.lt,fun j I=>(nomatch I),AN _,m.nb⟩ rl
  | cons k c =>
   have J:W=c.reverse++[k]:=by rw[ew,IY]
   have hne:(!(W.map fG).isEmpty)=true:=by rw[J,Ay];simp
   rw[hne];refine jO ?_;have hk:k<d.length:=m.sub k (by rw[J];exact Au _ (Ao.mpr rfl));have eL:(W.map fG)=c.reverse.map fG++[fG k]:=by rw[J,Ay];rfl
   refine⟨_,rfl,.inl ⟨rfl,_,SqL.of hW⟩,C,_,fG k,rfl,rfl,hW,?_,?_⟩
   ·rw[eL,Al,A7,D9,Nat.add_sub_cancel,Aw (Ak _),BE];rfl
   rw[eL,List.dropLast_concat];obtain⟨p,fp,gp,hp⟩:=na.get hk;have s1:aM H (upd G C (.lst (c.reverse.map fG))):=aI sH S;obtain⟨f',rfl⟩:∃f',Z=f'+1:=⟨Z-1,by omega⟩;have n:∀o∈d.getD k [],o<d.length:=by
    intro o ho;refine a6 (d.getD k []) ?_ o ho;rw[Az,Aa hk];exact AX hk
   have M:=T.trans (uj d.toArray f' k c seen);have eA:d.toArray.getD k []=d.getD k []:=by
    rw[A3,Hy,Az]
   rw[eA] at M;have a7:(upd G C (.lst (c.reverse.map fG))) r=some (.dK (dkV R)):=by rw[aw g];exact hR
   refine⟨_,rfl,_,rfl,a,_,_,_,rfl,rfl,SqL.of (s1 _ _ na.lst),aQ gp,p,rfl,⟨_,SqL.of (s1 _ _ hp)⟩,bB (K:=K) (a:=p) (xs:=(d.getD k []).map fG)
    (fun e σ X=>(∃v,σ=[some (.ref a),some (.int st),some (abl bar),some (.ref r),some (.ref C),some (fG k),v])/\aM H X/\X r=some (.dK (dkV (((d.getD k []).take e).foldl (inn bar) (R,c.reverse)).1))/\X C=some (.lst ((((d.getD k []).take e).foldl (inn bar) (R,c.reverse)).2.map fG)))
    ⟨⟨_,rfl⟩,s1,a7,ag⟩ (fun i σ X _ ⟨_,e,_⟩=>SqL.of (e _ _ hp)) ?_ ?_⟩
   ·rintro e x σ X hx ⟨⟨v,rfl⟩,s2,l,B⟩
    obtain⟨o,eo,rfl⟩:=nG hx;have om:o∈d.getD k []:=AE eo;have aa:((d.getD k []).take (e+1)).foldl (inn bar) (R,c.reverse)=inn bar (((d.getD k []).take e).foldl (inn bar) (R,c.reverse)) o:=by
     rw[take_snoc eo,El];rfl
    have Y:Rk d.length bar (((d.getD k []).take e).foldl (inn bar) (R,c.reverse)).1 (((d.getD k []).take e).foldl (inn bar) (R,c.reverse)).2 :=
     uc _ ⟨m.nd,m.lt,fun j I=>m.sub j (by rw[J];exact AM _ I),by have:=m.wl;rw[J,Al] at this;omega,m.nb⟩ (fun o ho=>n o (FA ho))
    rw[aa];generalize ((d.getD k []).take e).foldl (inn bar) (R,c.reverse)=z at *
    refine⟨_,rfl,_,rfl,by cases bar <;> rfl,_,rfl,bX (fun c1 => ?_) (fun c1 => ?_)⟩
    ·have nb:bar≠some o:=by
      intro eb;rw[eb] at c1;simp[abl] at c1
     refine⟨_,rfl,_,rfl,r,_,rfl,vZ.k (k:=Cm (o:Int)) l,_,rfl,?_⟩;rw[vt]
     by_cases mem:o∈z.1
     ·rw[As mem]
      refine jt ⟨⟨_,rfl⟩,s2,?_,?_⟩
      ·unfold inn;rw[As (.inr mem)];exact l
      ·unfold inn;rw[As (.inr mem)];exact B
     ·rw[Ar mem]
      refine jO ⟨_,rfl,_,rfl,r,_,rfl,ab4.k (k:=Cm (o:Int)) l (aT (by unfold dkV;rw[Ab];have:=wJ Y;omega)),?_⟩;rw[ac0 mem];have s3:=aI (o:=.dK (dkV (z.1++[o]))) s2 O;have a0:(upd X r (.dK (dkV (z.1++[o])))) C=some (.lst (z.2.map fG)):=by rw[aw (Ne.symm g)];exact B
      refine⟨_,rfl,.inl ⟨rfl,_,SqL.of a0⟩,_,rfl,C,_,_,rfl,rfl,a0,?_,?_⟩
      ·exact aT (by rw[Ab];have:=Y.wl;have:=wJ Y;omega)
      ·refine⟨⟨_,rfl⟩,aI s3 S,?_,?_⟩
       ·unfold inn
        rw[Ar (fun y=>y.elim nb mem),aw g];exact ag
       ·unfold inn
        rw[Ar (fun y=>y.elim nb mem),ag,Ay];rfl
    ·have eb:bar=some o:=by
      cases bar with
      | none=>exact absurd rfl c1
      | some b =>
       have:(o:Int)=(b:Int):=by simpa[abl] using c1
       rw[show o=b by omega]
     refine jt ⟨⟨_,rfl⟩,s2,?_,?_⟩
     ·unfold inn;rw[As (.inl eb)];exact l
     ·unfold inn;rw[As (.inl eb)];exact B
   ·rintro σ X ⟨⟨v,rfl⟩,s2,l,B⟩
    rw[Ab,BG] at l B;obtain⟨f1,f2,f3⟩:=yO (d.getD k []) rl (W:=c.reverse) (todo:=c) rfl n;have a3:=uc (bar:=bar) (d.getD k []) (R:=R) (W:=c.reverse) ⟨m.nd,m.lt,fun j I=>m.sub j (by rw[J];exact AM _ I),by have:=m.wl;rw[J,Al] at this;omega,m.nb⟩ n;have l0:R.length<=((d.getD k []).foldl (inn bar) (R,c.reverse)).1.length:=zp (bar:=bar) (d.getD k []) (R,c.reverse);have l1:=wJ a3;have l2:=wJ m;have l3:c.length+1+(d.length-R.length)<f'+1:=hf;refine⟨⟨_,_,_,_,f',_,_,rfl,s2,l,B,f2,a3,f1,M,by omega⟩,?_⟩;rw[B,l,hW,hR];dsimp only;rw[f2,J];simp only[Ab,List.length_reverse,Al,A7,D9,dkV];omega
 ·rintro σ H Q Q' hQ ⟨v,e,k,t,z⟩
  exact⟨v,e,k,t,hQ _ _ z⟩
end
theorem aab{S:Plan}(b:sW S):∀l∈cQ S,∀o∈l,o<(cQ S).length:=by
 intro l c o a;rw[bw];obtain⟨i,_,rfl⟩:=Ax.mp c;unfold Plan.near at a;obtain⟨m,d,e⟩:=EK.mp a;have:=b m d
 split at e
 ·injection e with e;omega
 ·split at e
  ·injection e with e;omega
  ·cases e
section
variable{P:AI}{w:AZ}{K:Lf}{mg:Lg}{base:B1}{ad:Adr}
noncomputable def q5(S:Plan)(i:Nat):Bool := !((Kv S.nears S.pts.length 0 (DI S.pts.length)).getD i false)
inductive aaA(ad:Adr)(vs:List V)(H:Hp)(Q:VK)(E:XK):Prop
 | mk (d dx lp ll lm:Ag)(S:Plan)(c0:vs=[.ref d])(c1:bW ad H d S dx lp ll lm)(c2:sW S)(c3:2<=S.pts.length)(c4:S.pts.length<65536)(c5:S.lines.length<65536)(c6:∀H',aM H H'->Q (plV ((aO S.pts.length (q5 S)).map adb)) H')
noncomputable abbrev ady:Stmt:=(top 40)
theorem ad1(D:Def K mg "lone_point" ady ["drawing"])(T:Txt K mg ad)(J:Fn P w K mg base 1 "neighbours" ["drawing"] (xw ad))(M:Fn P w K mg base 1 "reach" ["near","start","barred"] mV)(O:Me P w K mg base 1 ad.drawing "point_place" ["self","k"] ads):
  Fn P w K mg base 2 "lone_point" ["drawing"] (aaA ad):=by
 refine D.fx ["drawing","reached","k"] ?_;rintro B f W A n s H vs Q E j ⟨d,dx,C,X,Y,S,rfl,l,G,h2,Z,hm,q⟩;have hu:=rZ j;obtain⟨ps,pl⟩:=l.pts.pts;refine⟨_,(kxs 1 B (kxF M j (ab (kxF J j (ab (pv 0) ah)) (ab aq (ab eI ah)))) (az (a8 AJ rfl (rD (by rfl) T.eM (ab (kxL T.cy (aA (pv 0) rfl)) ah)) (kxo 2 B) (aE (cg (gg (gA hu (pv 2) (pv 1))) (kxr (gF (pv 0) O (j.mono (by decide)) (ab (pv 2) ah))) aR))) (kxr eI))),?_⟩;refine⟨_,rfl,d,dx,C,X,Y,S,rfl,l,G,Z,hm,fun H0 a as s0 na => ?_⟩;have NL:=bw S;refine⟨a,as,cQ S,0,none,rfl,na,by omega,by omega,(fun z=>nomatch z),(fun p z=>nomatch z),aab G,fun H1 r R s1 hR rk I => ?_⟩;rw[NL] at rk I;have key:∀i,i<S.pts.length->q5 S i = !decide (i∈R):=by
  intro i b;have:=I.iff i b;unfold q5
  congr 1
  by_cases c:i∈R
  ·rw[AD c];exact this.mpr (.inl c)
  ·rw[AR c]
   refine A8.mpr fun z => ?_;rcases this.mp z with y|y
   ·exact c y
   ·cases y
 have g:=s0.trans s1;refine⟨_,rfl,fl (g _ _ l.ob) T.draw qR ⟨C,ps,rfl,.inl (SqL.of (g _ _ pl.lst)),_,rfl,by omega,by rw[pl.len];omega,?_⟩⟩;rw[show((ps.length:Nat):Int).toNat=S.pts.length by rw[pl.len];omega];refine mP (fun i σ o=>(∃v,σ=[some (.ref d),some (.ref r),v])/\o=H1/\∀e,e<i->q5 S e=false) ⟨⟨none,rfl⟩,rfl,fun e he=>absurd he (Bt e)⟩ ?_ ?_
 ·rintro i σ o b ⟨⟨v,rfl⟩,rfl,m⟩
  rw[IZ];refine⟨_,rfl,_,rfl,r,_,rfl,vZ.k (k:=Cm (i:Int)) hR,_,rfl,?_⟩;rw[vt]
  by_cases c:i∈R
  ·rw[As c]
   exact jt ⟨⟨_,rfl⟩,rfl,bY m (by rw[key i b,AD c];rfl)⟩
  ·rw[Ar c]
   have u:q5 S i=true:=by rw[key i b,AR c];rfl
   rw[aW b u m] at q;exact jO ⟨_,rfl,d,dx,_,rfl,g _ _ l.ob,rfl,_,rfl,d,_,rfl,q _ g⟩
 ·rintro σ o ⟨⟨v,rfl⟩,rfl,m⟩
  rw[a9 m] at q;exact q _ g
noncomputable def rC(S:Plan)(i:Nat):Bool:=Ld S.nears S.pts.length i
theorem acr{n k:Nat}{R:List Nat}{seen:Array Bool}(A:k<n)(o:Rk n (some k) R [])(d:Rl n (some k) R seen):seen.contains false=decide ((R.length:Int)<(n:Int)-1):=by
 have p:=o.nb k rfl;have g:(k::R).Nodup:=Bx.mpr ⟨p,o.nd⟩;have b:(k::R) ⊆ An n:=fun j a=>by
  rcases Am.mp a with z|z
  ·rw[z];exact A6.mpr A
  ·exact A6.mpr (o.lt j z)
 have q:=g.length_le_of_subset b;rw[AG,A7] at q
 by_cases c:(R.length:Int)<(n:Int)-1
 ·rw[AD c]
  have B:∃j,j<n/\j ∉ (k::R):=by
   refine AU fun C => ?_;have l:An n ⊆ (k::R):=fun j a=>AU fun z=>C ⟨j,A6.mp a,z⟩;have r:=(Fu (n:=n)).length_le_of_subset l;rw[AG,A7] at r;omega
  obtain⟨j,a,s⟩:=B;have f:seen.getD j false=false:=by
   refine A8.mpr fun z=>s ?_;rcases(d.iff j a).mp z with y|y
   ·exact Ac _ y
   ·injection y with y;rw[y];exact Ad ..
  rw[Fe];rw[A3,CD (by rw[d.sz];exact a)] at f;rw[show false=seen[j]'(by rw[d.sz];exact a) from f.symm];exact IS _
 ·rw[AR c]
  refine A8.mpr fun z => ?_;rw[Fe] at z;obtain⟨j,a,e⟩:=Array.mem_iff_getElem.mp z;rw[d.sz] at a;have s:j ∉ (k::R):=fun m=>by
   have t:seen.getD j false=true:=(d.iff j a).mpr (by
    rcases Am.mp m with y|y
    ·exact .inr (by rw[y])
    ·exact .inl y)
   rw[A3,CD (by rw[d.sz];exact a)] at t;rw[GY,e] at t;cases t
  have u:(j::k::R).Nodup:=Bx.mpr ⟨s,g⟩;have v:=u.length_le_of_subset (l₂:=An n) (fun i E=>by
   rcases Am.mp E with y|y
   ·rw[y];exact A6.mpr a
   ·exact b y)
  rw[AG,A7,A7] at v;omega
inductive aaq(ad:Adr)(vs:List V)(H:Hp)(Q:VK)(E:XK):Prop
 | mk (d dx lp ll lm:Ag)(S:Plan)(c0:vs=[.ref d])(c1:bW ad H d S dx lp ll lm)(c2:sW S)(c3:2<=S.pts.length)(c4:S.pts.length<65536)(c5:S.lines.length<65536)(c6:∀H',aM H H'->Q (plV ((aO S.pts.length (rC S)).map adb)) H')
noncomputable abbrev ado:Stmt:=(top 41)
theorem adY(D:Def K mg "only_link" ado ["drawing"])(T:Txt K mg ad)(aU:Fn P w K mg base 1 "neighbours" ["drawing"] (xw ad))(kO:Fn P w K mg base 1 "reach" ["near","start","barred"] mV)(aK:Me P w K mg base 1 ad.drawing "point_place" ["self","k"] ads):
  Fn P w K mg base 2 "only_link" ["drawing"] (aaq ad):=by
 refine D.fx ["drawing","near","k","start"] ?_;rintro I f a0 A J s H vs Q E C ⟨d,dx,G,ll,lm,S,rfl,c,Y,h2,hn,hm,q⟩;have hu:=rZ C;obtain⟨ps,pl⟩:=c.pts.pts;refine⟨_,(kxs 1 I (kxF aU C (ab (pv 0) ah)) (az (a8 AJ rfl (rD (by rfl) T.eM (ab (kxL T.cy (aA (pv 0) rfl)) ah)) (kxo 2 I) (kxs 3 I (abQ (kxq (pv 2) aq) aq aq) (aE (cg (kxl (dJ rT (by rfl) T.cy HI (ab (kxF kO C (ab (pv 1) (ab (pv 3) (ab (pv 2) ah)))) ah)) (aV dE (kxL T.cy (aA (pv 0) rfl)) aq)) (kxr (gF (pv 0) aK (C.mono (by decide)) (ab (pv 2) ah))) aR)))) (kxr eI))),?_⟩;refine⟨_,rfl,d,dx,G,ll,lm,S,rfl,c,Y,hn,hm,fun Z a as n na => ?_⟩;have NL:=bw S;refine⟨_,rfl,fl (n _ _ c.ob) T.draw qR ⟨G,ps,rfl,.inl (SqL.of (n _ _ pl.lst)),_,rfl,by omega,by rw[pl.len];omega,?_⟩⟩;rw[show((ps.length:Nat):Int).toNat=S.pts.length by rw[pl.len];omega];refine mP (fun i σ o=>(∃u v,σ=[some (.ref d),some (.ref a),u,v])/\aM Z o/\∀e,e<i->rC S e=false) ⟨⟨none,none,rfl⟩,aM.refl Z,fun e he=>absurd he (Bt e)⟩ ?_ ?_
 ·rintro i σ o M ⟨⟨u,v,rfl⟩,g,m⟩
  rw[IZ];have go:∀st:Nat,st=(if i=0 then 1 else 0)->∀(O:VK),(∀H1 r R,aM o H1->H1 r=some (.dK (dkV R))->rC S i=decide ((R.length:Int)<(S.pts.length:Int)-1)->O (.ref r) H1)->mV [.ref a,.int (st:Int),.int (i:Int)] o O E0:=by
   intro st j O hQ;refine⟨a,as,cQ S,st,some i,rfl,na.same g,by split at j <;> omega,by omega,by intro z;injection z with z;split at j <;> omega,by intro p z;injection z with z;omega,aab Y,fun H1 r R l B rk rl=>hQ H1 r R l B ?_⟩;rw[NL] at rk rl;rw[<- acr M rk rl,j];rfl
  refine⟨_,rfl,rfl,_,rfl,?_⟩;refine bX (fun z => ?_) (fun z => ?_)
  ·have W:i=0:=by
    have:=AV z;injection this with this;omega
   refine⟨_,rfl,_,rfl,_,rfl,xZ <| go 1 (by rw[As W]) _ fun H1 r R l B X => ?_⟩;have b:=(n.trans g).trans l;refine⟨r,_,rfl,B,_,rfl,fl (b _ _ c.ob) T.draw qR ⟨G,ps,rfl,.inl (SqL.of (b _ _ pl.lst)),_,_,rfl,rfl,_,_,rfl,rfl,_,rfl,?_⟩⟩;have e1:(decide (((dkV R).length:Int)<(ps.length:Int)-1))=rC S i:=by
    rw[X,pl.len];unfold dkV;rw[Ab]
   rw[e1];refine bX (fun y => ?_) (fun y => ?_)
   ·rw[aW M y m] at q
    exact⟨_,rfl,d,dx,_,rfl,b _ _ c.ob,rfl,_,rfl,d,_,rfl,q _ b⟩
   ·exact⟨⟨_,_,rfl⟩,g.trans l,bY m (A8.mpr y)⟩
  ·have W:¬i=0:=fun y=>z (AD (by rw[y];rfl))
   refine⟨_,rfl,_,rfl,_,rfl,xZ <| go 0 (by rw[Ar W]) _ fun H1 r R l B X => ?_⟩;have b:=(n.trans g).trans l;refine⟨r,_,rfl,B,_,rfl,fl (b _ _ c.ob) T.draw qR ⟨G,ps,rfl,.inl (SqL.of (b _ _ pl.lst)),_,_,rfl,rfl,_,_,rfl,rfl,_,rfl,?_⟩⟩;have e1:(decide (((dkV R).length:Int)<(ps.length:Int)-1))=rC S i:=by
    rw[X,pl.len];unfold dkV;rw[Ab]
   rw[e1];refine bX (fun y => ?_) (fun y => ?_)
   ·rw[aW M y m] at q
    exact⟨_,rfl,d,dx,_,rfl,b _ _ c.ob,rfl,_,rfl,d,_,rfl,q _ b⟩
   ·exact⟨⟨_,_,rfl⟩,g.trans l,bY m (A8.mpr y)⟩
 ·rintro σ o ⟨⟨u,v,rfl⟩,g,m⟩
  rw[a9 m] at q;exact q _ (n.trans g)
end
open Geo (ao)
open Geo.Rules (orb ows)
noncomputable def wkV(L:List (Nat×Nat)):List (List Key×V):=L.map fun(e:Nat×Nat)=>([Cm (e.1:Int),Cm (e.2:Int)],V.bl true)
noncomputable def wkK(e:Nat×Nat):List Key := [Cm (e.1:Int),Cm (e.2:Int)]
theorem ae0{e f:Nat×Nat}(h:wkK e=wkK f):e=f:=by
 unfold wkK at h;injection h with h1 h2
 injection h2 with h2 _
 have a:=F5 h1;have b:=F5 h2;exact JM (by omega) (by omega)
theorem aa0(L:List (Nat×Nat))(e:Nat×Nat):iV (wkV L) (wkK e)=if e∈L then some (.bl true) else Option.none:=by
 induction L with
 | nil=>rfl
 | cons a r b =>
  by_cases h:a=e
  ·subst h
   rw[As (Ad ..)];exact bU (p:=(wkK a,V.bl true)) rfl
  ·have:iV (wkV (a::r)) (wkK e)=iV (wkV r) (wkK e):=bS (p:=(wkK a,V.bl true)) (fun z=>h (ae0 z))
   rw[this,b]
   by_cases m:e∈r
   ·rw[As m,As (Ac _ m)]
   ·rw[Ar m,Ar (fun z=>(Am.mp z).elim (fun y=>h y.symm) m)]
theorem agd{L:List (Nat×Nat)}{e:Nat×Nat}(h:¬e∈L):putK (wkV L) (wkK e) (V.bl true)=wkV (L++[e]):=by
 rw[vR _ (by rw[aa0,Ar h])];unfold wkV;rw[Ay];rfl
def fR(H a:Hp)(d:Ag):Prop:=∀b o,H b=some o->b≠d->a b=some o
theorem fR.trans{H H1 f:Hp}{d:Ag}(a:fR H H1 d)(b:fR H1 f d):fR H f d:=fun c o e n=>b c o (a c o e n) n
theorem fR.of{H a:Hp}{d:Ag}(s:aM H a):fR H a d:=fun c o e _=>s c o e
theorem yQ{H a:Hp}{d:Ag}{o:HO}(s:fR H a d):fR H (upd a d o) d:=fun b u e n=>by rw[aw n];exact s b u e n
theorem aaa{H a:Hp}{d p:Ag}{o:HO}(s:fR H a d)(h:H p=AK):fR H (upd a p o) d:=fun b u e n=>by
 rw[aw (aB e h)];exact s b u e n
theorem PL.ae9{H c:Hp}{a d dx:Ag}{pts:List Pt}{xs:List V}(h:PL H a pts xs)(s:fR H c d){b:List (List Key×V)}(e:H d=some (.dT b)):PL c a pts xs :=
 ⟨s _ _ h.lst (d5 h.lst e),h.len,fun i f=>let ⟨p,e1,e2⟩:=h.at_ i f;⟨p,e1,s _ _ e2 (d5 e2 e)⟩⟩
theorem NA.ae9{H c:Hp}{a d:Ag}{as:List Ag}{f:List (List Nat)}(h:NA H a as f)(s:fR H c d){b:List (List Key×V)}(g:H d=some (.dT b)):NA c a as f :=
 ⟨s _ _ h.lst (d5 h.lst g),h.nd,h.ne,h.len,fun i p e=>s _ _ (h.at_ i p e) (d5 (h.at_ i p e) g)⟩
section
variable{P:AI}{w:AZ}{K:Lf}{mg:Lg}{base:B1}{ad:Adr}
inductive zv(vs:List V)(H:Hp)(Q:VK)(E:XK):Prop
 | mk (a b d:Ag)(as:List Ag)(S:Plan)(xs:List V)(s:Nat×Nat)(Wd:List (Nat×Nat))(c0:vs=[.ref a,.ref b,.int s.1,.int s.2,.ref d])(c1:PL H a S.pts xs)(c2:SmP S.pts)(c3:NA H b as (cQ S))(c4:Geo.Rules S)(c5:s∈CZ S)(c6:H d=some (.dT (wkV Wd)))(c7:(∀e∈ows S s,e ∉ Wd))(c8:Wd.length<=200000)(c9:S.lines.length<65536)(c10:∀H' o,fR H H' d->H' d=some (.dT (wkV (Wd++ows S s)))->H o=none->H' o=some (.lst ((orb S s).map fG))->Q (.ref o) H')
noncomputable abbrev ac4:Stmt:=(top 21)
theorem b9{n:Nat}(h:n<1000000):n<sizeLine:=by
 have:(1000000:Nat)<sizeLine:=by decide
 omega
theorem aei(D:Def K mg "walk_round" ac4 ["points","near","first","second","walked"])(kP:Fn P w K mg base 3 "leftmost" ["points","others","here","there"] ah9):Fn P w K mg base 4 "walk_round" ["points","near","first","second","walked"] zv:=by
 refine D.fx ["points","near","first","second","walked","outline","here","there","onward"] ?_;rintro C f ae A a0 s H vs Q E hr ⟨a,b,d,as,S,xs,s,g,rfl,pl,sm,na,R,G,hd,hW,hl,hm,q⟩;have hu:=rZ hr;obtain⟨m,m0,em,n,eo,ew⟩:=R.b7 G;have aa:m<=2*S.lines.length:=by
  have:(ows S s).length<=(CZ S).length:=by
   refine Ci ?_ (fun e he=>R.mB G he);rw[ew];have:=R.ok.gL G n (i:=0) (j:=m) (Ak _);rw[DU,<- DF] at this;exact this
  rw[ew,Ab,AG,R.fH] at this;exact this
 have J:∀k,(ao S).it k s∈CZ S:=fun k=>R.ok.bP G k;refine⟨_,(kxs 5 C (aP ah) (kxs 6 C (pv 2) (kxs 7 C (pv 3) (az (vG AJ (gg (gA hu (df (ab (pv 6) (ab (pv 7) ah))) (pv 4))) (az (uA hu (pv 4) (df (ab (pv 6) (ab (pv 7) ah))) iF rfl) (kxe (kxA (pv 5) (pv 6)) (kxs 8 C (kxF kP hr (ab (pv 0) (ab (kxI (pv 1) (pv 7)) (ab (pv 6) (ab (pv 7) ah))))) (kxs 6 C (pv 7) (aE (oW (i:=7) C rfl (IA rfl) (pv 8)))))))) (kxr (pv 5)))))),?_⟩;refine⟨AN _,fun o ho => ?_⟩;have od:o≠d:=Ne.symm (aB hd ho);refine⟨_,rfl,_,rfl,?_⟩;dsimp only[rF,afs];refine vq (fun σ r=>∃(k:Nat)(v:Option V),k<=m/\σ=[some (.ref a),some (.ref b),some (.int s.1),some (.int s.2),some (.ref d),some (.ref o),some (.int ((ao S).it k s).1),some (.int ((ao S).it k s).2),v]/\fR H r d /\
   r d=some (.dT (wkV (g++(An k).map fun j=>(ao S).it j s)))/\r o=some (.lst (((An k).map fun j=>((ao S).it j s).1).map fG)))
  (fun σ r=>match r o with|some (.lst xs)=>m-xs.length|_=>0) ?_ ?_ ?_
 ·refine⟨0,none,AN _,rfl,fR.of (ak ho),?_,ag⟩
  rw[aw (Ne.symm od)]
  simpa using hd
 ·rintro σ r ⟨k,v,hk,rfl,sX,l,u⟩
  refine⟨_,rfl,_,rfl,by show 2<=sizeLine;decide,fun t ht=>⟨_,rfl,d,_,rfl,vZ.t (k:=wkK ((ao S).it k s)) (b:=t) (by rw[aw (aB l ht)];exact l) ag,_,rfl,?_⟩⟩;rw[aa0];have I:=ak (o:=.tup [.int (((ao S).it k s).1:Int),.int (((ao S).it k s).2:Int)]) ht
  by_cases c:k<m
  ·have M:¬(ao S).it k s∈g++(An k).map fun j=>(ao S).it j s:=by
    intro z;rcases A4.mp z with y|y
    ·exact hW _ ((R.gC G).mpr ⟨k,rfl⟩) y
    ·obtain⟨j,hj,ej⟩:=Ax.mp y
     rw[A6] at hj;exact n (k-j) (by omega) (by omega) (R.ok.qa G (by omega) ej)
   rw[Ar M];refine jO ?_;have O:=I _ _ l;have a3:=I _ _ u;have a4:=sX.trans (fR.of I);generalize upd r t (.tup [.int (((ao S).it k s).1:Int),.int (((ao S).it k s).2:Int)])=H1 at *
   refine⟨_,rfl,_,rfl,_,rfl,by show 2<=sizeLine;decide,fun t2 T=>⟨d,_,rfl,ab4.t (k:=wkK ((ao S).it k s)) (b:=t2) (by rw[aw (aB O T)];exact O) ag ?_,?_⟩⟩
   ·unfold wkV
    rw[Ab,Al,Ab,AG];exact b9 (by omega)
   rw[agd M];have s2:=ak (o:=.tup [.int (((ao S).it k s).1:Int),.int (((ao S).it k s).2:Int)]) T;have a5:=s2 _ _ a3;have a6:=a4.trans (fR.of s2);generalize upd H1 t2 (.tup [.int (((ao S).it k s).1:Int),.int (((ao S).it k s).2:Int)])=W at *
   have eW:(g++(An k).map fun j=>(ao S).it j s)++[(ao S).it k s]=g++(An (k+1)).map fun j=>(ao S).it j s:=by
    rw[Ce,Ay,BZ];rfl
   rw[eW];have X:(upd W d (.dT (wkV (g++(An (k+1)).map fun j=>(ao S).it j s)))) o=some (.lst (((An k).map fun j=>((ao S).it j s).1).map fG)):=by
    rw[aw od];exact a5
   refine⟨_,rfl,.inl ⟨rfl,_,SqL.of X⟩,_,rfl,o,_,_,rfl,rfl,X,?_,?_⟩
   ·rw[Ab,Ab,AG];exact b9 (by omega)
   have B:fR H (upd (upd W d (.dT (wkV (g++(An (k+1)).map fun j=>(ao S).it j s)))) o (.lst ((((An k).map fun j=>((ao S).it j s).1).map fG)++[.int (((ao S).it k s).1:Int)]))) d :=
    aaa (yQ a6) ho
   have a7:(upd (upd W d (.dT (wkV (g++(An (k+1)).map fun j=>(ao S).it j s)))) o (.lst ((((An k).map fun j=>((ao S).it j s).1).map fG)++[.int (((ao S).it k s).1:Int)]))) d=some (.dT (wkV (g++(An (k+1)).map fun j=>(ao S).it j s))):=by
    rw[aw (Ne.symm od)];exact ag
   have Y:(upd (upd W d (.dT (wkV (g++(An (k+1)).map fun j=>(ao S).it j s)))) o (.lst ((((An k).map fun j=>((ao S).it j s).1).map fG)++[.int (((ao S).it k s).1:Int)]))) o=some (.lst (((An (k+1)).map fun j=>((ao S).it j s).1).map fG)):=by
    rw[ag,Ce,Ay,Ay];rfl
   generalize (upd (upd W d (.dT (wkV (g++(An (k+1)).map fun j=>(ao S).it j s)))) o (.lst ((((An k).map fun j=>((ao S).it j s).1).map fG)++[.int (((ao S).it k s).1:Int)])))=H3 at *
   have wk:=J k;have wl:=R.bC (i:=((ao S).it k s).1) (j:=((ao S).it k s).2) wk;have Z:=na.ae9 B hd;obtain⟨p,fp,gp,hp⟩:=Z.get (i:=((ao S).it k s).2) (by rw[bw];exact wl.2.1);rw[iU S wl.2.1] at hp;refine⟨_,rfl,_,rfl,_,rfl,b,_,_,_,rfl,rfl,SqL.of Z.lst,aQ gp,_,rfl,_,rfl,a,p,S.pts,xs,S.near ((ao S).it k s).2,((ao S).it k s).1,((ao S).it k s).2,rfl,pl.ae9 (dx:=d) B hd,sm,hp,wl.1,wl.2.1,fun x hx => ?_,?_⟩
   ·exact(R.bC (R.cZ.mp hx)).2.1
   have en:ae1 S.pts (S.near ((ao S).it k s).2) ((ao S).it k s).1 ((ao S).it k s).2=some ((ao S).it (k+1) s).2:=R.xc wk;rw[en];refine⟨_,rfl,_,rfl,⟨k+1,_,c,rfl,B,a7,Y⟩,?_⟩;rw[Y,u];simp only[Ab,AG];omega
  ·have km:k=m:=by omega
   subst km;have inn:(ao S).it k s∈g++(An k).map fun j=>(ao S).it j s:=by
    refine Au _ (Ax.mpr ⟨0,A6.mpr m0,?_⟩);rw[em];rfl
   rw[As inn];refine jt ⟨_,rfl,?_⟩;refine q _ o (sX.trans (fR.of I)) ?_ ho ?_
   ·rw[ew];exact I _ _ l
   ·rw[eo];exact I _ _ u
 ·rintro σ H Q Q' hQ ⟨v,e,v',e',hl,h⟩
  refine⟨v,e,v',e',hl,fun p hp => ?_⟩;obtain⟨v2,e2,a2,o2,x2,g2,c2,y2,z⟩:=h p hp;exact⟨v2,e2,a2,o2,x2,g2,c2,y2,hQ _ _ z⟩
end
end Gs
namespace Gs
open PySem PySem.Spec PyProof.Rows L2
open Gla (Plan Pt Mark)
open Geo.Rules (prs)
noncomputable abbrev ptO(pts:List Pt)(k:Nat):HO:=.tup [.int ((pts.getD k ⟨0,0⟩).x:Int),.int ((pts.getD k ⟨0,0⟩).y:Int)]
structure SD(H:Hp)(l:Ag)(pts:List Pt)(o:List Nat)(ts:List Ag):Prop where
 lst:H l=some (.lst (ts.map V.ref))
 len:ts.length=(prs o).length
 at_:∀(j:Nat)(t:Ag)(e:Nat×Nat),ts[j]? = some t->(prs o)[j]? = some e->∃p q,H t=some (.tup [.ref p,.ref q])/\H p=some (ptO pts e.1)/\H q=some (ptO pts e.2)
theorem SD.same{H d:Hp}{l:Ag}{pts:List Pt}{o:List Nat}{f:List Ag}(h:SD H l pts o f)(s:aM H d):SD d l pts o f :=
 ⟨s _ _ h.lst,h.len,fun j t e e1 g=>let ⟨p,q,a,b,c⟩:=h.at_ j t e e1 g;⟨p,q,s _ _ a,s _ _ b,s _ _ c⟩⟩
theorem aam(o:List Nat):(prs o).length=o.length:=by
 unfold prs;rw[DC,Al,Cf,AO];omega
theorem wH(xs:List V)(a:Nat):lI xs (some (a:Int)) AK=xs.drop a:=by
 have h:=tO xs a xs.length;have e:lI xs (some (a:Int)) AK=lI xs (some (a:Int)) (some (xs.length:Int)):=by
  unfold lI;rw[HT.m9,HT.m9,Gf];rfl
 rw[e,h,BB (by rw[Cf];omega)]
section
variable{X:Cx}{K:Lf}
theorem wx(a:X.K=K):IxR X (ae2 K):=by subst a;exact yG
theorem uz(a:X.K=K):IxR X (ags K):=by subst a;exact ac9
end
section
variable{P:AI}{w:AZ}{K:Lf}{mg:Lg}{base:B1}{ad:Adr}
inductive qL(vs:List V)(H:Hp)(Q:VK)(E:XK):Prop
 | mk (a b:Ag)(pts:List Pt)(xs:List V)(o:List Nat)(c0:vs=[.ref a,.ref b])(c1:PL H a pts xs)(c2:H b=some (.lst (o.map fG)))(c3:(∀k∈o,k<pts.length))(c4:o.length<1000000)(c5:∀H' l ts,aM H H'->H l=none->SD H' l pts o ts->Q (.ref l) H')
noncomputable abbrev aaR:Stmt:=(top 25)
theorem ab0(D:Def K mg "sides" aaR ["points","outline"])(T:Txt K mg ad):Fn P w K mg base 1 "sides" ["points","outline"] qL:=by
 refine D.fx ["points","outline","k","corners"] ?_;rintro nd f a5 A R s H vs Q E hr ⟨a,b,pts,xs,o,rfl,pl,O,S,hl,q⟩;have hu:=rZ hr;refine⟨_,(az (da (i:=3) rfl nd rfl rfl rfl (aY (pv 1)) (d4 (own := [("k",2)]) rfl) (fun _ _ _ _ _=>(kxo 2 nd)) (fun _ _ _ _ _=>cP) (fun _ _ _ _ _=>(uH (wx (K:=K) rfl) (pv 0) (pv 2) (fun _ _=>rfl)))) (kxr (xE rfl (by rfl) T.afm (by rfl) T.adO (ab (pv 3) (ab (aV rj (iB kG (pv 3) (gQ aq) pW) (iB kG (pv 3) pW (gQ aq))) ah))))),?_⟩;have vl:∀i,i<o.length->∃k p,o[i]? = some k/\xs[k]? = some (.ref p)/\H p=some (ptO pts k):=fun i v=>by
  have hm:=S o[i] (AX v);obtain⟨p,e1,e2⟩:=pl.at_ _ hm;exact⟨o[i],p,Aa v,e1,e2⟩
 refine⟨_,rfl,b,rfl,⟨_,SqL.of O⟩,fun c hc => ?_⟩;refine iW (J:=Itl K b) c o.length (fun i n=>aM H n/\n c=some (.lst ((o.take i).map fun k=>(xs[k]?).getD .non)))
  ⟨ak hc,ag⟩ ?_ ?_ ?_
 ·rintro i n v ⟨r,_⟩
  obtain⟨k,p,e,_⟩:=vl i v;exact⟨_,.int (k:Int),SqL.of (r _ _ O),by rw[Av,e];rfl⟩
 ·rintro i x n W v ⟨r,g⟩ ⟨rfl,hx⟩
  obtain⟨k,p,e,e1,e2⟩:=vl i v;have ex:=hx _ (SqL.of (r _ _ O));rw[Av,e] at ex;obtain rfl:V.int (k:Int)=x:=Ah ex;refine⟨rfl,ke ⟨_,rfl,_,rfl,a,_,_,_,rfl,rfl,SqL.of (r _ _ pl.lst),aQ e1,_,g,?_,aI r hc,?_⟩⟩
  ·rw[Ab,AO];exact b9 (by omega)
  ·rw[ag,take_snoc e,Ay,DW,e1];rfl
 ·rintro n ⟨r,g⟩
  rw[BB (Ak _)] at g;refine⟨⟨_,SqL.of (r _ _ O),by rw[Ab];exact Ak _⟩,?_⟩;generalize y:(o.map fun k=>(xs[k]?).getD .non)=d at g;have lc:d.length=o.length:=by rw[<- y,Ab]
  refine⟨_,rfl,_,rfl,_,rfl,c,d,rfl,SqL.of g,fun B h1 => ?_⟩;have X:=ak (o:=.lst (lI d (some 1) AK)) h1;refine⟨_,rfl,_,rfl,c,d,rfl,SqL.of (X _ _ g),fun C h2 => ?_⟩;have Y:=ak (o:=.lst (lI d AK (some 1))) h2;have g1:(upd (upd n B (.lst (lI d (some 1) AK))) C (.lst (lI d AK (some 1)))) B=some (.lst (d.drop 1)):=by
   rw[Y _ _ ag];exact B2 (fun z=>some (HO.lst z)) (wH d 1)
  have g2:(upd (upd n B (.lst (lI d (some 1) AK))) C (.lst (lI d AK (some 1)))) C=some (.lst (d.take 1)):=by
   rw[ag];exact B2 (fun z=>some (HO.lst z)) (adJ d 1)
  have Z:=(r.trans X).trans Y;have a0:=Y _ _ (X _ _ g);generalize (upd (upd n B (.lst (lI d (some 1) AK))) C (.lst (lI d AK (some 1))))=W at *
  have lz:(d.drop 1).length+(d.take 1).length=d.length:=by rw[Cf,AO];omega
  refine⟨B,C,_,_,rfl,rfl,g1,g2,?_,fun p hp => ?_⟩
  ·rw[lz,lc];exact BQ (b9 hl)
  have s3:=ak (o:=.lst (d.drop 1++d.take 1)) hp;have G:=s3 _ _ a0;have I:(upd W p (.lst (d.drop 1++d.take 1))) p=some (.lst (d.drop 1++d.take 1)):=ag;have m:=Z.trans s3;generalize (upd W p (.lst (d.drop 1++d.take 1)))=H3 at *
  refine⟨c,p,d,_,rfl,SqL.of G,SqL.of I,G,I,?_,fun l H4 ts M sm hL ht a3 => ?_⟩
  ·rw[Al,lz]
  have a4:H l=Option.none:=by
   cases e:H l with
   | none=>rfl
   | some u=>rw[m _ _ e] at M;cases M
  refine q H4 l ts (m.trans sm) a4 ⟨hL,by rw[ht,aam,lc],fun j t e ej ee => ?_⟩;have hj:j<o.length:=by
   have:=(Aj.mp ee).1;rw[aam] at this;exact this
  have em:d.zip (d.drop 1++d.take 1)=(prs o).map fun e=>((xs[e.1]?).getD .non,(xs[e.2]?).getD .non):=by
   unfold prs;rw[<- y,<- GH,<- F3,<- Ay,List.zip_map];rfl
  have ez:(d.zip (d.drop 1++d.take 1))[j]? = some ((xs[e.1]?).getD .non,(xs[e.2]?).getD .non):=by rw[em,Av,ee];rfl
  rw[E6] at ez;have me:=AE ee;have m1:e.1∈o:=(DZ me).1;have m2:e.2∈o:=by
   have:=(DZ me).2;rcases A4.mp this with z|z
   ·exact List.mem_of_mem_drop z
   ·exact FA z
  obtain⟨p1,a1,b1⟩:=pl.at_ _ (S _ m1);obtain⟨p2,a2,b2⟩:=pl.at_ _ (S _ m2);have:=a3 j t _ _ ej ez.1 ez.2;rw[a1,a2] at this;exact⟨p1,p2,this,sm _ _ (m _ _ b1),sm _ _ (m _ _ b2)⟩
end
noncomputable def ptX(pts:List Pt)(k:Nat):Int:=((pts.getD k ⟨0,0⟩).x:Int)
noncomputable def ptY(pts:List Pt)(k:Nat):Int:=((pts.getD k ⟨0,0⟩).y:Int)
noncomputable def vQ(pts:List Pt)(a:Int)(e:Nat×Nat):Int:=a+ptX pts e.1*ptY pts e.2-ptY pts e.1*ptX pts e.2
noncomputable def arZ(pts:List Pt)(o:List Nat):Int:=(prs o).foldl (vQ pts) 0
theorem ahs(S:Plan)(o:List Nat):arZ S.pts o=Dn S o:=by
 have c:∀(l:List (Nat×Nat))(a:Int),l.foldl (vQ S.pts) a=a+(l.map fun(x:Nat×Nat)=>((S.pt x.1).x:Int)*((S.pt x.2).y:Int)-((S.pt x.2).x:Int)*((S.pt x.1).y:Int)).foldr (fun(a b:Int)=>a+b) 0:=by
  intro l
  induction l with
  | nil=>intro a;simp
  | cons e l d =>
   intro a;rw[BK,d,AA,Ea];unfold vQ ptX ptY Plan.pt;rw[Bl ((S.pts.getD e.1 ⟨0,0⟩).y:Int)];omega
 unfold arZ;rw[c];unfold Dn prs;rw[IZ]
noncomputable def pass(pts:List Pt)(b a:Int)(e:Nat×Nat):Bool :=
 (decide (ptY pts e.1<=a) != decide (ptY pts e.2<=a))&&(if ptY pts e.1<ptY pts e.2 then decide (0<oh (ptX pts e.1) (ptY pts e.1) (ptX pts e.2) (ptY pts e.2) b a) else decide (oh (ptX pts e.1) (ptY pts e.1) (ptX pts e.2) (ptY pts e.2) b a<0))
noncomputable def inZ(pts:List Pt)(o:List Nat)(a c:Int):Bool:=(prs o).foldl (fun b e=>if pass pts a c e=true then !b else b) false
theorem wK{α:Type}(p:α->Bool):∀(l:List α)(b:Bool),l.foldl (fun b e=>if p e=true then !b else b) b=(b != decide ((l.filter p).length % 2=1))
 | [],b=>by simp
 | e::l,b=>by
  rw[BK,wK p l]
  by_cases h:p e=true
  ·rw[As h,Bz h,A7]
   have:(decide (((l.filter p).length+1) % 2=1)) = !decide ((l.filter p).length % 2=1):=by
    rcases Nat.mod_two_eq_zero_or_one (l.filter p).length with q|q
    ·rw[q,show((l.filter p).length+1) % 2=1 by omega];rfl
    ·rw[q,show((l.filter p).length+1) % 2=0 by omega];rfl
   rw[this];cases b <;> cases decide ((l.filter p).length % 2=1) <;> rfl
  ·rw[Ar h,BF h]
theorem acM(S:Plan)(i j:Nat)(z:Pt):oh (ptX S.pts i) (ptY S.pts i) (ptX S.pts j) (ptY S.pts j) (z.x:Int) (z.y:Int)=CF (S.pt i) (S.pt j) z:=rfl
theorem ac8(S:Plan)(o:List Nat)(z:Pt):inZ S.pts o (z.x:Int) (z.y:Int)=Kw S o z:=by
 unfold inZ;rw[wK,Bool.false_bne];unfold Kw;have e:(prs o).filter (pass S.pts (z.x:Int) (z.y:Int))=(o.zip (o.drop 1++o.take 1)).filter fun(x:Nat×Nat) =>
   let p:=S.pt x.1
   let q:=S.pt x.2
   (decide (p.y<=z.y)&&(decide (z.y<q.y)&&decide (0<CF p q z)))||(decide (q.y<=z.y)&&(decide (z.y<p.y)&&decide (CF p q z<0))):=by
  unfold prs;refine List.filter_congr fun x _ => ?_;unfold pass;rw[acM];have c:ptY S.pts x.1=((S.pt x.1).y:Int):=rfl;have d:ptY S.pts x.2=((S.pt x.2).y:Int):=rfl;rw[c,d];dsimp only;generalize CF (S.pt x.1) (S.pt x.2) z=t;generalize (S.pt x.1).y=a;generalize (S.pt x.2).y=b;rw[B3];simp only[AB,DA,A5,JU,ne_eq,Ba]
  by_cases h:(a:Int)<b
  ·rw[As h]
   simp only[A5];omega
  ·rw[Ar h]
   simp only[A5];omega
 rw[e]
section
variable{P:AI}{w:AZ}{K:Lf}{mg:Lg}{base:B1}{ad:Adr}
inductive yY(vs:List V)(H:Hp)(Q:VK)(E:XK):Prop
 | mk (a b:Ag)(pts:List Pt)(xs:List V)(o:List Nat)(c0:vs=[.ref a,.ref b])(c1:PL H a pts xs)(c2:SmP pts)(c3:H b=some (.lst (o.map fG)))(c4:(∀k∈o,k<pts.length))(c5:o.length<1000000)(c6:∀H',aM H H'->Q (.bl (decide (0<arZ pts o))) H')
noncomputable abbrev adM:Stmt:=(top 24)
theorem adN{H:Hp}{l:Ag}{pts:List Pt}{o:List Nat}{f:List Ag}(h:SD H l pts o f){i:Nat}{x:V}(d:(f.map V.ref)[i]? = some x):∃t e p q,x=.ref t/\(prs o)[i]? = some e/\H t=some (.tup [.ref p,.ref q])/\H p=some (ptO pts e.1)/\H q=some (ptO pts e.2):=by
 rw[Av] at d;cases et:f[i]? with
 | none=>rw[et] at d;cases d
 | some t =>
  rw[et] at d;have g:=(Aj.mp et).1;rw[h.len] at g;obtain⟨p,q,a,b,c⟩:=h.at_ i t _ et (Aa g);exact⟨t,_,p,q,(Ah d).symm,Aa g,a,b,c⟩
theorem aen(D:Def K mg "runs_to_the_left" adM ["points","outline"])(z:Fn P w K mg base 1 "sides" ["points","outline"] qL):Fn P w K mg base 2 "runs_to_the_left" ["points","outline"] yY:=by
 refine D.fx ["points","outline","area","p","q"] ?_;rintro d f B A m s H vs Q E C ⟨a,b,pts,xs,o,rfl,pl,sm,G,I,J,q⟩;refine⟨_,(kxs 2 d aq (az (a8 AJ rfl (aY (kxF z C (ab (pv 0) (ab (pv 1) ah)))) (dQ rfl (aL (kxo 3 d) (aL (kxo 4 d) cj))) (aE (oW (i:=2) d rfl (IA rfl) (aV dE (aV cw (pv 2) (aV dF (kxT (pv 3) aq) (kxT (pv 4) aq))) (aV dF (kxT (pv 3) aq) (kxT (pv 4) aq)))))) (kxr (bg lJ (pv 2) aq (bj _))))),?_⟩;refine⟨_,rfl,_,rfl,a,b,pts,xs,o,rfl,pl,G,I,J,fun H1 l M O R sd => ?_⟩;refine⟨l,rfl,⟨_,SqL.of sd.lst⟩,bB (K:=K) (a:=l) (xs:=M.map V.ref) (fun i σ g=>(∃u v,σ=[some (.ref a),some (.ref b),some (.int (((prs o).take i).foldl (vQ pts) 0)),u,v])/\g=H1)
  ⟨⟨none,none,rfl⟩,rfl⟩ (fun i σ g _ ⟨_,e⟩=>by rw[e];exact SqL.of sd.lst) ?_ ?_⟩
 ·rintro i x σ g S ⟨⟨u,v,rfl⟩,rfl⟩
  obtain⟨t,e,p,r,rfl,T,W,n,c⟩:=adN sd S;refine⟨t,_,rfl,SqT.of W,rfl,_,_,rfl,_,_,rfl,rfl,?_⟩;have y:=sm.at_ e.1;refine⟨_,rfl,dO (j:=0) rfl (SqT.of n) rfl (dO (j:=1) rfl (SqT.of c) rfl ⟨_,_,rfl,rfl,adl y.1,_,_,rfl,rfl,?_⟩)⟩;refine dO (j:=1) rfl (SqT.of n) rfl (dO (j:=0) rfl (SqT.of c) rfl ⟨_,_,rfl,rfl,adl y.2,_,_,rfl,rfl,?_⟩);refine⟨⟨some (.ref p),some (.ref r),?_⟩,rfl⟩;rw[take_snoc T,El];rfl
 ·rintro σ g ⟨⟨u,v,rfl⟩,rfl⟩
  rw[Ab,sd.len,BG];exact⟨_,rfl,_,_,rfl,rfl,q _ O⟩
inductive aee(K:Lf)(vs:List V)(H:Hp)(Q:VK)(E:XK):Prop
 | mk (m l:Ag)(zx zy:Int)(pts:List Pt)(o:List Nat)(ts:List Ag)(c0:vs=[.ref m,.ref l])(c1:wB K H m zx zy)(c2:SD H l pts o ts)(c3:SmP pts)(c4:Q (.bl (inZ pts o zx zy)) H)
noncomputable abbrev ahr:Stmt:=(top 26)
theorem ag2(D:Def K mg "is_inside" ahr ["mark","outline_sides"])(X:Fn P w K mg base 2 "is_right_of" ["mark","p","q"] (uN K)):Fn P w K mg base 3 "is_inside" ["mark","outline_sides"] (aee K):=by
 refine D.fx ["mark","outline_sides","inside","p","q"] ?_;rintro G f Y A M s H vs Q E Z ⟨m,l,d,c,pts,o,ts,rfl,O,sd,sm,q⟩;obtain⟨ms,n,mx,R⟩:=id O;refine⟨_,(kxs 2 G iF (az (a8 AJ rfl (aY (pv 1)) (dQ rfl (aL (kxo 3 G) (aL (kxo 4 G) cj))) (aE (cg ((k9 (kxn (bg wZ (kxT (pv 3) aq) (kxT (pv 0) aq) (bj _)) (bg wZ (kxT (pv 4) aq) (kxT (pv 0) aq) (bj _))) (gD (aX (kxF X Z (ab (pv 0) (ab (pv 3) (ab (pv 4) ah)))) (fun _=>rfl))))).pt (aE (oW (i:=2) G rfl (IA rfl) (afO (pv 2)))) aR))) (kxr (pv 2)))),?_⟩;refine⟨_,rfl,l,rfl,⟨_,SqL.of sd.lst⟩,bB (K:=K) (a:=l) (xs:=ts.map V.ref) (fun i σ I=>(∃u v,σ=[some (.ref m),some (.ref l),some (.bl (((prs o).take i).foldl (fun b e=>if pass pts d c e=true then !b else b) false)),u,v])/\I=H)
  ⟨⟨none,none,rfl⟩,rfl⟩ (fun i σ I _ ⟨_,e⟩=>by rw[e];exact SqL.of sd.lst) ?_ ?_⟩
 ·rintro i x σ I hx ⟨⟨u,v,rfl⟩,rfl⟩
  obtain⟨t,e,p,r,rfl,ee,ht,S,B⟩:=adN sd hx;have T:=sm.at_ e.1;have W:=sm.at_ e.2;refine⟨t,_,rfl,SqT.of ht,rfl,_,_,rfl,_,_,rfl,rfl,?_⟩;have g:∀b:Bool,(if pass pts d c e=true then !(((prs o).take i).foldl (fun b e=>if pass pts d c e=true then !b else b) false) else ((prs o).take i).foldl (fun b e=>if pass pts d c e=true then !b else b) false)=b ->
    ((prs o).take (i+1)).foldl (fun b e=>if pass pts d c e=true then !b else b) false=b:=by
   intro b eb;rw[take_snoc ee,El];exact eb
  refine dO (j:=1) rfl (SqT.of S) rfl (dO rfl n R ⟨_,_,rfl,rfl,dO (j:=1) rfl (SqT.of B) rfl (dO rfl n R ⟨_,_,rfl,rfl,rfl,_,rfl,?_⟩)⟩);rw[ajg];refine bX (fun z => ?_) (fun z => ?_)
  ·have J:(decide (ptY pts e.1<=c) != decide (ptY pts e.2<=c))=true:=by simpa[ptY] using z
   refine⟨_,rfl,_,rfl,_,rfl,m,p,r,d,c,ptX pts e.1,ptY pts e.1,ptX pts e.2,ptY pts e.2,rfl,O,.of2 S,.of2 B,T.1,T.2,W.1,W.2,_,rfl,bX (fun y => ?_) (fun y => ?_)⟩
   ·have C:pass pts d c e=true:=by unfold pass;rw[J,y];rfl
    refine⟨_,rfl,_,rfl,⟨some (.ref p),some (.ref r),?_⟩,rfl⟩;rw[g _ (by rw[As C])];rfl
   ·have C:¬pass pts d c e=true:=by unfold pass;rw[J,BW];exact y
    refine⟨⟨some (.ref p),some (.ref r),?_⟩,rfl⟩;rw[g _ (by rw[Ar C])];rfl
  ·have J:(decide (ptY pts e.1<=c) != decide (ptY pts e.2<=c))=false:=by simpa[ptY] using z
   have C:¬pass pts d c e=true:=by unfold pass;rw[J,Bp];exact AS
   refine jt ⟨⟨some (.ref p),some (.ref r),?_⟩,rfl⟩;rw[g _ (by rw[Ar C])];rfl
 ·rintro σ I ⟨⟨u,v,rfl⟩,rfl⟩
  rw[Ab,sd.len,BG];exact⟨_,rfl,q⟩
end
end Gs
namespace Gs
open PySem PySem.Spec PyProof.Rows L2
open Gla (Plan Pt Mark)
open Geo (ao)
open Geo.Rules (prs orb ows dh dw bI)
noncomputable def x4(S:Plan)(i:Nat):List (Nat×Nat):=(An i).flatMap fun u=>(S.near u).map fun v=>(u,v)
theorem sL(S:Plan)(i:Nat):x4 S (i+1)=x4 S i++(S.near i).map fun v=>(i,v):=by
 unfold x4;rw[Ce,BJ];simp
theorem wU{S:Plan}{i j v:Nat}(f:i<S.pts.length)(b:(S.near i)[j]? = some v):∃a,dw S=(x4 S i++((S.near i).take j).map fun v=>(i,v))++(i,v)::a:=by
 have e1:An S.pts.length=An (i+1)++(An S.pts.length).drop (i+1):=by
  conv=>lhs;rw[<- D4 (i+1) (An S.pts.length)]
  rw[List.take_range,CW (by omega)]
 obtain⟨c,d⟩:=Aj.mp b;have e:S.near i=(S.near i).take j++v::(S.near i).drop (j+1):=by
  conv=>lhs;rw[<- D4 j (S.near i)]
  rw[Bh c,d]
 refine⟨((S.near i).drop (j+1)).map (fun v=>(i,v))++((An S.pts.length).drop (i+1)).flatMap (fun u=>(S.near u).map fun v=>(u,v)),?_⟩;unfold dw;rw[e1,BJ];show x4 S (i+1)++_=_;rw[sL]
 conv=>lhs;rw[e]
 simp[BZ]
structure FI(S:Plan)(Pfx Wd:List (Nat×Nat)):Prop where
 mem:∀e,e∈Wd↔∃s∈Pfx,e∈ows S s
 nd:Wd.Nodup
theorem nH{S:Plan}(R:Geo.Rules S){s:Nat×Nat}(b:s∈CZ S):(ows S s).Nodup:=by
 obtain⟨m,m0,d,a,e,c⟩:=R.b7 b;rw[c];have:=R.ok.gL b a (i:=0) (j:=m) (Ak _);rw[DU,<- DF] at this;exact this
theorem FI.way{S:Plan}(R:Geo.Rules S){Pfx a:List (Nat×Nat)}(F:FI S Pfx a)(b:∀s∈Pfx,s∈CZ S){e:Nat×Nat}(he:e∈a):e∈CZ S:=by
 obtain⟨s,c,h⟩:=(F.mem e).mp he;exact R.mB (b s c) h
theorem FI.len{S:Plan}(R:Geo.Rules S){Pfx a:List (Nat×Nat)}(F:FI S Pfx a)(b:∀s∈Pfx,s∈CZ S):a.length<=2*S.lines.length:=by
 rw[<- R.fH];exact Ci F.nd fun e he=>F.way R b he
theorem FI.step{S:Plan}(R:Geo.Rules S){Pfx f c:List (Nat×Nat)}{s:Nat×Nat}(F:FI S Pfx f)(h:dw S=Pfx++s::c):
  (s∈f->¬dh S s/\FI S (Pfx++[s]) f)/\(s ∉ f->dh S s/\(∀e∈ows S s,e ∉ f)/\FI S (Pfx++[s]) (f++ows S s)):=by
 have C:=R.dI;have q:=R.oo;rw[h] at C q;have l:∀{e},e∈Pfx++s::c->e∈CZ S:=fun he=>R.cU.mp (h▸he);have g:s∈CZ S:=l (by simp);have v:∀e∈Pfx,e∈CZ S:=fun e he=>l (by simp[he]);have H:s ∉ Pfx:=fun z=>by
  have:=(Bm.mp C).2.2 s z s (by simp);exact this rfl
 have le:∀e∈Pfx,e.1<=s.1:=fun e he=>(HM.mp q).2.2 e he s (by simp);have w:∀{e},e∈CZ S->e∈Pfx\/e=s\/e∈c:=fun{e} he=>by
  have:=R.cU.mpr he;rw[h] at this
  simpa using this
 have I:∀e∈c,s.1<=e.1:=fun e he=>by
  have:=(HM.mp q).2.1;exact(BH.mp this).1 e he
 have key:s∈f↔¬dh S s:=by
  constructor
  ·intro i j
   obtain⟨t,d,y⟩:=(F.mem s).mp i;have m:=R.fP (v t d) y;have a:=j.2 t m;have b:=le t d;have:t=s:=R.uG g m (R.pZ g) (by omega);exact H (this▸d)
  ·intro J
   obtain⟨r,j,p,_⟩:=R.pR g;have n:s∈ows S r:=R.fP g p;have a:=j.2 s n;have E:r≠s:=fun z=>J (z▸j);rcases w j.1 with z|z|z
   ·exact(F.mem s).mpr ⟨r,z,n⟩
   ·exact absurd z E
   ·have:=I r z
    exact absurd (R.uG g p (R.pZ g) (by omega)) E
 refine⟨fun i=>⟨key.mp i,⟨fun e => ?_,F.nd⟩⟩,fun i => ?_⟩
 ·rw[F.mem]
  constructor
  ·rintro⟨t,d,he⟩
   exact⟨t,by simp[d],he⟩
  ·rintro⟨t,d,he⟩
   rcases A4.mp d with z|z
   ·exact⟨t,z,he⟩
   ·obtain rfl:t=s:=by simpa using z
    obtain⟨u,G,A⟩:=(F.mem t).mp i;exact⟨u,G,R.gz (v u G) A he⟩
 ·have j:dh S s:=by
   by_cases z:dh S s
   ·exact z
   ·exact absurd (key.mpr z) i
  have o:∀e∈ows S s,e ∉ f:=fun e he p=>by
   obtain⟨t,d,B⟩:=(F.mem e).mp p;exact i ((F.mem s).mpr ⟨t,d,R.gz (v t d) B (R.fP g he)⟩)
  refine⟨j,o,fun e => ?_,?_⟩
  ·rw[A4,F.mem]
   constructor
   ·rintro(⟨t,d,he⟩|he)
    ·exact⟨t,by simp[d],he⟩
    ·exact⟨s,by simp,he⟩
   ·rintro⟨t,d,he⟩
    rcases A4.mp d with z|z
    ·exact .inl ⟨t,z,he⟩
    ·obtain rfl:t=s:=by simpa using z
     exact .inr he
  ·refine Bm.mpr ⟨F.nd,nH R g,fun a M b O e => ?_⟩
   subst e;exact o a O M
noncomputable def lh(S:Plan)(Pfx:List (Nat×Nat)):List (List Nat):=((Pfx.filter fun s=>decide (dh S s)).filter fun s=>decide (0<Dn S (orb S s))).map (orb S)
theorem iR(S:Plan)(Pfx:List (Nat×Nat))(s:Nat×Nat):lh S (Pfx++[s])=if dh S s/\0<Dn S (orb S s) then lh S Pfx++[orb S s] else lh S Pfx:=by
 unfold lh;rw[ER,ER,Ay]
 by_cases h1:dh S s
 ·by_cases h2:0<Dn S (orb S s)
  ·rw[As ⟨h1,h2⟩];simp[h1,h2]
  ·rw[Ar (fun z=>h2 z.2)];simp[h1,h2]
 ·rw[Ar (fun z=>h1 z.1)];simp[h1]
structure LN(H:Hp)(L:Ag)(os:List (List Nat))(ls:List Ag):Prop where
 lst:H L=some (.lst (ls.map V.ref))
 len:ls.length=os.length
 at_:∀(j:Nat)(l:Ag)(o:List Nat),ls[j]? = some l->os[j]? = some o->H l=some (.lst (o.map fG))
theorem LN.same{H a:Hp}{L:Ag}{b:List (List Nat)}{c:List Ag}(h:LN H L b c)(s:aM H a):LN a L b c:=⟨s _ _ h.lst,h.len,fun j l o e1 d=>s _ _ (h.at_ j l o e1 d)⟩
theorem LN.snoc{H:Hp}{L p:Ag}{e:List (List Nat)}{a:List Ag}{o:List Nat}(h:LN H L e a)(g:H p=some (.lst (o.map fG)))(i:p≠L)(d:∀l∈a,l≠L):LN (upd H L (.lst (a.map V.ref++[.ref p]))) L (e++[o]) (a++[p]):=by
 refine⟨by rw[ag,Ay];rfl,by rw[Al,Al,h.len];rfl,fun j l f e1 c => ?_⟩
 by_cases hj:j<a.length
 ·rw[A1 hj] at e1
  rw[A1 (by rw[<- h.len];exact hj)] at c;rw[aw (d l (AE e1))];exact h.at_ j l f e1 c
 ·have b:j=a.length:=by
   have:=(Aj.mp e1).1;rw[Al] at this;simp at this;omega
  rw[b,Aw (Ak _),BE] at e1;rw[b,h.len,Aw (Ak _),BE] at c;obtain rfl:p=l:=Ah e1;obtain rfl:o=f:=Ah c;rw[aw i];exact g
section
variable{P:AI}{w:AZ}{K:Lf}{mg:Lg}{base:B1}{ad:Adr}
inductive zh(vs:List V)(H:Hp)(Q:VK)(E:XK):Prop
 | mk (a b:Ag)(as:List Ag)(S:Plan)(xs:List V)(c0:vs=[.ref a,.ref b])(c1:PL H a S.pts xs)(c2:SmP S.pts)(c3:NA H b as (cQ S))(c4:Geo.Rules S)(c5:S.lines.length<65536)(c6:∀H' L ls,aM H H'->LN H' L (bI S) ls->Q (.ref L) H')
noncomputable abbrev ac7:Stmt:=(top 20)
def FSt(S:Plan)(H:Hp)(d u:Ag)(Pfx:List (Nat×Nat))(a:Hp):Prop:=aM H a/\∃b c,FI S Pfx b/\a d=some (.dT (wkV b))/\LN a u (lh S Pfx) c/\(∀l∈c,l≠u/\l≠d)
theorem FSt.same{S:Plan}{H g i:Hp}{d u:Ag}{Pfx:List (Nat×Nat)}(h:FSt S H d u Pfx g)(s:aM g i):FSt S H d u Pfx i:=by
 obtain⟨a,j,l,b,c,e,f⟩:=h;exact⟨a.trans s,j,l,b,s _ _ c,e.same s,f⟩
theorem vh{S:Plan}(R:Geo.Rules S){Pfx:List (Nat×Nat)}(a:∀s∈Pfx,s∈CZ S)(b:Pfx.Nodup):(lh S Pfx).length<=2*S.lines.length:=by
 unfold lh;rw[Ab,<- R.fH];refine Br (Ci (l₂:=CZ S) ((b.filter _).filter _) fun e he => ?_) (Ak _);exact a e (Bw.mp (Bw.mp he).1).1
theorem adU(D:Def K mg "find_outlines" ac7 ["points","near"])(T:Txt K mg ad)(gR:Fn P w K mg base 4 "walk_round" ["points","near","first","second","walked"] zv)(cI:Fn P w K mg base 2 "runs_to_the_left" ["points","outline"] yY):Fn P w K mg base 5 "find_outlines" ["points","near"] zh:=by
 refine D.fx ["points","near","walked","outlines","first","others","second","outline"] ?_;rintro nd f ax A ae s H vs Q E hr ⟨a,b,as,S,xs,rfl,pl,sm,na,R,hm,q⟩;have hu:=rZ hr;refine⟨_,(kxs 2 nd abJ (kxs 3 nd (aP ah) (az (a8 AJ rfl (eY (by rfl) T.aZ (ab (pv 1) ah)) (dQ rfl (aL (kxo 4 nd) (aL (kxo 5 nd) cj))) (aE (a8 AJ rfl (aY (pv 5)) (kxo 6 nd) (aE (cg (gg (gA hu (df (ab (pv 4) (ab (pv 6) ah))) (pv 2))) (kxs 7 nd (kxF gR hr (ab (pv 0) (ab (pv 1) (ab (pv 4) (ab (pv 6) (ab (pv 2) ah)))))) (aE (cg (aX (kxF cI hr (ab (pv 0) (ab (pv 7) ah))) (fun _=>rfl)) (aE (cS (kxA (pv 3) (pv 7)))) aR))) aR))))) (kxr (pv 3))))),?_⟩;intro d hd;refine⟨AN _,fun u X => ?_⟩;have s0:aM H (upd (upd H d (.dT [])) u (.lst [])):=(ak hd).trans (ak X);have ud:u≠d:=Ne.symm (aB (H:=upd H d (.dT [])) ag X);have af:H u=Option.none:=(ak (o:=.dT []) hd).free X;have ai:FSt S H d u [] (upd (upd H d (.dT [])) u (.lst [])):=⟨s0,[],[],⟨fun e=>by simp,EZ⟩,by rw[aw (Ne.symm ud)];exact ag,⟨ag,rfl,fun j l o e=>by simp at e⟩,fun l hl=>nomatch hl⟩;generalize (upd (upd H d (.dT [])) u (.lst []))=H0 at *
 refine⟨_,rfl,b,_,rfl,SqL.of (s0 _ _ na.lst),dN (K:=K) (a:=b) (xs:=as.map V.ref) (fun i σ r=>(∃v1 v2 O W,σ=[some (.ref a),some (.ref b),some (.ref d),some (.ref u),v1,v2,O,W])/\FSt S H d u (x4 S i) r)
  ⟨⟨none,none,none,none,rfl⟩,ai⟩ (fun i σ r _ ⟨_,e⟩=>SqL.of (e.1 _ _ na.lst)) ?_ ?_⟩
 ·rintro i x σ r t hx ⟨⟨v1,v2,O,W,rfl⟩,st⟩ ht
  have hi:i<S.pts.length:=by
   have:=(Aj.mp hx).1;rw[Ab,na.len,bw] at this;exact this
  obtain⟨p,ep,gp,hp⟩:=na.get (i:=i) (by rw[bw];exact hi);rw[gp] at hx;obtain rfl:=Ah hx;rw[iU S hi] at hp;refine⟨t,_,rfl,SqT.of ag,rfl,_,_,rfl,_,_,rfl,rfl,?_⟩;have a0:=st.same (ak (o:=.tup [.int (i:Nat),.ref p]) ht);generalize upd r t (.tup [.int (i:Nat),.ref p])=H1 at *
  refine⟨_,rfl,p,rfl,⟨_,SqL.of (a0.1 _ _ hp)⟩,bB (K:=K) (a:=p) (xs:=(S.near i).map fG) (fun j σ r=>(∃O W,σ=[some (.ref a),some (.ref b),some (.ref d),some (.ref u),some (.int (i:Nat)),some (.ref p),O,W])/\FSt S H d u (x4 S i++((S.near i).take j).map fun v=>(i,v)) r)
   ⟨⟨O,W,rfl⟩,by simpa using a0⟩ (fun j σ r _ ⟨_,e⟩=>SqL.of (e.1 _ _ hp)) ?_ ?_⟩
  ·rintro j x σ r hx ⟨⟨O,W,rfl⟩,sH,Wd,ls,fi,C,ln,g⟩
   obtain⟨v,ev,rfl⟩:=nG hx;obtain⟨av,er⟩:=wU hi ev;have wP:∀e∈x4 S i++((S.near i).take j).map fun v=>(i,v),e∈CZ S:=fun e he=>R.cU.mp (er▸AM _ he);have ws:(i,v)∈CZ S:=R.cU.mp (er▸(by simp));have nP:(x4 S i++((S.near i).take j).map fun v=>(i,v)).Nodup:=by
    have:=R.dI;rw[er] at this;exact(Bm.mp this).1
   have eP:x4 S i++((S.near i).take (j+1)).map (fun v=>(i,v))=(x4 S i++((S.near i).take j).map fun v=>(i,v))++[(i,v)]:=by
    rw[take_snoc ev,Ay,BZ];rfl
   have lW:=fi.len R wP;obtain⟨a3,a4⟩:=fi.step R er;rw[eP];generalize (x4 S i++((S.near i).take j).map fun v=>(i,v))=Pfx at *
   refine⟨_,rfl,_,rfl,by show 2<=sizeLine;decide,fun t2 a5=>⟨_,rfl,d,_,rfl,vZ.t (k:=wkK (i,v)) (b:=t2) (by rw[aw (aB C a5)];exact C) ag,_,rfl,?_⟩⟩;rw[aa0];have s2:=ak (o:=.tup [.int (i:Int),.int (v:Int)]) a5;have Y:=s2 _ _ C;have B:=ln.same s2;have G:=sH.trans s2;generalize upd r t2 (.tup [.int (i:Int),.int (v:Int)])=H2 at *
   by_cases c:(i,v)∈Wd
   ·obtain⟨nr,I⟩:=a3 c
    rw[As c];refine jt ⟨⟨_,_,rfl⟩,G,Wd,ls,I,Y,?_,g⟩;rw[iR,Ar (fun z=>nr z.1)];exact B
   ·obtain⟨rt,aj,I⟩:=a4 c
    rw[Ar c];refine jO ⟨_,rfl,_,rfl,_,rfl,_,rfl,_,rfl,a,b,d,as,S,xs,(i,v),Wd,rfl,pl.same G,sm,na.same G,R,ws,Y,aj,by omega,hm,fun H3 o sX a6 J ho => ?_⟩;have od:o≠d:=fun z=>by rw[z,Y] at J;cases J
    have ou:o≠u:=fun z=>by rw[z,B.lst] at J;cases J
    have Z:aM H H3:=fun c' o' e=>sX c' o' (G _ _ e) (fun z=>by rw[z,hd] at e;cases e);have a7:LN H3 u (lh S Pfx) ls:=⟨sX _ _ B.lst ud,B.len,fun j l o' e1 e2=>sX _ _ (B.at_ j l o' e1 e2) (g l (AE e1)).2⟩;have ok:∀k∈orb S (i,v),k<S.pts.length:=fun k hk=>by
     obtain⟨m,m0,em,aa,eo,ew⟩:=R.b7 ws;rw[eo] at hk;obtain⟨n,_,rfl⟩:=Ax.mp hk;exact(R.bC (R.ok.bP ws n)).1
    have ol:(orb S (i,v)).length<1000000:=by
     obtain⟨m,m0,em,aa,eo,ew⟩:=R.b7 ws;have e1:(orb S (i,v)).length=(ows S (i,v)).length:=by rw[eo,ew,Ab,Ab]
     have e2:(ows S (i,v)).length<=(CZ S).length:=Ci (nH R ws) fun e he=>R.mB ws he;rw[R.fH] at e2;omega
    refine⟨_,rfl,_,rfl,a,o,S.pts,xs,orb S (i,v),rfl,pl.same Z,sm,ho,ok,ol,fun H4 s4 => ?_⟩;rw[ahs];have au:=s4 _ _ ho;refine⟨_,rfl,bX (fun z => ?_) (fun z => ?_)⟩
    ·have z':=AV z
     have M:=a7.same s4;refine⟨_,rfl,.inl ⟨rfl,_,SqL.of M.lst⟩,_,rfl,u,_,_,rfl,rfl,M.lst,?_,?_⟩
     ·rw[Ab,M.len]
      have:=vh R wP nP;exact b9 (by omega)
     refine⟨⟨_,_,rfl⟩,aI (Z.trans s4) af,_,ls++[o],I,?_,?_,fun l hl => ?_⟩
     ·rw[aw (Ne.symm ud)];exact s4 _ _ a6
     ·rw[iR,As ⟨rt,z'⟩]
      exact M.snoc au ou fun l hl=>(g l hl).1
     ·rcases A4.mp hl with y|y
      ·exact g l y
      ·obtain rfl:l=o:=by simpa using y
       exact⟨ou,od⟩
    ·have z':¬0<Dn S (orb S (i,v)):=fun y=>z (AD y)
     refine⟨⟨_,_,rfl⟩,Z.trans s4,_,ls,I,s4 _ _ a6,?_,g⟩;rw[iR,Ar (fun y=>z' y.2)];exact a7.same s4
  ·rintro σ r ⟨⟨O,W,rfl⟩,st⟩
   rw[Ab,BG] at st;refine⟨⟨_,_,_,_,rfl⟩,?_⟩;rw[sL];exact st
 ·rintro σ r ⟨⟨v1,v2,O,W,rfl⟩,sH,Wd,ls,fi,C,ln,g⟩
  rw[Ab,na.len,bw] at ln;exact⟨_,rfl,q r u ls sH ln⟩
structure OL(H:Hp)(L:Ag)(pts:List Pt)(os:List (List Nat))(ls:List Ag):Prop where
 lst:H L=some (.lst (ls.map V.ref))
 len:ls.length=os.length
 at_:∀(j:Nat)(l:Ag)(o:List Nat),ls[j]? = some l->os[j]? = some o->∃ts,SD H l pts o ts
theorem OL.same{H a:Hp}{L:Ag}{pts:List Pt}{b:List (List Nat)}{c:List Ag}(h:OL H L pts b c)(s:aM H a):OL a L pts b c :=
 ⟨s _ _ h.lst,h.len,fun j l o e1 d=>let ⟨ts,sd⟩:=h.at_ j l o e1 d;⟨ts,sd.same s⟩⟩
noncomputable def rH(pts:List Pt)(a:List (List Nat))(b c:Int):Option Nat:=aO a.length fun j=>inZ pts (a.getD j []) b c
inductive yu(vs:List V)(H:Hp)(Q:VK)(E:XK):Prop
 | mk (m L:Ag)(zx zy:Int)(r:List V)(pts:List Pt)(os:List (List Nat))(ls:List Ag)(c0:vs=[.ref m,.ref L])(c1:H m=some (.tup (.int zx::.int zy::r)))(c2:OL H L pts os ls)(c3:SmP pts)(c4:∀H',aM H H'->Q (abl (rH pts os zx zy)) H')
noncomputable abbrev acQ:Stmt:=(top 52)
theorem aeq(D:Def K mg "pane_of" acQ ["mark","outlines_sides"])(T:Txt K mg ad)(M:Fn P w K mg base 3 "is_inside" ["mark","outline_sides"] (aee K)):Fn P w K mg base 4 "pane_of" ["mark","outlines_sides"] yu:=by
 refine D.fx ["mark","outlines_sides","k","outline_sides"] ?_;rintro B f O A p s H vs Q E R ⟨m,L,C,G,r,pts,j,I,rfl,S,c,sm,q⟩;refine⟨_,(az (a8 AJ rfl (eY (by rfl) T.aZ (ab (pv 1) ah)) (dQ rfl (aL (kxo 2 B) (aL (kxo 3 B) cj))) (aE (cg (aX (kxF M R (ab (pv 0) (ab (pv 3) ah))) (fun _=>rfl)) (kxr (pv 2)) aR))) (kxr eI)),?_⟩;refine⟨_,rfl,L,_,rfl,SqL.of c.lst,dN (K:=K) (a:=L) (xs:=I.map V.ref) (fun i σ b=>(∃u v,σ=[some (.ref m),some (.ref L),u,v])/\aM H b/\∀e,e<i->inZ pts (j.getD e []) C G=false)
  ⟨⟨none,none,rfl⟩,aM.refl H,fun e he=>absurd he (Bt e)⟩ (fun i σ b _ ⟨_,e,_⟩=>SqL.of (e _ _ c.lst)) ?_ ?_⟩
 ·rintro i x σ b t d ⟨⟨u,v,rfl⟩,y,g⟩ W
  rw[Av] at d;cases el:I[i]? with
  | none=>rw[el] at d;cases d
  | some l =>
   rw[el] at d;obtain rfl:V.ref l=x:=Ah d;have J:i<j.length:=by rw[<- c.len];exact(Aj.mp el).1
   have X:j[i]? = some (j.getD i []):=by rw[Az,Aa J];rfl
   obtain⟨Y,sd⟩:=c.at_ i l _ el X;refine⟨t,_,rfl,SqT.of ag,rfl,_,_,rfl,_,_,rfl,rfl,?_⟩;have n:=y.trans (ak (o:=.tup [.int (i:Nat),.ref l]) W);generalize upd b t (.tup [.int (i:Nat),.ref l])=H1 at *
   refine⟨_,rfl,_,rfl,m,l,C,G,pts,_,Y,rfl,.of2 (n _ _ S),sd.same n,sm,_,rfl,bX (fun z => ?_) (fun z => ?_)⟩
   ·refine⟨_,rfl,?_⟩
    have:=q H1 n;unfold rH at this;rw[aW J z g] at this;exact this
   ·exact⟨⟨_,_,rfl⟩,n,bY g (by simpa using z)⟩
 ·rintro σ b ⟨⟨u,v,rfl⟩,y,g⟩
  rw[Ab,c.len] at g;have:=q b y;unfold rH at this;rw[a9 g] at this;exact this
end
end Gs
namespace Gs
open PySem PySem.Spec PyProof.Rows L2
open Gla (Plan Pt Mark)
theorem wX:bootBuiltins "dict" = some (.type "dict"):=by decide +kernel
section
variable{X:Cx}{K:Lf}
theorem adW{a:List B9}{k:Nat}{t:TGs}{n:Nat}{pos:Pos}(c:X.K=K)(d:X.calm=true)(h:PGs X a t)(e:(assignEach a X.env).length=n:=by rfl)(b:(assignEach a X.env).findIdx? (·.1)=none:=by rfl):PG X (.Tuple a k pos) (ajf K n t):=by
 subst c;exact dQ d h e b
theorem pG{e:B9}{f:AW}{pos:Pos}{a:TE}(b:X.K=K)(he:PE X e a)(c:attributeBase e f X.env (eval e X.env)=eval e X.env):PE X (.Attribute e f pos) (acV K a f):=by
 subst b;exact aA he c
end
theorem afk{K:Lf}{a b:Ag}{xs ys:List V}{g:TG}{tb:TS}{D:Ends}{σ:L2.St}{H:Hp}(n:Nat)(C:n=min xs.length ys.length)(c:Nat->L2.St->Hp->Prop)(r:c 0 σ H)(e:∀i σ H,i<=n->c i σ H->SqL K H a xs/\SqL K H b ys)(s:∀i x y σ H T,xs[i]? = some x->ys[i]? = some y->c i σ H->H T=AK->g (.ref T) σ (upd H T (.tup [x,y])) fun f j=>tb { D with nx:=c (i+1),ct:=c (i+1),bk:=D.nx } f j)(u:∀σ H,c n σ H->D.nx σ H):
  ∃W:Nat->Nat->L2.St->Hp->Prop,(∃m,W 0 m σ H)/\∀i m σ H,W i m σ H ->
   ((Itz K a b).stop i H/\D.nx σ H)\/((Itz K a b).go i H/\∃N:L2.St->Hp->Prop,(∀o d,N o d->∃q,q<m/\W (i+1) q o d)/\∀x d,(Itz K a b).yld i H x d->g x σ d fun f j=>tb { D with nx:=N,ct:=N,bk:=D.nx } f j):=by
 refine vX (J:=Itz K a b) n c r (fun i σ H l p => ?_) (fun i v σ H d l p y => ?_) (fun σ H p=>⟨⟨xs,ys,(e _ σ H (Ak _) p).1,(e _ σ H (Ak _) p).2,by omega⟩,u σ H p⟩)
 ·have:=e i σ H (BQ l) p
  exact⟨xs,ys,xs[i]'(by omega),ys[i]'(by omega),this.1,this.2,Aa _,Aa _⟩
 ·obtain⟨T,x,w,rfl,z,rfl,A,B⟩:=y
  have:=e i σ H (BQ l) p;exact s i x w σ H T (A xs this.1) (B ys this.2) p z
section
variable{P:AI}{w:AZ}{K:Lf}{mg:Lg}{base:B1}{ad:Adr}
noncomputable def lnI(S:Plan)(k:Nat):List Int := [((S.lines.getD k (0,0)).1:Int),((S.lines.getD k (0,0)).2:Int)]
noncomputable def cN(S:Plan)(k:Nat):Bool:=(decide ((S.lines.getD k (0,0)).2<=(S.lines.getD k (0,0)).1)||decide (S.pts.length<=(S.lines.getD k (0,0)).2))||(decide (0<k)&&lx true (lnI S k) (lnI S (k-1)))
inductive qC(ad:Adr)(vs:List V)(H:Hp)(Q:VK)(E:XK):Prop
 | mk (d dx lp ll lm:Ag)(S:Plan)(c0:vs=[.ref d])(c1:bW ad H d S dx lp ll lm)(c2:∀H',aM H H'->Q (plV ((aO S.lines.length (cN S)).map (acf S))) H')
noncomputable abbrev vd:Stmt:=(top 30)
theorem decLe(x y:Nat):decide ((x:Int)<=(y:Int))=decide (x<=y):=Ba.mpr ⟨fun h=>by omega,fun h=>by omega⟩
theorem aaS(D:Def K mg "stray_line" vd ["drawing"])(T:Txt K mg ad)(W:Me P w K mg base 2 ad.drawing "line_place" ["self","k"] (afv ad)):Fn P w K mg base 3 "stray_line" ["drawing"] (qC ad):=by
 refine D.fx ["drawing","k","line"] ?_;rintro X f a0 A I s H vs Q E J ⟨d,dx,Y,C,lm,S,rfl,n,q⟩;obtain⟨ps,pl⟩:=n.pts.pts;obtain⟨M,ln⟩:=n.lns.lns;refine⟨_,(az (a8 AJ rfl (eY (by rfl) T.aZ (ab (aA (pv 0) rfl) ah)) (dQ rfl (aL (kxo 1 X) (aL (kxo 2 X) cj))) (kxf ((qr (ajr (kxT (pv 2) aq) (kxT (pv 2) aq)) (jv (ajr (kxT (pv 2) aq) (kxL T.cy (aA (pv 0) rfl)))))).pt (gF (pv 0) W (J.mono (by decide)) (ab (pv 1) ah)) (aE (cg ((k9 (kxg (pv 1) aq) (gD (fV (ahB J.af5) (pv 2) (kxI (aA (pv 0) rfl) (aV dE (pv 1) aq)) (bj _))))).pt (kxr (gF (pv 0) W (J.mono (by decide)) (ab (pv 1) ah))) aR)))) (kxr eI)),?_⟩;refine⟨_,rfl,fl n.ob T.draw aca ⟨C,M,rfl,SqL.of ln.lst,dN (K:=K) (a:=C) (xs:=M) (fun i σ B=>(∃u v,σ=[some (.ref d),u,v])/\aM H B/\∀e,e<i->cN S e=false)
  ⟨⟨none,none,rfl⟩,aM.refl H,fun e he=>absurd he (Bt e)⟩ (fun i σ B _ ⟨_,e,_⟩=>SqL.of (e _ _ ln.lst)) ?_ ?_⟩⟩
 ·rintro i x σ B t O ⟨⟨u,v,rfl⟩,R,r⟩ ht
  have Z:i<S.lines.length:=by
   have:=(Aj.mp O).1;rw[ln.len] at this;exact this
  obtain⟨b,eb,G⟩:=ln.at_ i Z;rw[eb] at O;obtain rfl:=Ah O;refine⟨t,_,rfl,SqT.of ag,rfl,_,_,rfl,_,_,rfl,rfl,?_⟩;have l:=R.trans (ak (o:=.tup [.int (i:Nat),.ref b]) ht);generalize upd B t (.tup [.int (i:Nat),.ref b])=H1 at *
  have p:cN S i=true->afv ad [.ref d,.int (i:Nat)] H1 Q E0:=by
   intro m;rw[aW Z m r] at q;exact⟨d,dx,Y,C,lm,S,_,rfl,n.same l,q _ l⟩
  refine dO (j:=0) rfl (SqT.of (l _ _ G)) rfl (dO (j:=1) rfl (SqT.of (l _ _ G)) rfl ⟨_,_,rfl,rfl,_,rfl,?_⟩);rw[decLe];refine bX (fun z => ?_) (fun z => ?_)
  ·have m:cN S i=true:=by unfold cN;rw[z];rfl
   exact jO ⟨_,rfl,d,dx,_,rfl,l _ _ n.ob,rfl,_,rfl,p m⟩
  ·refine dO (j:=1) rfl (SqT.of (l _ _ G)) rfl ⟨_,rfl,fl (l _ _ n.ob) T.draw qR ⟨Y,_,rfl,.inl (SqL.of (l _ _ pl.lst)),_,_,rfl,rfl,_,rfl,?_⟩⟩
   rw[pl.len,decLe];refine bX (fun y => ?_) (fun y => ?_)
   ·have m:cN S i=true:=by unfold cN;rw[y,DH];rfl
    exact⟨_,rfl,d,dx,_,rfl,l _ _ n.ob,rfl,_,rfl,p m⟩
   ·refine⟨_,rfl,_,_,rfl,rfl,_,rfl,?_⟩
    rw[aaL];refine bX (fun g => ?_) (fun g => ?_)
    ·have g':0<i:=AV g
     obtain⟨c,ec,qc⟩:=ln.at_ (i-1) (by omega);refine⟨_,rfl,_,rfl,fl (l _ _ n.ob) T.draw aca ⟨_,rfl,_,_,rfl,rfl,C,M,_,.ref c,rfl,rfl,SqL.of (l _ _ ln.lst),?_,?_⟩⟩
     ·rw[show(i:Int)-1=((i-1:Nat):Int) by omega]
      exact aQ ec
     ·refine⟨b,c,lnI S i,lnI S (i-1),rfl,rfl,SqT.of (l _ _ G),SqT.of (l _ _ qc),_,rfl,?_⟩
      refine bX (fun h => ?_) (fun h => ?_)
      ·have m:cN S i=true:=by unfold cN;rw[h,g,GL,DH]
       exact⟨_,rfl,d,dx,_,rfl,l _ _ n.ob,rfl,_,rfl,p m⟩
      ·refine⟨⟨_,_,rfl⟩,l,bY r ?_⟩
       unfold cN;rw[A8.mpr z,A8.mpr y,A8.mpr h,Ep];rfl
    ·refine jt ⟨⟨_,_,rfl⟩,l,bY r ?_⟩
     unfold cN;rw[A8.mpr z,A8.mpr y,A8.mpr g,Bp];rfl
 ·rintro σ B ⟨⟨u,v,rfl⟩,R,r⟩
  rw[ln.len] at r;rw[a9 r] at q;exact q _ R
end
noncomputable def crd(p:Pt)(a:Nat):Nat:=if a=0 then p.x else p.y
noncomputable def oC(S:Plan)(a v i:Nat):List Nat:=(An i).filter fun k=>decide (crd (S.pts.getD k ⟨0,0⟩) a=v)
noncomputable def fO(S:Plan)(a v:Nat):List Nat:=oC S a v S.pts.length
noncomputable def nJ(S:Plan)(l:List Nat):Bool:=(l.zip (l.drop 1)).all fun e=>decide (e∈S.lines)
noncomputable def ahj(S:Plan):List (Nat×Nat) := [(0,0),(S.w,0),(0,S.h),(S.w,S.h)]
noncomputable def axL(S:Plan):List (Nat×Nat) := [(0,0),(0,S.w),(1,0),(1,S.h)]
noncomputable def yf(S:Plan):Bool := !((ahj S).all fun c=>decide ((⟨c.1,c.2⟩:Pt)∈S.pts)) || !((axL S).all fun c=>nJ S (fO S c.1 c.2))
theorem za(S:Plan)(a b:Nat):decide ([(a:Int),(b:Int)]∈S.pts.map tK)=decide ((⟨a,b⟩:Pt)∈S.pts):=by
 refine Ba.mpr ⟨fun h => ?_,fun h=>Ax.mpr ⟨_,h,rfl⟩⟩;obtain⟨p,c,e⟩:=Ax.mp h;unfold tK at e;injection e with e1 e2
 injection e2 with e2 _
 have:p=⟨a,b⟩:=by
  cases p
  simp only[Pt.mk.injEq];exact⟨Ik e1,Ik e2⟩
 exact this▸c
theorem qg{α:Type}{p:α->Bool}{l:List α}:∀(h:∀(i:Nat) (x:α),l[i]? = some x->p x=true),l.all p=true:=fun h=>by
 rw[Ds];intro x a;obtain⟨i,b,e⟩:=AQ.mp a;exact h i x (by rw[Aa b,e])
theorem tZ{α:Type}{p:α->Bool}{l:List α}{i:Nat}{x:α}(h:l[i]? = some x)(a:p x=false):l.all p=false:=by
 rw[A8];intro z;rw[Ds] at z;have:=z x (AE h);rw[a] at this;cases this
structure PrA(H:Hp)(ts:List Ag)(l:List (Nat×Nat)):Prop where
 len:ts.length=l.length
 at_:∀(j:Nat)(t:Ag)(e:Nat×Nat),ts[j]? = some t->l[j]? = some e->H t=some (.tup [.int (e.1:Int),.int (e.2:Int)])
theorem PrA.same{H c:Hp}{d:List Ag}{l:List (Nat×Nat)}(h:PrA H d l)(s:aM H c):PrA c d l:=⟨h.len,fun j t e a b=>s _ _ (h.at_ j t e a b)⟩
theorem PrA.get{H:Hp}{b:List Ag}{l:List (Nat×Nat)}(h:PrA H b l){i:Nat}{x:V}(a:(b.map V.ref)[i]? = some x):∃t e,x=.ref t/\l[i]? = some e/\H t=some (.tup [.int (e.1:Int),.int (e.2:Int)]):=by
 rw[Av] at a;cases et:b[i]? with
 | none=>rw[et] at a;cases a
 | some t =>
  rw[et] at a;have c:=(Aj.mp et).1;rw[h.len] at c;exact⟨t,_,(Ah a).symm,Aa c,h.at_ i t _ et (Aa c)⟩
theorem ai8{H:Hp}{g i l m:Ag}{a b c d a' n c' d':Nat}(o:H g=some (.tup [.int (a:Int),.int (a':Int)]))(p:H i=some (.tup [.int (b:Int),.int (n:Int)]))(q:H l=some (.tup [.int (c:Int),.int (c':Int)]))(r:H m=some (.tup [.int (d:Int),.int (d':Int)])):
  PrA H [g,i,l,m] [(a,a'),(b,n),(c,c'),(d,d')]:=by
 refine⟨rfl,fun j t e e1 f => ?_⟩
 match j,e1,f with
 | 0,e1,f=>cases e1;cases f;exact o
 | 1,e1,f=>cases e1;cases f;exact p
 | 2,e1,f=>cases e1;cases f;exact q
 | 3,e1,f=>cases e1;cases f;exact r
section
variable{P:AI}{w:AZ}{K:Lf}{mg:Lg}{base:B1}{ad:Adr}
inductive afc(ad:Adr)(vs:List V)(H:Hp)(Q:VK)(E:XK):Prop
 | mk (d dx lp ll lm:Ag)(S:Plan)(c0:vs=[.ref d])(c1:bW ad H d S dx lp ll lm)(c2:S.lines.length<65536)(c3:S.pts.length<65536)(c4:∀H',aM H H'->Q (plV (if yf S=true then some 20 else none)) H')
noncomputable abbrev afZ:Stmt:=(top 31)
theorem ahg(D:Def K mg "gap_in_frame" afZ ["drawing"])(T:Txt K mg ad):Fn P w K mg base 1 "gap_in_frame" ["drawing"] (afc ad):=by
 refine D.fx ["drawing","corner","line","joined","axis","value","k","point","edge","pair"] ?_;rintro R f cb A bp s H vs Q E hr ⟨d,dx,lp,ll,lm,S,rfl,G,hl,hn,q⟩;have hu:=rZ hr;have a0:=hr.units;obtain⟨ps,pl⟩:=G.pts.pts;obtain⟨ls,ln⟩:=G.lns.lns;refine⟨_,(az (a8 AJ rfl (yV (df (ab (df (ab aq (ab aq ah))) (ab (df (ab (aA (pv 0) rfl) (ab aq ah))) (ab (df (ab aq (ab (aA (pv 0) rfl) ah))) (ab (df (ab (aA (pv 0) rfl) (ab (aA (pv 0) rfl) ah))) ah)))))) (kxo 1 R) (aE (cg (fV (zB a0) (pv 1) (aA (pv 0) rfl) (by with_unfolding_all rfl)) (kxr (kxG T.ba)) aR))) (kxs 3 R (nN (xT rfl a0) (by rfl) T.afl wX (ab (x9 rfl R (aY (aA (pv 0) rfl)) (d4 (own := [("line",2)]) rfl) (fun _ _ _ _ _=>(kxo 2 R)) (fun _ _ _ _ _=>cP) (fun _ _ _ _ _=>(df (ab (pv 2) (ab iF ah))))) ah)) (az (a8 AJ rfl (yV (df (ab (df (ab aq (ab aq ah))) (ab (df (ab aq (ab (aA (pv 0) rfl) ah))) (ab (df (ab aq (ab aq ah))) (ab (df (ab aq (ab (aA (pv 0) rfl) ah))) ah)))))) (dQ rfl (aL (kxo 4 R) (aL (kxo 5 R) cj))) (az (da (i:=8) rfl R rfl rfl rfl (eY (by rfl) T.aZ (ab (aA (pv 0) rfl) ah)) (d4 (own := [("k",6),("point",7)]) rfl) (fun _ _ _ _ _=>(adW (K:=K) (n:=2) rfl rfl (aL (kxo 6 R) (aL (kxo 7 R) cj)))) (fun _ _ _ _ _=>zi (kxq (uH (uz (K:=K) rfl) (pv 7) (pv 4) (fun _ _=>rfl)) (pv 5))) (fun _ _ _ _ _=>(pv 6))) (aE (a8 AJ rfl (adQ (by rfl) T.adO (ab (pv 8) (ab (iB kG (pv 8) (gQ aq) pW) ah))) (kxo 9 R) (aE (cg (gg (gA hu (pv 9) (pv 3))) (kxr (kxG T.ba)) aR)))))) (kxr eI)))),?_⟩;refine⟨by show 2<=sizeLine;decide,fun r h1 => ?_⟩;have s1:=ak (o:=.tup [.int 0,.int 0]) h1;refine⟨_,rfl,fl (s1 _ _ G.ob) T.draw agm ⟨by show 2<=sizeLine;decide,fun u h2 => ?_⟩⟩;have s2:=s1.trans (ak (o:=.tup [.int S.w,.int 0]) h2);refine⟨_,rfl,fl (s2 _ _ G.ob) T.draw ahp ⟨by show 2<=sizeLine;decide,fun B h3 => ?_⟩⟩;have s3:=s2.trans (ak (o:=.tup [.int 0,.int S.h]) h3);refine⟨_,rfl,fl (s3 _ _ G.ob) T.draw agm ⟨_,rfl,fl (s3 _ _ G.ob) T.draw ahp ⟨by show 2<=sizeLine;decide,fun C Y=>⟨by show 4<=sizeLine;decide,fun tt av => ?_⟩⟩⟩⟩;have s4:=s3.trans (ak (o:=.tup [.int S.w,.int S.h]) Y);have W:=s4.trans (ak (o:=.tup [.ref r,.ref u,.ref B,.ref C]) av);have g1:PrA (upd (upd (upd (upd H r (.tup [.int 0,.int 0])) u (.tup [.int S.w,.int 0])) B (.tup [.int 0,.int S.h])) C (.tup [.int S.w,.int S.h])) [r,u,B,C] (ahj S) :=
  ai8 (a:=0) (a':=0) ((ak Y) _ _ ((ak h3) _ _ ((ak h2) _ _ ag))) ((ak Y) _ _ ((ak h3) _ _ ag)) ((ak Y) _ _ ag) ag
 have g2:=g1.same (ak (o:=.tup [.ref r,.ref u,.ref B,.ref C]) av);have gt:(upd (upd (upd (upd (upd H r (.tup [.int 0,.int 0])) u (.tup [.int S.w,.int 0])) B (.tup [.int 0,.int S.h])) C (.tup [.int S.w,.int S.h])) tt (.tup [.ref r,.ref u,.ref B,.ref C])) tt=some (.tup ([r,u,B,C].map V.ref)):=ag;generalize (upd (upd (upd (upd (upd H r (.tup [.int 0,.int 0])) u (.tup [.int S.w,.int 0])) B (.tup [.int 0,.int S.h])) C (.tup [.int S.w,.int S.h])) tt (.tup [.ref r,.ref u,.ref B,.ref C]))=H5 at *
 generalize [r,u,B,C]=ts at *
 refine⟨tt,rfl,⟨_,SqT.of gt⟩,uy (K:=K) (a:=tt) (xs:=ts.map V.ref) (fun i σ l=>(∃v,σ=[some (.ref d),v,none,none,none,none,none,none,none,none])/\l=H5/\∀(j:Nat)(c:Nat×Nat),j<i->(ahj S)[j]? = some c->decide ((⟨c.1,c.2⟩:Pt)∈S.pts)=true)
  ⟨⟨none,rfl⟩,rfl,fun j c h=>absurd h (Bt j)⟩ (fun i σ l _ ⟨_,e,_⟩=>by rw[e];exact SqT.of gt) ?_ ?_⟩
 ·rintro i x σ l hx ⟨⟨v,rfl⟩,rfl,no⟩
  obtain⟨t,e,rfl,ee,ht⟩:=g2.get hx;refine⟨_,rfl,_,rfl,fl (W _ _ G.ob) T.draw qR ⟨t,lp,[(e.1:Int),(e.2:Int)],S.pts.map tK,rfl,rfl,SqT.of ht,G.pts.same W,_,rfl,?_⟩⟩;rw[za];refine bX (fun z => ?_) (fun z => ?_)
  ·have gp:yf S=true:=by
    unfold yf;rw[tZ ee (by simpa using z)];rfl
   have:=q _ W;rw[As gp] at this;exact this
  ·refine⟨⟨_,rfl⟩,rfl,fun j c hj I => ?_⟩
   by_cases ji:j=i
   ·subst ji
    rw[ee] at I;obtain rfl:=Ah I
    simpa using z
   ·exact no j c (by omega) I
 ·rintro σ l ⟨⟨v,rfl⟩,eH,no⟩
  obtain rfl:=eH.symm;have ax:((ahj S).all fun c=>decide ((⟨c.1,c.2⟩:Pt)∈S.pts))=true:=qg fun i c I=>no i c (by
   have:=(Aj.mp I).1;rw[Ab,g2.len];exact this) I
  refine⟨_,rfl,fl (W _ _ G.ob) T.draw aca ⟨ll,rfl,⟨_,SqL.of (W _ _ ln.lst)⟩,fun c I => ?_⟩⟩;refine iW (J:=Itl K ll) c S.lines.length (fun i l=>aM l l/\aM H5 l/\∃qs:List Ag,PT2 l c qs (S.lines.take i))
   ⟨aM.refl _,ak I,[],⟨ag,by simp,fun j p e e1=>by simp at e1⟩⟩ ?_ ?_ ?_
  ·rintro i l hi ⟨_,sH,_⟩
   obtain⟨p,e,_⟩:=ln.at_ i hi;exact⟨ls,_,SqL.of (sH _ _ (W _ _ ln.lst)),e⟩
  ·rintro i x l H2 hi ⟨_,sH,qs,pt⟩ ⟨rfl,hx⟩
   obtain⟨b,eb,qb⟩:=ln.at_ i hi;have ex:=hx _ (SqL.of (sH _ _ (W _ _ ln.lst)));rw[eb] at ex;obtain rfl:V.ref b=x:=Ah ex;have a5:qs.length=i:=by rw[pt.len,AO];omega
   refine⟨rfl,ke ⟨_,rfl,by show 2<=sizeLine;decide,fun p hp => ?_⟩⟩;have sp:=ak (o:=.tup [.ref b,.bl true]) hp;have a6:=pt.same sp;have b1:(upd H2 p (.tup [.ref b,.bl true])) p=some (.tup [.ref b,.bl true]):=ag;have b2:=sH.trans sp;generalize upd H2 p (.tup [.ref b,.bl true])=H3 at *
   refine⟨_,a6.lst,by rw[Ab,a5];exact b9 (by omega),aM.refl _,aI b2 I,qs++[p],?_⟩;have nc:∀{z:Ag}{ys:List V},H3 z=some (.tup ys)->z≠c:=fun e=>tS e a6.lst (fun y=>nomatch y);refine⟨by rw[ag,Ay];rfl,by rw[Al,a5,AO];simp;omega,fun j p' e e1 e2 => ?_⟩
   by_cases hj:j<qs.length
   ·rw[A1 hj] at e1
    rw[BC (by omega)] at e2;obtain⟨t,a1,a2⟩:=a6.at_ j p' e e1 (by rw[BC (by omega)];exact e2);exact⟨t,by rw[aw (nc a1)];exact a1,by rw[aw (nc a2)];exact a2⟩
   ·have b3:j=qs.length:=by
     have:=(Aj.mp e1).1;rw[Al] at this;simp at this;omega
    rw[b3,Aw (Ak _),BE] at e1;obtain rfl:p=p':=Ah e1;rw[b3,a5,BC (by omega)] at e2;have ee:S.lines.getD i (0,0)=e:=by rw[Az,e2];rfl
    have a2:=b2 _ _ (W _ _ qb);rw[ee] at a2;exact⟨b,by rw[aw (nc b1)];exact b1,by rw[aw (nc a2)];exact a2⟩
  ·rintro l ⟨_,sH,qs,pt⟩
   rw[BG] at pt;refine⟨⟨ls,SqL.of (sH _ _ (W _ _ ln.lst)),by rw[ln.len];exact Ak _⟩,?_⟩;refine⟨c,qs,S.lines,rfl,pt,b9 (by omega),fun j H6 hj sm hJ => ?_⟩;have s6:=W.trans (sH.trans sm);clear pt;refine⟨by show 2<=sizeLine;decide,fun r h1 => ?_⟩;have r1:=ak (o:=.tup [.int 0,.int 0]) h1;refine⟨_,rfl,fl (r1 _ _ (s6 _ _ G.ob)) T.draw agm ⟨by show 2<=sizeLine;decide,fun u h2 => ?_⟩⟩;have r2:=r1.trans (ak (o:=.tup [.int 0,.int S.w]) h2);refine⟨by show 2<=sizeLine;decide,fun B h3 => ?_⟩;have r3:=r2.trans (ak (o:=.tup [.int 1,.int 0]) h3);refine⟨_,rfl,fl (r3 _ _ (s6 _ _ G.ob)) T.draw ahp ⟨by show 2<=sizeLine;decide,fun C Y=>⟨by show 4<=sizeLine;decide,fun tx b4 => ?_⟩⟩⟩;have r4:=r3.trans (ak (o:=.tup [.int 1,.int S.h]) Y);have r5:=r4.trans (ak (o:=.tup [.ref r,.ref u,.ref B,.ref C]) b4);have k1:PrA (upd (upd (upd (upd H6 r (.tup [.int 0,.int 0])) u (.tup [.int 0,.int S.w])) B (.tup [.int 1,.int 0])) C (.tup [.int 1,.int S.h])) [r,u,B,C] (axL S) :=
    ai8 (a:=0) (a':=0) (b:=0) (c:=1) (c':=0) (d:=1) ((ak Y) _ _ ((ak h3) _ _ ((ak h2) _ _ ag))) ((ak Y) _ _ ((ak h3) _ _ ag)) ((ak Y) _ _ ag) ag
   have k2:=k1.same (ak (o:=.tup [.ref r,.ref u,.ref B,.ref C]) b4);have kt:(upd (upd (upd (upd (upd H6 r (.tup [.int 0,.int 0])) u (.tup [.int 0,.int S.w])) B (.tup [.int 1,.int 0])) C (.tup [.int 1,.int S.h])) tx (.tup [.ref r,.ref u,.ref B,.ref C])) tx=some (.tup ([r,u,B,C].map V.ref)):=ag;generalize (upd (upd (upd (upd (upd H6 r (.tup [.int 0,.int 0])) u (.tup [.int 0,.int S.w])) B (.tup [.int 1,.int 0])) C (.tup [.int 1,.int S.h])) tx (.tup [.ref r,.ref u,.ref B,.ref C]))=H7 at *
   generalize [r,u,B,C]=us at *
   have s7:=s6.trans r5;have br:=r5 _ _ hJ;refine⟨tx,rfl,⟨_,SqT.of kt⟩,uy (K:=K) (a:=tx) (xs:=us.map V.ref) (fun i σ l=>(∃v0 v1 v2 v3 v4 v5 v6 v7,σ=[some (.ref d),v0,v1,some (.ref j),v2,v3,v4,v5,v6,v7])/\aM H7 l/\∀(n:Nat)(e:Nat×Nat),n<i->(axL S)[n]? = some e->nJ S (fO S e.1 e.2)=true)
    ⟨⟨_,_,_,_,_,_,_,_,rfl⟩,aM.refl _,fun n e h=>absurd h (Bt n)⟩ (fun i σ l _ ⟨_,e,_⟩=>SqT.of (e _ _ kt)) ?_ ?_⟩
   ·rintro i x σ l hx ⟨⟨v0,v1,v2,v3,v4,v5,v6,v7,rfl⟩,M,a7⟩
    obtain⟨t,e,rfl,ee,ht⟩:=k2.get hx;refine⟨t,_,rfl,SqT.of (M _ _ ht),rfl,_,_,rfl,_,_,rfl,rfl,?_⟩;have s8:=s7.trans M;have bu:e.1=0\/e.1=1:=by
     have:=AE ee;unfold axL at this;simp only[Am,Dv,or_false] at this;rcases this with rfl|rfl|rfl|rfl
     ·exact .inl rfl
     ·exact .inl rfl
     ·exact .inr rfl
     ·exact .inr rfl
    refine⟨_,rfl,fl (s8 _ _ G.ob) T.draw qR ⟨lp,ps,rfl,SqL.of (s8 _ _ pl.lst),fun c2 b5 => ?_⟩⟩;refine iW (J:=Ite K lp) c2 S.pts.length (fun n Z=>aM l Z/\Z c2=some (.lst ((oC S e.1 e.2 n).map fG)))
     ⟨ak b5,ag⟩ ?_ ?_ ?_
    ·rintro n Z aa ⟨s9,_⟩
     obtain⟨p,ep,_⟩:=pl.at_ n aa;exact⟨ps,_,SqL.of (s9 _ _ (s8 _ _ pl.lst)),ep⟩
    ·rintro n v Z cc aa ⟨s9,ae⟩ ⟨tq,xq,rfl,b6,rfl,bx⟩
     obtain⟨p,ep,qp⟩:=pl.at_ n aa;have ex:=bx _ (SqL.of (s9 _ _ (s8 _ _ pl.lst)));rw[ep] at ex;obtain rfl:V.ref p=xq:=Ah ex;have af:=s9.trans (ak (o:=.tup [.int (n:Nat),.ref p]) b6);refine⟨tq,_,rfl,SqT.of ag,rfl,_,_,rfl,_,_,rfl,rfl,rfl,?_⟩;have a3:=(ak (o:=.tup [.int (n:Nat),.ref p]) b6) _ _ ae;generalize upd Z tq (.tup [.int (n:Nat),.ref p])=ck at *
     refine⟨_,rfl,_,rfl,p,_,_,.int (crd (S.pts.getD n ⟨0,0⟩) e.1:Int),rfl,rfl,SqT.of (af _ _ (s8 _ _ qp)),?_,_,rfl,rfl,_,rfl,?_⟩
     ·rcases bu with z|z
      ·rw[z];exact aQ (j:=0) rfl
      ·rw[z];exact aQ (j:=1) rfl
     ·rw[ajs]
      have eK:oC S e.1 e.2 (n+1)=if crd (S.pts.getD n ⟨0,0⟩) e.1=e.2 then oC S e.1 e.2 n++[n] else oC S e.1 e.2 n:=by
       unfold oC;rw[Ce,ER]
       by_cases z:crd (S.pts.getD n ⟨0,0⟩) e.1=e.2
       ·rw[As z,Bz (by simpa using z)];rfl
       ·rw[Ar z,BF (by simpa using z)];simp
      refine bX (fun z0 => ?_) (fun z0 => ?_)
      ·have z:crd (S.pts.getD n ⟨0,0⟩) e.1=e.2:=AV z0
       refine⟨_,rfl,_,a3,?_,aI af b5,?_⟩
       ·rw[Ab]
        have:(oC S e.1 e.2 n).length<=n:=by
         unfold oC;refine Br (Fo _ _) ?_;rw[AG];exact Ak _
        exact b9 (by omega)
       ·rw[ag,eK,As z,Ay];rfl
      ·have z:¬crd (S.pts.getD n ⟨0,0⟩) e.1=e.2:=fun y=>z0 (AD y)
       exact⟨af,by rw[eK,Ar z];exact a3⟩
    ·rintro Z ⟨s9,ae⟩
     refine⟨⟨ps,SqL.of (s9 _ _ (s8 _ _ pl.lst)),by rw[pl.len];exact Ak _⟩,?_⟩;have a4:Z c2=some (.lst ((fO S e.1 e.2).map fG)):=ae;refine⟨_,rfl,_,rfl,_,rfl,c2,_,rfl,SqL.of a4,fun c3 c0 => ?_⟩;have b8:=ak (o:=.lst (lI ((fO S e.1 e.2).map fG) (some 1) AK)) c0;have g3:(upd Z c3 (.lst (lI ((fO S e.1 e.2).map fG) (some 1) AK))) c3=some (.lst (((fO S e.1 e.2).drop 1).map fG)):=by
      rw[ag,GH];exact B2 (fun z=>some (HO.lst z)) (wH _ 1)
     have g4:=b8 _ _ a4;have ai:=M.trans (s9.trans b8);generalize upd Z c3 (.lst (lI ((fO S e.1 e.2).map fG) (some 1) AK))=c5 at *
     refine⟨c2,c3,_,_,rfl,SqL.of g4,SqL.of g3,afk (K:=K) (a:=c2) (b:=c3) ((fO S e.1 e.2).zip ((fO S e.1 e.2).drop 1)).length (by rw[DC,Ab,Ab])
      (fun n σ l=>(∃w7,σ=[some (.ref d),v0,v1,some (.ref j),some (.int e.1),some (.int e.2),v4,v5,some (.ref c2),w7])/\aM c5 l/\∀(m:Nat)(g:Nat×Nat),m<n->((fO S e.1 e.2).zip ((fO S e.1 e.2).drop 1))[m]? = some g->g∈S.lines)
      ⟨⟨_,rfl⟩,aM.refl _,fun m g h=>absurd h (Bt m)⟩ (fun n σ l _ ⟨_,se,_⟩=>⟨SqL.of (se _ _ g4),SqL.of (se _ _ g3)⟩) ?_ ?_⟩
     ·rintro n xa xb σ l tp c6 c7 ⟨⟨w7,rfl⟩,aj,O⟩ c9
      obtain⟨a,ea,rfl⟩:=nG c6;obtain⟨b,eb,rfl⟩:=nG c7;have ez:((fO S e.1 e.2).zip ((fO S e.1 e.2).drop 1))[n]? = some (a,b):=E6.mpr ⟨ea,eb⟩;have au:=aj.trans (ak (o:=.tup [.int (a:Int),.int (b:Int)]) c9);have bc:=au _ _ (ai _ _ br);have bf:(upd l tp (.tup [.int (a:Int),.int (b:Int)])) tp=some (.tup ((pK (a,b)).map kV)):=ag;generalize upd l tp (.tup [.int (a:Int),.int (b:Int)])=cm at *
      refine⟨_,rfl,_,rfl,j,_,rfl,vZ.t (k:=pK (a,b)) (b:=tp) bc bf,_,rfl,?_⟩;rw[u9,acx]
      by_cases z:(a,b)∈S.lines
      ·rw[As z]
       refine jt ⟨⟨_,rfl⟩,au,fun m g hm X => ?_⟩
       by_cases mn:m=n
       ·subst mn
        rw[ez] at X;obtain rfl:=Ah X;exact z
       ·exact O m g (by omega) X
      ·rw[Ar z]
       refine jO ?_;have gp:yf S=true:=by
        unfold yf;have c1:nJ S (fO S e.1 e.2)=false:=tZ ez (AR z);rw[tZ ee c1,JS,DH]
       have:=q _ (s7.trans (ai.trans au));rw[As gp] at this;exact this
     ·rintro σ l ⟨⟨w7,rfl⟩,aj,O⟩
      refine⟨⟨_,_,_,_,_,_,_,_,rfl⟩,ai.trans aj,fun n g hn X => ?_⟩
      by_cases ni:n=i
      ·subst ni
       rw[ee] at X;obtain rfl:=Ah X;exact qg fun m g X=>AD (O m g (Aj.mp X).1 X)
      ·exact a7 n g (by omega) X
   ·rintro σ l ⟨⟨v0,v1,v2,v3,v4,v5,v6,v7,rfl⟩,M,a7⟩
    have bo:((axL S).all fun c=>nJ S (fO S c.1 c.2))=true:=qg fun i c I=>a7 i c (by
     have:=(Aj.mp I).1;rw[Ab,k2.len];exact this) I
    have gp:¬yf S=true:=by
     unfold yf;rw[ax,bo];exact AS
    have:=q _ (s7.trans M);rw[Ar gp] at this;exact this
end
noncomputable def afw(S:Plan):List (Option Int) := [(aO S.pts.length (dU S)).map adb,(aO S.lines.length (cN S)).map (acf S),if yf S=true then some 20 else none,(aO S.lines.length (mi S)).map (acf S),
 (aO S.pts.length (l9 S)).map adb,(aO S.pts.length (q5 S)).map adb,(aO S.pts.length (rC S)).map adb,(aO S.marks.length (de S)).map (acb S)]
noncomputable def adH:Nat->List (Option Int)->Option (Nat×Int)
 | _,[]=>none
 | k,some p::_=>some (k,p)
 | k,none::r=>adH (k+1) r
noncomputable def oP(S:Plan):Option (Nat×Int):=adH 4 (afw S)
theorem md:∀(i k:Nat)(l:List (Option Int)),(∀j,j<i->l[j]? = some none)->adH k l=adH (k+i) (l.drop i)
 | 0,k,l,_=>by simp
 | i+1,k,[],h=>by have:=h 0 (GZ _);simp at this
 | i+1,k,a::l,h=>by
  have e:a=none:=by have:=h 0 (GZ _);simpa using this
  subst e;rw[FW];show adH (k+1) l=_;rw[md i (k+1) l fun j b=>by have:=h (j+1) (by omega);simpa using this]
  congr 1
  omega
theorem aeC{i k:Nat}{l:List (Option Int)}{p:Int}(h:∀j,j<i->l[j]? = some none)(a:l[i]? = some (some p)):adH k l=some (k+i,p):=by
 rw[md i k l h,List.drop_eq_getElem?_toList_append,a];rfl
theorem aa4{k:Nat}{l:List (Option Int)}(h:∀j,j<l.length->l[j]? = some none):adH k l=none:=by
 rw[md l.length k l h,CI];rfl
noncomputable def jdV:Option (Nat×Int)->List V
 | none=>[]
 | some x=>[.int (x.1:Int),.int x.2]
structure Txt2(K:Lf)(mg:Lg)(ad:Adr):Prop where
 aa8:mg "FINDERS" = some (.ref ad.finders)
 finders:∃a0 a1 a2 a3 a4 a5 a6 a7:Ag,oR K ad.finders [.ref a0,.ref a1,.ref a2,.ref a3,.ref a4,.ref a5,.ref a6,.ref a7]/\mg "stray_point" = some (.ref a0)/\mg "stray_line" = some (.ref a1)/\mg "gap_in_frame" = some (.ref a2)/\mg "tangled_line" = some (.ref a3) /\
  mg "loose_point" = some (.ref a4)/\mg "lone_point" = some (.ref a5)/\mg "only_link" = some (.ref a6)/\mg "stray_mark" = some (.ref a7)
structure Fit(S:Plan):Prop where
 sm:SmP S.pts
 p2:2<=S.pts.length
 pn:S.pts.length<65536
 ln:S.lines.length<65536
theorem cA{n:Nat}{p:Nat->Bool}(h:aO n p=none):∀i,i<n->p i=false:=by
 intro i a;unfold aO at h;rw[Cc] at h;have:=h i (A6.mpr a)
 simpa using this
theorem zO{S:Plan}(h:aO S.lines.length (cN S)=none):sW S:=by
 intro l d;obtain⟨i,c,e⟩:=AQ.mp d;have:=cA h i c;unfold cN at this;rw[BO,BO] at this;have f:S.lines.getD i (0,0)=l:=by rw[Az,Aa c,e];rfl
 rw[f] at this;have a:=IG this.1.1;have b:=IG this.1.2;omega
section
variable{P:AI}{w:AZ}{K:Lf}{mg:Lg}{base:B1}{ad:Adr}
theorem Fn.toV{k j:Nat}{x:AW}{ps:List AW}{sp:Sp}{f:Ag}(F:Fn P w K mg base j x ps sp)(h:mg x=some (.ref f))(e:j<=k):FnV P w K mg base k f sp:=by
 obtain⟨g,i,a,b,c,d⟩:=F.ex;rw[h] at a;injection a with a
 injection a with a
 subst a;exact⟨i,ps,b,c,d.mono e⟩
inductive ad5(ad:Adr)(vs:List V)(H:Hp)(Q:VK)(E:XK):Prop
 | mk (d dx lp ll lm:Ag)(S:Plan)(c0:vs=[.ref d])(c1:bW ad H d S dx lp ll lm)(c2:Fit S)(c3:∀H' l,aM H H'->H l=none->H' l=some (.lst (jdV (oP S)))->Q (.ref l) H')
noncomputable abbrev afM:Stmt:=(top 46)
theorem aah{a:Ag}{xs:List V}{g:TG}{tb:TS}{D:Ends}{σ:L2.St}{H:Hp}(b:Nat->L2.St->Hp->Prop)(o:b 0 σ H)(e:∀i σ H,i<=xs.length->b i σ H->SqT K H a xs)(q:∀i x σ H T,xs[i]? = some x->b i σ H->H T=AK->g (.ref T) σ (upd H T (.tup [.int ((i+4:Nat):Int),x])) fun f j=>tb { D with nx:=b (i+1),ct:=b (i+1),bk:=D.nx } f j)(r:∀σ H,b xs.length σ H->D.nx σ H):
  ∃W:Nat->Nat->L2.St->Hp->Prop,(∃m,W 0 m σ H)/\∀i m σ H,W i m σ H ->
   ((ItS K a).stop i H/\D.nx σ H)\/((ItS K a).go i H/\∃N:L2.St->Hp->Prop,(∀l c,N l c->∃n,n<m/\W (i+1) n l c)/\∀x c,(ItS K a).yld i H x c->g x σ c fun f j=>tb { D with nx:=N,ct:=N,bk:=D.nx } f j):=by
 refine vX (J:=ItS K a) xs.length b o (fun i σ H d p => ?_) (fun i v σ H c d p y => ?_) (fun σ H p=>⟨⟨xs,e _ σ H (Ak _) p,Ak _⟩,r σ H p⟩)
 ·exact⟨xs,xs[i],e i σ H (BQ d) p,Aa d⟩
 ·obtain⟨T,x,rfl,s,rfl,u⟩:=y
  exact q i x σ H T (u xs (e i σ H (BQ d) p)) p s
theorem afG(D:Def K mg "judge_drawing" afM ["drawing"])(T:Txt K mg ad)(T2:Txt2 K mg ad)(fY:Fn P w K mg base 2 "stray_point" ["drawing"] (qw ad))(gS:Fn P w K mg base 3 "stray_line" ["drawing"] (qC ad))(fe:Fn P w K mg base 1 "gap_in_frame" ["drawing"] (afc ad))(ff:Fn P w K mg base 5 "tangled_line" ["drawing"] (yw ad))(fZ:Fn P w K mg base 2 "loose_point" ["drawing"] (uk ad))(gT:Fn P w K mg base 2 "lone_point" ["drawing"] (aaA ad))(jh:Fn P w K mg base 2 "only_link" ["drawing"] (aaq ad))(gU:Fn P w K mg base 4 "stray_mark" ["drawing"] (pF ad)):Fn P w K mg base 9 "judge_drawing" ["drawing"] (ad5 ad):=by
 refine D.fx ["drawing","rule","finder","place"] ?_;rintro Y f ae A Z s H vs Q E hr ⟨d,dx,C,G,I,S,rfl,hd,b,q⟩;obtain⟨a0,a1,a2,a3,a4,a5,a6,a7,hF,m0,m1,m2,m3,m4,m5,m6,m7⟩:=T2.finders;have R:∀(i:Nat)(x:V),([.ref a0,.ref a1,.ref a2,.ref a3,.ref a4,.ref a5,.ref a6,.ref a7]:List V)[i]? = some x->(∀j,j<i->(afw S)[j]? = some none) ->
   ∃(f:Ag)(sp:Sp)(r:Option Int),x=.ref f/\FnV P w K mg base 8 f sp/\(afw S)[i]? = some r/\∀(H1:Hp)(B:VK),bW ad H1 d S dx C G I->(∀J,aM H1 J->B (plV r) J)->sp [.ref d] H1 B E0:=by
  intro i x c M;have g:1<i->sW S:=fun h=>zO (by
   have:=M 1 h;have e:(aO S.lines.length (cN S)).map (acf S)=none:=Ah this;exact Di.mp e)
  match i,c,g with
  | 0,c,g=>exact⟨a0,_,_,(Ah c).symm,fY.toV m0 (by decide),rfl,fun H1 B m y=>⟨d,dx,C,G,I,S,rfl,m,y⟩⟩
  | 1,c,g=>exact⟨a1,_,_,(Ah c).symm,gS.toV m1 (by decide),rfl,fun H1 B m y=>⟨d,dx,C,G,I,S,rfl,m,y⟩⟩
  | 2,c,g=>exact⟨a2,_,_,(Ah c).symm,fe.toV m2 (by decide),rfl,fun H1 B m y=>⟨d,dx,C,G,I,S,rfl,m,b.ln,b.pn,y⟩⟩
  | 3,c,g=>exact⟨a3,_,_,(Ah c).symm,ff.toV m3 (by decide),rfl,fun H1 B m y=>⟨d,dx,C,G,I,S,rfl,m,b.sm,b.pn,g (by decide),y⟩⟩
  | 4,c,g=>exact⟨a4,_,_,(Ah c).symm,fZ.toV m4 (by decide),rfl,fun H1 B m y=>⟨d,dx,C,G,I,S,rfl,m,g (by decide),b.pn,b.ln,y⟩⟩
  | 5,c,g=>exact⟨a5,_,_,(Ah c).symm,gT.toV m5 (by decide),rfl,fun H1 B m y=>⟨d,dx,C,G,I,S,rfl,m,g (by decide),b.p2,b.pn,b.ln,y⟩⟩
  | 6,c,g=>exact⟨a6,_,_,(Ah c).symm,jh.toV m6 (by decide),rfl,fun H1 B m y=>⟨d,dx,C,G,I,S,rfl,m,g (by decide),b.p2,b.pn,b.ln,y⟩⟩
  | 7,c,g=>exact⟨a7,_,_,(Ah c).symm,gU.toV m7 (by decide),rfl,fun H1 B m y=>⟨d,dx,C,G,I,S,rfl,m,b.sm,g (by decide),y⟩⟩
  | n+8,c,g=>exact absurd (Aj.mp c).1 (by simp)
 refine⟨_,(az (a8 AJ rfl (abI (by rfl) T.aZ (kxR T2.aa8)) (dQ rfl (aL (kxo 1 Y) (aL (kxo 2 Y) cj))) (kxs 3 Y (abW (k:=8) (pv 2) (hr.mono (by decide)) (ab (pv 0) ah)) (aE (cg (gg (mC (pv 3))) (kxr (aP (ab (pv 1) (ab (pv 3) ah)))) aR)))) (kxr (aP ah))),?_⟩;refine⟨ad.finders,_,rfl,hF H,aah (K:=K) (a:=ad.finders) (xs := [.ref a0,.ref a1,.ref a2,.ref a3,.ref a4,.ref a5,.ref a6,.ref a7]) (fun i σ J=>(∃u v z,σ=[some (.ref d),u,v,z])/\aM H J/\∀j,j<i->(afw S)[j]? = some none)
  ⟨⟨none,none,none,rfl⟩,aM.refl H,fun j hj=>absurd hj (Bt j)⟩ (fun i σ J _ _=>hF J) ?_ ?_⟩
 ·rintro i x σ J t c ⟨⟨u,v,z,rfl⟩,X,M⟩ ht
  obtain⟨f1,sp,r,rfl,fv,er,aa⟩:=R i x c M;refine⟨t,_,rfl,SqT.of ag,rfl,_,_,rfl,_,_,rfl,rfl,?_⟩;have s1:=X.trans (ak (o:=.tup [.int ((i+4:Nat):Int),.ref f1]) ht);generalize upd J t (.tup [.int ((i+4:Nat):Int),.ref f1])=H1 at *
  refine⟨_,rfl,f1,sp,rfl,fv,_,rfl,aa H1 _ (hd.same s1) fun H2 s2 => ?_⟩;have O:=s1.trans s2;cases r with
  | none =>
   refine⟨_,rfl,_,rfl,jt ⟨⟨_,_,_,rfl⟩,O,fun j hj => ?_⟩⟩
   by_cases ji:j=i
   ·subst ji;exact er
   ·exact M j (by omega)
  | some p =>
   refine⟨_,rfl,_,rfl,jO ⟨_,rfl,_,rfl,by show 2<=sizeLine;decide,fun l W => ?_⟩⟩;refine q _ l (O.trans (ak W)) (O.free W) ?_;rw[ag];unfold oP;rw[aeC M er];have e4:4+i=i+4:=by omega
   rw[e4];rfl
 ·rintro σ J ⟨⟨u,v,z,rfl⟩,X,M⟩
  refine⟨AN _,fun l W=>q _ l (X.trans (ak W)) (X.free W) ?_⟩;rw[ag];unfold oP;rw[aa4 M];rfl
noncomputable def oT:List V->List (AW×V)
 | [v1,v2]=>[("glass",v1),("corners",v2)]
 | _=>[]
noncomputable abbrev uv:Stmt:=(inClass (top 48) 0)
theorem yW:bD ["self","glass","corners"] ["self","glass","corners"] (aG uv):=fsc
theorem aew(D:lK K mg "Pane" "Pane.__init__" ad.pane uv ["self","glass","corners"] ["glass","corners"]):Kl P w K mg base 1 "Pane" ad.pane 2 oT:=by
 have e:=yW.nd;refine D.kl (n:=2) yW rfl (fun f b A a s H p dx us Q E g c d k => ?_);obtain⟨i,j,rfl⟩:=us2 c;refine⟨_,(az (bb (pv 0) (pv 1) rfl) (aE (bb (pv 0) (pv 2) rfl))),?_⟩;refine⟨_,rfl,_,rfl,p,_,dx,_,rfl,d,D.cl,D.no _ (by decide +kernel),AL rfl,?_⟩
 iterate 1 (refine⟨_,rfl,_,rfl,p,_,dx,_,rfl,ag,D.cl,D.no _ (by decide +kernel),AL rfl,?_⟩;rw[bQ])
 exact k
noncomputable def gH:List V->List (AW×V)
 | [v1,v2]=>[("broken",v1),("panes",v2)]
 | _=>[]
noncomputable abbrev kg:Stmt:=(inClass (top 49) 0)
theorem oI:bD ["self","broken","panes"] ["self","broken","panes"] (aG kg):=fsc
theorem xG(D:lK K mg "Cartoon" "Cartoon.__init__" ad.cartoon kg ["self","broken","panes"] ["broken","panes"]):Kl P w K mg base 1 "Cartoon" ad.cartoon 2 gH:=by
 have e:=oI.nd;refine D.kl (n:=2) oI rfl (fun f b A a s H p dx us Q E g c d k => ?_);obtain⟨i,j,rfl⟩:=us2 c;refine⟨_,(az (bb (pv 0) (pv 1) rfl) (aE (bb (pv 0) (pv 2) rfl))),?_⟩;refine⟨_,rfl,_,rfl,p,_,dx,_,rfl,d,D.cl,D.no _ (by decide +kernel),AL rfl,?_⟩
 iterate 1 (refine⟨_,rfl,_,rfl,p,_,dx,_,rfl,ag,D.cl,D.no _ (by decide +kernel),AL rfl,?_⟩;rw[bQ])
 exact k
noncomputable def ux:List V->List (AW×V)
 | [v1,v2,v3]=>[("glass",v1),("width",v2),("height",v3)]
 | _=>[]
noncomputable abbrev qG:Stmt:=(inClass (top 61) 0)
theorem vB:bD ["self","glass","width","height"] ["self","glass","width","height"] (aG qG):=fsc
theorem abw(D:lK K mg "Blank" "Blank.__init__" ad.blank qG ["self","glass","width","height"] ["glass","width","height"]):Kl P w K mg base 1 "Blank" ad.blank 3 ux:=by
 have e:=vB.nd;refine D.kl (n:=3) vB rfl (fun f b A a s H p dx us Q E g c d k => ?_);obtain⟨i,j,l,rfl⟩:=us3 c;refine⟨_,(az (bb (pv 0) (pv 1) rfl) (az (bb (pv 0) (pv 2) rfl) (aE (bb (pv 0) (pv 3) rfl)))),?_⟩;refine⟨_,rfl,_,rfl,p,_,dx,_,rfl,d,D.cl,D.no _ (by decide +kernel),AL rfl,?_⟩
 iterate 2 (refine⟨_,rfl,_,rfl,p,_,dx,_,rfl,ag,D.cl,D.no _ (by decide +kernel),AL rfl,?_⟩;rw[bQ])
 exact k
noncomputable def zZ:List V->List (AW×V)
 | [v1,v2,v3,v4]=>[("glass",v1),("width",v2),("height",v3),("turns",v4)]
 | _=>[]
noncomputable abbrev qu:Stmt:=(inClass (top 62) 0)
theorem vz:bD ["self","glass","width","height","turns"] ["self","glass","width","height","turns"] (aG qu):=fsc
theorem acB(D:lK K mg "Sheet" "Sheet.__init__" ad.sheet qu ["self","glass","width","height","turns"] ["glass","width","height","turns"]):Kl P w K mg base 1 "Sheet" ad.sheet 4 zZ:=by
 have e:=vz.nd;refine D.kl (n:=4) vz rfl (fun f b A a s H p dx us Q E g c d k => ?_);obtain⟨i,j,l,m,rfl⟩:=us4 c;refine⟨_,(az (bb (pv 0) (pv 1) rfl) (az (bb (pv 0) (pv 2) rfl) (az (bb (pv 0) (pv 3) rfl) (aE (bb (pv 0) (pv 4) rfl))))),?_⟩;refine⟨_,rfl,_,rfl,p,_,dx,_,rfl,d,D.cl,D.no _ (by decide +kernel),AL rfl,?_⟩
 iterate 3 (refine⟨_,rfl,_,rfl,p,_,dx,_,rfl,ag,D.cl,D.no _ (by decide +kernel),AL rfl,?_⟩;rw[bQ])
 exact k
noncomputable def kD:List V->List (AW×V)
 | [v1,v2,v3]=>[("refusal",v1),("blanks",v2),("sheets",v3)]
 | _=>[]
noncomputable abbrev p6:Stmt:=(inClass (top 87) 0)
theorem vj:bD ["self","refusal","blanks","sheets"] ["self","refusal","blanks","sheets"] (aG p6):=fsc
theorem abK(D:lK K mg "Order" "Order.__init__" ad.order p6 ["self","refusal","blanks","sheets"] ["refusal","blanks","sheets"]):Kl P w K mg base 1 "Order" ad.order 3 kD:=by
 have e:=vj.nd;refine D.kl (n:=3) vj rfl (fun f b A a s H p dx us Q E g c d k => ?_);obtain⟨i,j,l,rfl⟩:=us3 c;refine⟨_,(az (bb (pv 0) (pv 1) rfl) (az (bb (pv 0) (pv 2) rfl) (aE (bb (pv 0) (pv 3) rfl)))),?_⟩;refine⟨_,rfl,_,rfl,p,_,dx,_,rfl,d,D.cl,D.no _ (by decide +kernel),AL rfl,?_⟩
 iterate 2 (refine⟨_,rfl,_,rfl,p,_,dx,_,rfl,ag,D.cl,D.no _ (by decide +kernel),AL rfl,?_⟩;rw[bQ])
 exact k
end
open Geo.Rules (bI)
structure oY(ad:Adr)(H:Hp)(p:Ag)(pts:List Pt)(x:Nat×List Nat):Prop where
 ex:∃(dx lc:Ag)(cs:List Ag),H p=some (.ins ad.pane dx [("glass",.int (x.1:Int)),("corners",.ref lc)])/\H lc=some (.lst (cs.map V.ref))/\cs.length=x.2.length/\∀(j:Nat)(c:Ag)(k:Nat),cs[j]? = some c->x.2[j]? = some k->H c=some (ptO pts k)
theorem oY.same{e:Adr}{H f:Hp}{p:Ag}{pts:List Pt}{x:Nat×List Nat}(h:oY e H p pts x)(s:aM H f):oY e f p pts x:=by
 obtain⟨dx,g,i,a,b,c,d⟩:=h.ex;exact⟨dx,g,i,s _ _ a,s _ _ b,c,fun j q k e1 l=>s _ _ (d j q k e1 l)⟩
structure PnL(ad:Adr)(H:Hp)(l:Ag)(pts:List Pt)(xs:List (Nat×List Nat))(ps:List Ag):Prop where
 lst:H l=some (.lst (ps.map V.ref))
 len:ps.length=xs.length
 at_:∀(j:Nat)(p:Ag)(x:Nat×List Nat),ps[j]? = some p->xs[j]? = some x->oY ad H p pts x
theorem PnL.same{a:Adr}{H b:Hp}{l:Ag}{pts:List Pt}{xs:List (Nat×List Nat)}{ps:List Ag}(h:PnL a H l pts xs ps)(s:aM H b):PnL a b l pts xs ps:=⟨s _ _ h.lst,h.len,fun j p x e1 c=>(h.at_ j p x e1 c).same s⟩
structure zt(ad:Adr)(H:Hp)(c:Ag)(pts:List Pt)(b:Option (Nat×Int))(xs:List (Nat×List Nat)):Prop where
 ex:∃(dx lb lp:Ag)(ps:List Ag),H c=some (.ins ad.cartoon dx [("broken",.ref lb),("panes",.ref lp)])/\H lb=some (.lst (jdV b))/\PnL ad H lp pts xs ps
structure iH(ad:Adr)(H:Hp)(p:Ag)(pts:List Pt)(x:Nat×List Nat)(l:Ag):Prop where
 ex:∃(dx lc:Ag)(cs:List Ag),H p=some (.ins ad.pane dx [("glass",.int (x.1:Int)),("corners",.ref lc)])/\H lc=some (.lst (cs.map V.ref))/\lc≠l/\cs.length=x.2.length/\∀(j:Nat)(c:Ag)(k:Nat),cs[j]? = some c->x.2[j]? = some k->H c=some (ptO pts k)
theorem iH.to{e:Adr}{H:Hp}{p l:Ag}{pts:List Pt}{x:Nat×List Nat}(h:iH e H p pts x l):oY e H p pts x:=by
 obtain⟨dx,f,g,a,b,_,c,d⟩:=h.ex;exact⟨dx,f,g,a,b,c,d⟩
theorem iH.keep{f:Adr}{H e:Hp}{p l:Ag}{pts:List Pt}{x:Nat×List Nat}(h:iH f H p pts x l)(k1:∀b C dx g,H b=some (.ins C dx g)->e b=some (.ins C dx g))(i:∀b xs,b≠l->H b=some (.lst xs)->e b=some (.lst xs))(m:∀b xs,H b=some (.tup xs)->e b=some (.tup xs)):iH f e p pts x l:=by
 obtain⟨dx,o,r,a,b,n,c,d⟩:=h.ex;exact⟨dx,o,r,k1 _ _ _ _ a,i _ _ n b,n,c,fun j q k e1 s=>m _ _ (d j q k e1 s)⟩
structure PnV(ad:Adr)(H:Hp)(l:Ag)(pts:List Pt)(xs:List (Nat×List Nat))(ps:List Ag):Prop where
 lst:H l=some (.lst (ps.map V.ref))
 len:ps.length=xs.length
 at_:∀(j:Nat)(p:Ag)(x:Nat×List Nat),ps[j]? = some p->xs[j]? = some x->iH ad H p pts x l
theorem PnV.to{a:Adr}{H:Hp}{l:Ag}{pts:List Pt}{xs:List (Nat×List Nat)}{ps:List Ag}(h:PnV a H l pts xs ps):PnL a H l pts xs ps:=⟨h.lst,h.len,fun j p x e1 b=>(h.at_ j p x e1 b).to⟩
theorem PnV.same{a:Adr}{H b:Hp}{l:Ag}{pts:List Pt}{xs:List (Nat×List Nat)}{ps:List Ag}(h:PnV a H l pts xs ps)(s:aM H b):PnV a b l pts xs ps :=
 ⟨s _ _ h.lst,h.len,fun j p x e1 c=>(h.at_ j p x e1 c).keep (fun _ _ _ _ e=>s _ _ e) (fun _ _ _ e=>s _ _ e) (fun _ _ e=>s _ _ e)⟩
theorem PnV.dk{c:Adr}{H:Hp}{l d:Ag}{pts:List Pt}{xs:List (Nat×List Nat)}{ps:List Ag}{f k1:List (Key×V)}(h:PnV c H l pts xs ps)(a:H d=some (.dK f)):PnV c (upd H d (.dK k1)) l pts xs ps:=by
 refine⟨by rw[aw (d5 h.lst a)];exact h.lst,h.len,fun j p x e1 g=>(h.at_ j p x e1 g).keep (fun b C dx i e => ?_) (fun b ys _ e => ?_) (fun b ys e => ?_)⟩
 ·rw[aw (d5 e a)];exact e
 ·rw[aw (d5 e a)];exact e
 ·rw[aw (d5 e a)];exact e
theorem PnV.snoc{a:Adr}{H:Hp}{l q:Ag}{pts:List Pt}{xs:List (Nat×List Nat)}{ps:List Ag}{x:Nat×List Nat}(h:PnV a H l pts xs ps)(g:iH a H q pts x l):PnV a (upd H l (.lst (ps.map V.ref++[.ref q]))) l pts (xs++[x]) (ps++[q]):=by
 have f:∀{p:Ag}{y:Nat×List Nat},iH a H p pts y l->iH a (upd H l (.lst (ps.map V.ref++[.ref q]))) p pts y l:=fun i=>i.keep (fun b C dx m e=>by rw[aw (d5 e h.lst)];exact e) (fun b ys n e=>by rw[aw n];exact e) (fun b ys e=>by rw[aw (d5 e h.lst)];exact e);refine⟨by rw[ag,Ay];rfl,by rw[Al,Al,h.len];rfl,fun j p y e1 d => ?_⟩
 by_cases hj:j<ps.length
 ·rw[A1 hj] at e1
  rw[A1 (by rw[<- h.len];exact hj)] at d;exact f (h.at_ j p y e1 d)
 ·have c:j=ps.length:=by
   have:=(Aj.mp e1).1;rw[Al] at this;simp at this;omega
  rw[c,Aw (Ak _),BE] at e1;rw[c,h.len,Aw (Ak _),BE] at d;obtain rfl:q=p:=Ah e1;obtain rfl:x=y:=Ah d;exact f g
theorem tR{S:Plan}(R:Geo.Rules S)(j:S.lines.length<65536){o:List Nat}(d:o∈bI S):(∀k∈o,k<S.pts.length)/\o.length<1000000:=by
 obtain⟨r,f,rfl,_⟩:=R.fL.mp d;have ws:=f.1;obtain⟨m,m0,l,a,b,g⟩:=R.b7 ws;refine⟨fun k c => ?_,?_⟩
 ·rw[b] at c
  obtain⟨n,_,rfl⟩:=Ax.mp c;exact(R.bC (R.ok.bP ws n)).1
 ·have e1:(Geo.Rules.orb S r).length=(Geo.Rules.ows S r).length:=by rw[b,g,Ab,Ab]
  have i:(Geo.Rules.ows S r).length<=(CZ S).length:=Ci (nH R ws) fun e he=>R.mB ws he;rw[R.fH] at i;omega
theorem aar{S:Plan}(R:Geo.Rules S)(b:S.lines.length<65536):(bI S).length<1000000:=by
 have:(bI S).length<=2*S.lines.length:=vh R (Pfx:=Geo.Rules.dw S) (fun s a=>R.cU.mp a) R.dI;omega
theorem aan{n i:Nat}{p:Nat->Bool}(h:aO n p=some i):i<n/\p i=true:=by
 unfold aO at h;exact⟨A6.mp (Gz h),by simpa using FP h⟩
noncomputable def aiC:V->Ag
 | .ref a=>a
 | _=>0
noncomputable def oi(S:Plan)(k:Nat):Option Nat:=rH S.pts (bI S) ((S.marks.getD k m0).at_.x:Int) ((S.marks.getD k m0).at_.y:Int)
noncomputable def adw(S:Plan)(k:Nat):Bool:=(An k).any fun j=>decide (oi S j=oi S k)
noncomputable def mw(S:Plan):Option (Nat×Int):=match aO S.marks.length (adw S) with
 | some k=>some (12,acb S k)
 | none=>if S.marks.length<(bI S).length then some (13,20+8*(S.pts.length:Int)+4*(S.lines.length:Int)+12*(S.marks.length:Int)) else none
noncomputable def gu(S:Plan)(k:Nat):Nat×List Nat:=((S.marks.getD k m0).glass,(bI S).getD ((oi S k).getD 0) [])
noncomputable def mm(S:Plan):List (Nat×List Nat):=if mw S=none then (An S.marks.length).map (gu S) else []
section
variable{P:AI}{w:AZ}{K:Lf}{mg:Lg}{base:B1}{ad:Adr}
inductive zg(ad:Adr)(vs:List V)(H:Hp)(Q:VK)(E:XK):Prop
 | mk (d dx lp ll lm:Ag)(S:Plan)(c0:vs=[.ref d])(c1:bW ad H d S dx lp ll lm)(c2:Fit S)(c3:sW S)(c4:Geo.Rules S)(c5:S.marks.length<65536)(c6:(∀k,k<S.marks.length->∃j,oi S k=some j))(c7:∀H' c,aM H H'->zt ad H' c S.pts (mw S) (mm S)->Q (.ref c) H')
noncomputable abbrev adC:Stmt:=(top 51)
theorem jG{H:Hp}{Q:VK}{a d:Ag}{ps:List Ag}{pts:List Pt}{b:Option (Nat×Int)}{xs:List (Nat×List Nat)}(i:H a=some (.lst (jdV b)))(j:PnL ad H d pts xs ps)(q:∀e c,aM H e->zt ad e c pts b xs->Q (.ref c) e):
  ∀x dx,H x=AK->H dx=AK->dx≠x->Q (.ref x) (upd (upd H dx (.own x)) x (.ins ad.cartoon dx (gH [.ref a,.ref d]))):=by
 intro x dx l f m;have g:aM H (upd (upd H dx (.own x)) x (.ins ad.cartoon dx (gH [.ref a,.ref d]))):=(ak f).trans (ak (by rw[aw (Ne.symm m)];exact l));exact q _ x g ⟨dx,a,d,ps,ag,g _ _ i,j.same g⟩
theorem qH{H:Hp}{l:Ag}{pts:List Pt}(h:H l=some (.lst [])):PnL ad H l pts [] []:=⟨h,rfl,fun j p x e=>by simp at e⟩
theorem ad0(D:Def K mg "give_marks_their_panes" adC ["drawing"])(T:Txt K mg ad)(d6:Fn P w K mg base 5 "find_outlines" ["points","near"] zh)(aU:Fn P w K mg base 1 "neighbours" ["drawing"] (xw ad))(kQ:Fn P w K mg base 1 "sides" ["points","outline"] qL)(nU:Fn P w K mg base 4 "pane_of" ["mark","outlines_sides"] yu)(bp:Me P w K mg base 3 ad.drawing "mark_place" ["self","k"] (afy ad))(gV:Me P w K mg base 4 ad.drawing "byte_count" ["self"] (aiD ad))(cJ:Kl P w K mg base 1 "Cartoon" ad.cartoon 2 gH)(cm:Kl P w K mg base 1 "Pane" ad.pane 2 oT):Fn P w K mg base 6 "give_marks_their_panes" ["drawing"] (zg ad):=by
 refine D.fx ["drawing","outlines","outline","outlines_sides","marked","panes","k","mark","found","corner"] ?_;rintro nd f d8 A cn s H vs Q E M ⟨d,dx,lp,ll,lm,S,rfl,X,r,lk,R,d9,bc,q⟩;have hu:=rZ M;have d7:=M.units;obtain⟨ps,pl⟩:=X.pts.pts;obtain⟨ms,ml⟩:=X.mks.mks;refine⟨_,(kxs 1 nd (kxF d6 M (ab (aA (pv 0) rfl) (ab (kxF aU M (ab (pv 0) ah)) ah))) (az (da (i:=3) rfl nd rfl rfl rfl (aY (pv 1)) (d4 (own := [("outline",2)]) rfl) (fun _ _ _ _ _=>(kxo 2 nd)) (fun _ _ _ _ _=>cP) (fun _ _ _ _ _=>(kxF kQ M (ab (pG (K:=K) rfl (pv 0) rfl) (ab (pv 2) ah))))) (kxs 4 nd acm (kxs 5 nd (aP ah) (az (a8 AJ rfl (eY (by rfl) T.aZ (ab (aA (pv 0) rfl) ah)) (dQ rfl (aL (kxo 6 nd) (aL (kxo 7 nd) cj))) (kxs 8 nd (kxF nU M (ab (pv 7) (ab (pv 3) ah))) (kxf (gg (ag3 hu (pv 8) (pv 4))) (kxK cJ M (ab (aP (ab aq (ab (gF (pv 0) bp (M.mono (by decide)) (ab (pv 6) ah)) ah))) (ab (aP ah) ah))) (az (uA hu (pv 4) (pv 8) iF rfl) (aE (cS (kxA (pv 5) (kxK cm M (ab (kxT (pv 7) aq) (ab (x9 rfl nd (aY (kxI (pv 1) (pv 8))) (d4 (own := [("corner",9)]) rfl) (fun _ _ _ _ _=>(kxo 9 nd)) (fun _ _ _ _ _=>cP) (fun _ _ _ _ _=>(uH (wx (K:=K) rfl) (pG (K:=K) rfl (pv 0) rfl) (pv 9) (fun _ _=>rfl)))) ah)))))))))) (kxf (kxl (dJ rT (by rfl) T.cy HI (ab (pv 4) ah)) (kxL T.cy (pv 1))) (kxK cJ M (ab (aP (ab aq (ab (agy (pv 0) gV (M.mono (by decide))) ah))) (ab (aP ah) ah))) (kxr (kxK cJ M (ab (aP ah) (ab (pv 5) ah)))))))))),?_⟩;refine⟨_,rfl,fl X.ob T.draw qR ⟨_,rfl,?_⟩⟩;refine⟨d,dx,lp,ll,lm,S,rfl,X,lk,r.pn,r.ln,fun H1 a as s1 na => ?_⟩;refine⟨lp,a,as,S,ps,rfl,pl.same s1,r.sm,na,R,r.ln,fun H2 L ls cp m => ?_⟩;have s2:=s1.trans cp;refine⟨_,rfl,L,rfl,⟨_,SqL.of m.lst⟩,fun c hc => ?_⟩;refine iW (J:=Itl K L) c (bI S).length (fun i C=>aM H2 C/\∃ss,OL C c S.pts ((bI S).take i) ss/\∀l∈ss,l≠c)
  ⟨ak hc,[],⟨ag,by simp,fun j l o e=>by simp at e⟩,fun l hl=>nomatch hl⟩ ?_ ?_ ?_
 ·rintro i C hi ⟨sH,_⟩
  refine⟨_,.ref (ls[i]'(by rw[m.len];exact hi)),SqL.of (sH _ _ m.lst),?_⟩;rw[Av,Aa];rfl
 ·rintro i x C H3 hi ⟨sH,ss,ol,bf⟩ ⟨rfl,hx⟩
  have bl:i<ls.length:=by rw[m.len];exact hi
  have ex:=hx _ (SqL.of (sH _ _ m.lst));rw[Av,Aa bl] at ex;obtain rfl:V.ref ls[i]=x:=Ah ex;have hl:=m.at_ i _ _ (Aa bl) (Aa hi);obtain⟨Y,bo⟩:=tR R r.ln (AX hi);have br:=s2.trans sH;refine⟨rfl,ke ⟨_,rfl,fl (br _ _ X.ob) T.draw qR ⟨_,rfl,lp,ls[i],S.pts,ps,(bI S)[i],rfl,pl.same br,sH _ _ hl,Y,bo,fun H4 sl ts s4 bu sd => ?_⟩⟩⟩;have ax:=ol.same s4;have b1:ss.length=i:=by rw[ol.len,AO];omega
  refine⟨_,ax.lst,by rw[Ab,b1];exact b9 (by have:=aar R r.ln;omega),aI (sH.trans s4) hc,ss++[sl],?_⟩;have bx:sl≠c:=fun z=>by rw[z,ol.lst] at bu;cases bu
  have nt:∀{z:Ag}{ys:List V},H4 z=some (.tup ys)->z≠c:=fun e=>tS e ax.lst (fun y=>nomatch y);have ku:∀{l:Ag}{o:List Nat}{tt:List Ag},l≠c->SD H4 l S.pts o tt->SD (upd H4 c (.lst (ss.map V.ref++[.ref sl]))) l S.pts o tt:=fun nl sd=>⟨by rw[aw nl];exact sd.lst,sd.len,fun j t e e1 I=>by
   obtain⟨p,q,a1,a2,a3⟩:=sd.at_ j t e e1 I;exact⟨p,q,by rw[aw (nt a1)];exact a1,by rw[aw (nt a2)];exact a2,by rw[aw (nt a3)];exact a3⟩⟩
  refine⟨⟨by rw[ag,Ay];rfl,by rw[Al,b1,AO];simp;omega,fun j l o e1 I => ?_⟩,fun l hl => ?_⟩
  ·by_cases hj:j<ss.length
   ·rw[A1 hj] at e1
    rw[BC (by omega)] at I;obtain⟨tt,cq⟩:=ax.at_ j l o e1 (by rw[BC (by omega)];exact I);exact⟨tt,ku (bf l (AE e1)) cq⟩
   ·have c0:j=ss.length:=by
     have:=(Aj.mp e1).1;rw[Al] at this;simp at this;omega
    rw[c0,Aw (Ak _),BE] at e1;obtain rfl:sl=l:=Ah e1;rw[c0,b1,BC (by omega),Aa hi] at I;obtain rfl:=Ah I;exact⟨ts,ku bx sd⟩
  ·rcases A4.mp hl with z|z
   ·exact bf l z
   ·obtain rfl:l=sl:=by simpa using z
    exact bx
 ·rintro H3 ⟨sH,ss,ol,_⟩
  rw[BG] at ol;have s3:=s2.trans sH;refine⟨⟨_,SqL.of (sH _ _ m.lst),by rw[Ab,m.len];exact Ak _⟩,?_⟩;intro v b2;refine⟨AN _,fun O b3 => ?_⟩;have pd:O≠v:=Ne.symm (aB (H:=upd H3 v (.dK [])) ag b3);have c1:H3 O=Option.none:=(ak (o:=.dK []) b2).free b3;have aj:=m.same sH;have s4:aM H3 (upd (upd H3 v (.dK [])) O (.lst [])):=(ak b2).trans (ak b3);have e1:(upd (upd H3 v (.dK [])) O (.lst [])) v=some (.dK (dkV [])):=by rw[aw (Ne.symm pd)];exact ag
  have I:PnV ad (upd (upd H3 v (.dK [])) O (.lst [])) O S.pts [] []:=⟨ag,rfl,fun j p x e=>by simp at e⟩;generalize (upd (upd H3 v (.dK [])) O (.lst []))=H4 at *
  refine⟨_,rfl,fl (s4 _ _ (s3 _ _ X.ob)) T.draw ahF ⟨lm,ms,rfl,SqL.of (s4 _ _ (s3 _ _ ml.lst)),dN (K:=K) (a:=lm) (xs:=ms)
   (fun i σ C=>(∃v2 v6 v7 v8 v9,σ=[some (.ref d),some (.ref L),v2,some (.ref c),some (.ref v),some (.ref O),v6,v7,v8,v9])/\aM H3 C/\C v=some (.dK (dkV ((An i).map fun k=>(oi S k).getD 0)))/\(∃a6,PnV ad C O S.pts ((An i).map (gu S)) a6)/\∀e,e<i->adw S e=false)
   ⟨⟨_,_,_,_,_,rfl⟩,s4,e1,⟨[],I⟩,fun e he=>absurd he (Bt e)⟩ (fun i σ C _ ⟨_,e,_⟩=>SqL.of (e _ _ (s3 _ _ ml.lst))) ?_ ?_⟩⟩
  ·rintro i x σ C t hx ⟨⟨v2,v6,v7,v8,v9,rfl⟩,a7,aa,⟨a6,pv⟩,no⟩ ht
   have hi:i<S.marks.length:=by
    have:=(Aj.mp hx).1;rw[ml.len] at this;exact this
   obtain⟨b,eb,qb⟩:=ml.at_ i hi;rw[eb] at hx;obtain rfl:=Ah hx;refine⟨t,_,rfl,SqT.of ag,rfl,_,_,rfl,_,_,rfl,rfl,?_⟩;have st:=ak (o:=.tup [.int (i:Nat),.ref b]) ht;have s5:=a7.trans st;have c2:=st _ _ aa;have ct:=pv.same st;generalize upd C t (.tup [.int (i:Nat),.ref b])=H5 at *
   have c3:=s3.trans s5;refine⟨_,rfl,_,rfl,b,c,((S.marks.getD i m0).at_.x:Int),((S.marks.getD i m0).at_.y:Int),_,S.pts,bI S,ss,rfl,c3 _ _ qb,ol.same s5,r.sm,fun H6 s6 => ?_⟩;obtain⟨u,ej⟩:=bc i hi;have ev:abl (rH S.pts (bI S) ((S.marks.getD i m0).at_.x:Int) ((S.marks.getD i m0).at_.y:Int))=.int (u:Int):=by
    have:rH S.pts (bI S) ((S.marks.getD i m0).at_.x:Int) ((S.marks.getD i m0).at_.y:Int)=some u:=ej;rw[this];rfl
   rw[ev];have b4:=c3.trans s6;have Z:=s6 _ _ c2;have cu:=ct.same s6;refine⟨_,rfl,_,rfl,v,_,rfl,vZ.k (k:=Cm (u:Int)) Z,_,rfl,?_⟩;rw[vt];have au:u∈((An i).map fun k=>(oi S k).getD 0)↔adw S i=true:=by
    unfold adw;rw[Ax,BM]
    constructor
    ·rintro⟨k,hk,e⟩
     refine⟨k,hk,AD ?_⟩;rw[A6] at hk;obtain⟨jk,ek⟩:=bc k (by omega);rw[ek] at e;rw[ek,ej];exact B2 some e
    ·rintro⟨k,hk,e⟩
     refine⟨k,hk,?_⟩;rw[AV e,ej];rfl
   by_cases dz:u∈((An i).map fun k=>(oi S k).getD 0)
   ·rw[As dz]
    have gB:mw S=some (12,acb S i):=by
     unfold mw;rw[aW hi (au.mp dz) no]
    refine jO ⟨_,rfl,d,dx,_,rfl,b4 _ _ X.ob,rfl,_,rfl,d,dx,lp,ll,lm,S,_,rfl,X.same b4,by show 2<=sizeLine;decide,fun lb a0=>⟨AN _,fun le b5=>vv rfl ?_⟩⟩;have sb:=ak (o:=.lst [.int 12,.int (20+8*(S.pts.length:Int)+4*(S.lines.length:Int)+12*((i:Nat):Int))]) a0;have se:=ak (o:=.lst []) b5;refine jG (b:=some (12,acb S i)) (xs := []) (pts:=S.pts) (se _ _ ag) (qH ag) fun H7 B s7 ca=>q H7 B (b4.trans (sb.trans (se.trans s7))) ?_;have gP:mm S=[]:=by unfold mm;rw[gB];rfl
    rw[gB,gP];exact ca
   ·rw[Ar dz]
    have c5:adw S i=false:=A8.mpr fun y=>dz (au.mpr y);refine jt ⟨_,rfl,_,rfl,v,_,rfl,ab4.k (k:=Cm (u:Int)) Z (aT (by unfold dkV;rw[Ab,Ab,AG];omega)),?_⟩;rw[ac0 dz];have eR:((An i).map fun k=>(oi S k).getD 0)++[u]=(An (i+1)).map fun k=>(oi S k).getD 0:=by
     rw[Ce,Ay,DW,ej];rfl
    rw[eR];have s7:aM H3 (upd H6 v (.dK (dkV ((An (i+1)).map fun k=>(oi S k).getD 0)))):=aI (s5.trans s6) b2;have b6:=cu.dk (k1:=dkV ((An (i+1)).map fun k=>(oi S k).getD 0)) Z;have c6:(upd H6 v (.dK (dkV ((An (i+1)).map fun k=>(oi S k).getD 0)))) v=some (.dK (dkV ((An (i+1)).map fun k=>(oi S k).getD 0))):=ag;generalize (upd H6 v (.dK (dkV ((An (i+1)).map fun k=>(oi S k).getD 0))))=H7 at *
    have b8:=s3.trans s7;have a4:=aj.same s7;have G:u<(bI S).length:=(aan ej).1;have c7:u<ls.length:=by rw[a4.len];exact G
    have ae:=a4.at_ u _ _ (Aa c7) (Aa G);obtain⟨Y,bo⟩:=tR R r.ln (AX G);have cv:gu S i=((S.marks.getD i m0).glass,(bI S)[u]'G):=by
     unfold gu;rw[ej];show((S.marks.getD i m0).glass,(bI S).getD u [])=_;have e0:(bI S).getD u []=(bI S)[u]'G:=by rw[Az,Aa G];rfl
     rw[e0]
    generalize ho:(bI S)[u]'G=o at *
    generalize c9:ls[u]=lo at *
    have cz:(ls.map V.ref)[u]? = some (.ref lo):=by rw[Av,Aa c7,c9];rfl
    refine⟨_,rfl,.inl ⟨rfl,_,SqL.of b6.lst⟩,dO (j:=2) rfl (SqT.of (b8 _ _ qb)) rfl ⟨_,rfl,_,rfl,L,_,_,_,rfl,rfl,SqL.of a4.lst,aQ cz,lo,rfl,⟨_,SqL.of ae⟩,fun B af => ?_⟩⟩;have vl:∀n,n<o.length->∃k p,o[n]? = some k/\ps[k]? = some (.ref p)/\H p=some (ptO S.pts k):=fun n hn=>by
     have hm:=Y o[n] (AX hn);obtain⟨p,e1,I⟩:=pl.at_ _ hm;exact⟨o[n],p,Aa hn,e1,I⟩
    refine iW (J:=Itl K lo) B o.length (fun n C=>aM H7 C/\C B=some (.lst ((o.take n).map fun k=>(ps[k]?).getD .non)))
     ⟨ak af,ag⟩ ?_ ?_ ?_
    ·rintro n H8 hn ⟨s8,_⟩
     obtain⟨k,p,e,_⟩:=vl n hn;exact⟨_,.int (k:Int),SqL.of (s8 _ _ ae),by rw[Av,e];rfl⟩
    ·rintro n x H8 H9 hn ⟨s8,ai⟩ ⟨rfl,hx⟩
     obtain⟨k,p,e,e1,I⟩:=vl n hn;have ex:=hx _ (SqL.of (s8 _ _ ae));rw[Av,e] at ex;obtain rfl:V.int (k:Int)=x:=Ah ex;have a5:=b8.trans s8;refine⟨rfl,ke ⟨_,rfl,fl (a5 _ _ X.ob) T.draw qR ⟨_,rfl,lp,_,_,_,rfl,rfl,SqL.of (a5 _ _ pl.lst),aQ e1,_,ai,?_,aI s8 af,?_⟩⟩⟩
     ·rw[Ab,AO];exact b9 (by omega)
     ·rw[ag,take_snoc e,Ay,DW,e1];rfl
    ·rintro H8 ⟨s8,ai⟩
     rw[BB (Ak _)] at ai;refine⟨⟨_,SqL.of (s8 _ _ ae),by rw[Ab];exact Ak _⟩,?_⟩;refine xZ ?_;intro W g n1 n2 ne;refine⟨W,g,[.int ((S.marks.getD i m0).glass:Int),.ref B],rfl,rfl,ag,rfl,?_⟩;rw[bQ];have a5:=b8.trans s8;have s9:aM H8 (upd (upd H8 g (.own W)) W (.ins ad.pane g (oT [.int ((S.marks.getD i m0).glass:Int),.ref B]))):=(ak n2).trans (ak (by rw[aw (Ne.symm ne)];exact n1));have gx:(upd (upd H8 g (.own W)) W (.ins ad.pane g (oT [.int ((S.marks.getD i m0).glass:Int),.ref B]))) W=some (.ins ad.pane g [("glass",.int ((S.marks.getD i m0).glass:Int)),("corners",.ref B)]):=ag;have ba:=(b6.same s8).same s9;have d0:=s9 _ _ ai;have d1:B≠O:=fun z=>by rw[z,b6.lst] at af;cases af
     have pa:iH ad (upd (upd H8 g (.own W)) W (.ins ad.pane g (oT [.int ((S.marks.getD i m0).glass:Int),.ref B]))) W S.pts (gu S i) O:=by
      rw[cv];refine⟨g,B,o.map fun k=>aiC ((ps[k]?).getD .non),gx,?_,d1,by rw[Ab],fun j ca k cb ek => ?_⟩
      ·rw[d0,Bd]
       refine B2 (fun z=>some (HO.lst z)) (DM fun k hk => ?_);obtain⟨p,e1,_⟩:=pl.at_ _ (Y k hk);show(ps[k]?).getD .non=V.ref (aiC ((ps[k]?).getD .non));rw[e1];rfl
      ·rw[Av,ek] at cb
       obtain⟨p,e1,I⟩:=pl.at_ _ (Y k (AE ek));have:aiC ((ps[k]?).getD .non)=ca:=Ah cb;rw[e1] at this;obtain rfl:p=ca:=this;exact s9 _ _ (a5 _ _ I)
     have dc:=a5.trans s9;have ck:=s9 _ _ (s8 _ _ c6);have d2:=s7.trans (s8.trans s9);generalize (upd (upd H8 g (.own W)) W (.ins ad.pane g (oT [.int ((S.marks.getD i m0).glass:Int),.ref B])))=H9 at *
     refine⟨O,_,_,rfl,rfl,ba.lst,?_,?_⟩
     ·rw[Ab,ba.len,Ab,AG];exact aT (by omega)
     refine⟨⟨_,_,_,_,_,rfl⟩,aI d2 c1,?_,⟨a6++[W],?_⟩,bY no c5⟩
     ·rw[aw (Ne.symm pd)];exact ck
     ·have:=ba.snoc pa
      rw[Ce,Ay];exact this
  ·rintro σ C ⟨⟨v2,v6,v7,v8,v9,rfl⟩,a7,aa,⟨a6,pv⟩,no⟩
   rw[ml.len] at aa pv no;have s5:=s3.trans a7;have av:=aj.same a7;refine⟨_,rfl,v,_,rfl,aa,_,rfl,L,_,rfl,.inl (SqL.of av.lst),_,_,rfl,rfl,_,rfl,?_⟩;have l1:(dkV ((An S.marks.length).map fun k=>(oi S k).getD 0)).length=S.marks.length:=by unfold dkV;rw[Ab,Ab,AG]
   have l2:(ls.map V.ref).length=(bI S).length:=by rw[Ab,av.len]
   rw[l1,l2,abn];refine bX (fun z => ?_) (fun z => ?_)
   ·have z':S.marks.length<(bI S).length:=AV z
    have gB:mw S=some (13,20+8*(S.pts.length:Int)+4*(S.lines.length:Int)+12*(S.marks.length:Int)):=by
     unfold mw;rw[a9 no];show(if _ then _ else _)=_;rw[As z']
    refine⟨_,rfl,d,dx,_,rfl,s5 _ _ X.ob,rfl,d,dx,lp,ll,lm,S,rfl,X.same s5,by show 2<=sizeLine;decide,fun lb a0=>⟨AN _,fun le b5=>vv rfl ?_⟩⟩;have sb:=ak (o:=.lst [.int 13,.int (20+8*(S.pts.length:Int)+4*(S.lines.length:Int)+12*(S.marks.length:Int))]) a0;have se:=ak (o:=.lst []) b5;refine jG (b:=some (13,20+8*(S.pts.length:Int)+4*(S.lines.length:Int)+12*(S.marks.length:Int))) (xs := []) (pts:=S.pts) (se _ _ ag) (qH ag) fun H7 B s7 ca=>q H7 B (s5.trans (sb.trans (se.trans s7))) ?_;have gP:mm S=[]:=by unfold mm;rw[gB];rfl
    rw[gB,gP];exact ca
   ·have z':¬S.marks.length<(bI S).length:=fun y=>z (AD y)
    have gB:mw S=none:=by
     unfold mw;rw[a9 no];show(if _ then _ else _)=_;rw[Ar z']
    refine⟨AN _,fun lb a0=>⟨_,rfl,vv rfl ?_⟩⟩;have sb:=ak (o:=.lst []) a0;refine jG (b:=none) (xs:=(An S.marks.length).map (gu S)) (pts:=S.pts) ag (pv.same sb).to fun H7 B s7 ca=>q H7 B (s5.trans (sb.trans s7)) ?_;have gP:mm S=(An S.marks.length).map (gu S):=by unfold mm;rw[gB];rfl
    rw[gB,gP];exact ca
end
theorem cx{n:Nat}{p q:Nat->Bool}(h:∀i,i<n->p i=q i):aO n p=aO n q:=by
 unfold aO;have:∀l:List Nat,(∀i∈l,p i=q i)->l.find? p=l.find? q:=by
  intro l
  induction l with
  | nil=>intro _;rfl
  | cons a r c =>
   intro h;rw[Cr,Cr,h a Ad,c fun i b=>h i (Ac _ b)]
 exact this _ fun i b=>h i (A6.mp b)
theorem gO{n i:Nat}{p:Nat->Bool}(h:aO n p=some i):i<n/\p i=true/\∀j,j<i->p j=false:=by
 unfold aO at h;rw[Fz] at h;obtain⟨a,k,c,e,b⟩:=h;rw[D2] at e;subst e;rw[AG] at c;refine⟨c,a,fun j d => ?_⟩;have:=b j d;rw[D2] at this
 simpa using this
theorem getD_at{α:Type}{l:List α}{i:Nat}(d:α)(a:i<l.length):l.getD i d=l[i]:=by rw[Az,Aa a];rfl
theorem ka{α:Type}(d:α)(p:Nat->α->Bool)(l:List α):CQ p l=aO l.length fun i=>p i (l.getD i d):=by
 cases h:aO l.length fun i=>p i (l.getD i d) with
 | none =>
  have f:=cA h;unfold CQ;rw[Di];refine find_none fun i a c e => ?_;rw[List.length_zipIdx] at c;rw[FC,Aa c] at e;obtain rfl:=Ah e;have:=f i c;rw[getD_at d c] at this
  simpa using this
 | some i =>
  obtain⟨c,g,f⟩:=gO h;unfold CQ;rw[getD_at d c] at g;rw[find_some (i:=i) (a:=(l[i],i)) (by rw[FC,Aa c];simp) g fun j b m e => ?_]
  ·rfl
  ·rw[FC,Aa (by omega)] at e
   obtain rfl:=Ah e;have:=f j m;rw[getD_at d (by omega)] at this
   simpa using this
theorem i8{α:Type}(d:α)(ok:α->Bool)(a:α->α->Bool)(l:List α):DX ok a l=aO l.length fun i => !ok (l.getD i d)||(decide (0<i) && !a (l.getD (i-1) d) (l.getD i d)):=by
 unfold DX;rw[ka d];refine cx fun i b => ?_
 by_cases h:0<i
 ·have e:l[i-1]? = some (l.getD (i-1) d):=by rw[getD_at d (by omega),Aa]
  rw[e]
 ·rw[AR h,Bp,Bp]
theorem k8(p q:Pt):kj p.x p.y q.x q.y=Pt.below q p:=by
 unfold kj Pt.below
 congr 2
 by_cases h:p.y=q.y
 ·rw[h];simp
 ·rw[AR h];symm;rw[BX];omega
theorem jC(S:Plan):DX (fun(p:Pt)=>decide (p.x<=S.w)&&decide (p.y<=S.h)) Pt.below S.pts=aO S.pts.length (dU S):=by
 rw[i8 ⟨0,0⟩];refine cx fun i a => ?_;unfold dU;rw[k8]
 congr 1
 rw[Gg]
 congr 1
 ·rw[<- DY];exact Ba.mpr (by omega)
 ·rw[<- DY];exact Ba.mpr (by omega)
theorem rh(a b:Nat×Nat):lx true [(a.1:Int),(a.2:Int)] [(b.1:Int),(b.2:Int)] = !Gla.lineBelow b a:=by
 unfold lx Il
 by_cases h:a.1=b.1
 ·rw[As (by omega)]
  unfold lx;rw[h];have e1:decide (b.1<b.1)=false:=AR (Cd _);rw[e1,F2,E3,BW]
  by_cases h2:a.2=b.2
  ·rw[As (by omega),h2,AR (Cd _)];rfl
  ·rw[Ar (by omega),<- DY];exact Ba.mpr (by omega)
 ·rw[Ar (by omega)]
  have e1:(b.1==a.1)=false:=by rw[BX];omega
  rw[e1,Bp,Ii,<- DY];exact Ba.mpr (by omega)
theorem nD(S:Plan):DX (fun(l:Nat×Nat)=>decide (l.1<l.2)&&decide (l.2<S.pts.length)) Il S.lines=aO S.lines.length (cN S):=by
 rw[i8 (0,0)];refine cx fun i a => ?_;unfold cN lnI;rw[rh]
 congr 1
 rw[Gg]
 congr 1
 ·rw[<- DY];exact Ba.mpr (by omega)
 ·rw[<- DY];exact Ba.mpr (by omega)
theorem afJ{l:List Nat}(h:l.Pairwise (· < ·)):∀e∈l.zip (l.drop 1),e.1<e.2:=by
 induction l with
 | nil=>intro e he;simp at he
 | cons a r c =>
  intro e he;rw[FW,CP] at he;cases r with
  | nil=>simp at he
  | cons b t =>
   rw[Gr] at he;rcases Am.mp he with rfl|he
   ·exact(BH.mp h).1 b Ad
   ·refine c (BH.mp h).2 e ?_
    rw[FW,CP];exact he
theorem acH{S:Plan}{l:List Nat}(h:l.Pairwise (· < ·)):Jw S l=nJ S l:=by
 unfold Jw nJ;have:∀m:List (Nat×Nat),(∀e∈m,e.1<e.2)->(m.all fun(x:Nat×Nat)=>S.joined x.1 x.2)=m.all fun e=>decide (e∈S.lines):=by
  intro m
  induction m with
  | nil=>intro _;rfl
  | cons a r b =>
   intro h;rw[GN,GN,b fun e he=>h e (Ac _ he)]
   congr 1
   have lt:=h a Ad;unfold Plan.joined;rw[CW (by omega),GU (by omega),HP]
 exact this _ (afJ h)
theorem acw(n:Nat):(An n).Pairwise (· < ·):=Dg
theorem qE(S:Plan)(a v:Nat)(b:Pt->Bool)(h:∀p,b p=decide (crd p a=v)):Jw S (Jx S b)=nJ S (fO S a v):=by
 have e:Jx S b=fO S a v:=by
  unfold Jx fO oC;refine B2 (fun z=>List.filter z _) (funext fun k => ?_);rw[h];rfl
 rw[e];refine acH ?_;unfold fO oC;exact(acw _).filter _
theorem adx(S:Plan):yf S = !Gla.frameOk S:=by
 unfold yf KJ;rw[qE S 1 0 _ fun p=>by rw[B3];simp[crd],qE S 1 S.h _ fun p=>by rw[B3];simp[crd],qE S 0 0 _ fun p=>by rw[B3];simp[crd],qE S 0 S.w _ fun p=>by rw[B3];simp[crd]];unfold ahj axL;simp only[GN,List.all_nil,GL,HP];rw[<- Gg]
 congr 1
 ac_rfl
end Gs
namespace Gs
open PySem PySem.Spec PyProof.Rows L2
open Gla (Plan Pt Mark)
theorem ze(p q r:Pt):onZ (r.x:Int) (r.y:Int) (p.x:Int) (p.y:Int) (q.x:Int) (q.y:Int)=Ha p q r:=by
 unfold onZ Ha Jy;have e1:oh (p.x:Int) (p.y:Int) (q.x:Int) (q.y:Int) (r.x:Int) (r.y:Int)=CF p q r:=rfl;rw[e1,B3];simp only[AB,A5,BL]
 constructor
 ·rintro⟨⟨a,b⟩,⟨c,d⟩,e⟩
  exact⟨e,⟨by omega,by omega⟩,by omega,by omega⟩
 ·rintro⟨e,⟨a,b⟩,c,d⟩
  exact⟨⟨by omega,by omega⟩,⟨by omega,by omega⟩,e⟩
def Bf(p q:Pt):Prop:=p.y<q.y\/(p.y=q.y/\p.x<q.x)
theorem afP{p q r:Pt}(h:Bf p q)(f:Bf r p):Ha p q r=false:=by
 rw[A8];intro z;unfold Ha Jy at z;simp only[AB,A5,BL] at z;obtain⟨t,⟨a,b⟩,c,d⟩:=z;unfold Bf at h f;rcases f with f|⟨e,f⟩
 ·omega
 ·rcases h with h|⟨g,h⟩
  ·have:CF p q r=((q.y:Int)-p.y)*((p.x:Int)-r.x):=by unfold CF Kx Ky;rw[e];grind
   rw[this] at t;rcases EI.mp t with u|u <;> omega
  ·omega
theorem aeo{p q r:Pt}(h:Bf p q)(f:Bf q r):Ha p q r=false:=by
 rw[A8];intro z;unfold Ha Jy at z;simp only[AB,A5,BL] at z;obtain⟨t,⟨a,b⟩,c,d⟩:=z;unfold Bf at h f;rcases f with f|⟨e,f⟩
 ·omega
 ·rcases h with h|⟨g,h⟩
  ·have:CF p q r=((q.y:Int)-p.y)*((q.x:Int)-r.x):=by unfold CF Kx Ky;rw[e];grind
   rw[this] at t;rcases EI.mp t with u|u <;> omega
  ·omega
theorem sgn_mul{a b:Int}:a*b<0↔(a<0/\0<b)\/(0<a/\b<0):=by
 constructor
 ·intro h
  rcases Ek a 0 with u|u|u
  ·rcases Ek b 0 with v|v|v
   ·have:=Gy u v;omega
   ·rw[v] at h;simp at h
   ·exact .inl ⟨u,v⟩
  ·rw[u] at h;simp at h
  ·rcases Ek b 0 with v|v|v
   ·exact .inr ⟨u,v⟩
   ·rw[v] at h;simp at h
   ·have:=Bk u v;omega
 ·rintro(⟨u,v⟩|⟨u,v⟩)
  ·exact CC u v
  ·exact Gx u v
theorem vg(S:Plan)(i j k l:Nat):oZ S.pts i j k l=FD (S.pt i) (S.pt j) (S.pt k) (S.pt l):=by
 unfold oZ qS FD;have e:∀a b c,tnI S.pts a b c=CF (S.pt a) (S.pt b) (S.pt c):=fun _ _ _=>rfl;rw[e,e,e,e,B3];simp only[AB,DA,A5,sgn_mul]
theorem abH{p q r s:Pt}(G:Bf r s)(H:Bf s p)(I:Bf p q):FD p q r s=false:=by
 rw[A8];intro z;unfold FD at z;simp only[AB,A5,sgn_mul] at z;obtain⟨N,g⟩:∃N:Int,(r.x:Int)<N/\(s.x:Int)<N/\(p.x:Int)<N/\(q.x:Int)<N:=⟨(r.x:Int)+s.x+p.x+q.x+1,by omega,by omega,by omega,by omega⟩;have l:∀a b:Pt,(a.x:Int)<N->(b.x:Int)<N->Bf a b->N*a.y+a.x<N*b.y+b.x:=by
  intro a b S T h;rcases h with h|⟨h,h'⟩
  ·have:N*(a.y:Int)+N<=N*b.y:=by
    have e:N*(b.y:Int)=N*(a.y:Int)+N*((b.y:Int)-a.y):=by grind
    have:N*1<=N*((b.y:Int)-a.y):=Cn (by omega) (by omega);omega
   omega
  ·rw[h];omega
 have W:=l r s g.1 g.2.1 G;have X:=l s p g.2.1 g.2.2.1 H;have Y:=l p q g.2.2.1 g.2.2.2 I;generalize o:CF p q s=A at z;generalize u:CF p q r=B at z;generalize v:CF r s q=C at z;generalize w:CF r s p=D at z;have Z:A-B+C-D=0:=by rw[<- o,<- u,<- v,<- w];unfold CF Kx Ky;grind
 have E:A*(N*r.y+r.x)-B*(N*s.y+s.x)+C*(N*p.y+p.x)-D*(N*q.y+q.x)=0:=by
  rw[<- o,<- u,<- v,<- w];unfold CF Kx Ky;grind
 generalize N*(r.y:Int)+r.x=i at *
 generalize N*(s.y:Int)+s.x=c at *
 generalize N*(p.y:Int)+p.x=d at *
 generalize N*(q.y:Int)+q.x=j at *
 obtain⟨J,u2⟩:=z;rcases J with⟨M,m⟩|⟨M,m⟩
 ·
  have n:C<0/\0<D:=by omega
  have O:0<A*(c-i):=Bk m (by omega);have P:0<D*(j-d):=Bk n.2 (by omega);have R:0<(A-B)*(d-c):=Bk (by omega) (by omega);have:A*(c-i)+D*(j-d)+(A-B)*(d-c)=0:=by
   have e:D=A-B+C:=by omega
   have f:=E;rw[e] at f ⊢
   grind
  omega
 ·have n:0<C/\D<0:=by omega
  have O:A*(c-i)<0:=CC m (by omega);have P:D*(j-d)<0:=CC n.2 (by omega);have R:(A-B)*(d-c)<0:=CC (by omega) (by omega);have:A*(c-i)+D*(j-d)+(A-B)*(d-c)=0:=by
   have e:D=A-B+C:=by omega
   have f:=E;rw[e] at f ⊢
   grind
  omega
theorem uL{p q r:Pt}:FD p q r p=false:=by
 unfold FD;have:CF p q p=0:=by unfold CF Kx Ky;grind
 rw[this];simp
section
variable{S:Plan}(r4:DX (fun(p:Pt)=>decide (p.x<=S.w)&&decide (p.y<=S.h)) Pt.below S.pts=none)(lo:sW S)
include r4
theorem po4{i j:Nat}(d:i<j)(e:j<S.pts.length):Bf (S.pt i) (S.pt j):=by
 have:=Geo.ur (r:=fun(p q:Pt)=>p.y<q.y\/(p.y=q.y/\p.x<q.x)) (by intro a b c g m;omega) (l:=S.pts) (fun i f=>by
  have:=(Geo.cB r4).2 i f;unfold Pt.below at this
  simpa using this) i j d e
 unfold Plan.pt;rw[getD_at _ e,getD_at _ (by omega)];exact this
include lo
theorem aaE:CQ (Jz S) S.lines=aO S.lines.length (mi S):=by
 rw[ka (0,0)];refine cx fun i o => ?_;have b:=lo.at_ o;unfold Jz mi;generalize q:S.lines.getD i (0,0)=l at *
 congr 1
 ·unfold yD
  rw[B3,BM,BM];have f:∀k,onI S.pts k l.1 l.2=Ha (S.pt l.1) (S.pt l.2) (S.pt k):=fun k=>ze _ _ _
  constructor
  ·rintro⟨k,g,h⟩
   rw[A6] at g;simp only[AB,JU,ne_eq] at h;obtain⟨r,s,c⟩:=h;have A:l.1<k:=by
    rcases BY k l.1 with u|u|u
    ·rw[afP (po4 r4 b.1 b.2) (po4 r4 u (by omega))] at c;cases c
    ·exact absurd u r
    ·exact u
   have B:k<l.2:=by
    rcases BY k l.2 with u|u|u
    ·exact u
    ·exact absurd u s
    ·rw[aeo (po4 r4 b.1 b.2) (po4 r4 u g)] at c;cases c
   refine⟨k-(l.1+1),A6.mpr (by omega),?_⟩;rw[f];have:l.1+1+(k-(l.1+1))=k:=by omega
   rw[this];exact c
  ·rintro⟨d,v,h⟩
   rw[A6] at v;rw[f] at h;refine⟨l.1+1+d,A6.mpr (by omega),?_⟩;simp only[AB,JU,ne_eq];exact⟨by omega,by omega,h⟩
 ·unfold sI
  rw[q,B3,BM,BM]
  constructor
  ·rintro⟨m,z,h⟩
   obtain⟨e,he,j⟩:=AQ.mp z;rw[AO] at he;rw[G8] at j;have n:S.lines.getD e (0,0)=m:=by rw[getD_at _ (by omega),j]
   have a:=lo.at_ (i:=e) (by omega);rw[n] at a;refine⟨e,A6.mpr (by omega),?_⟩;rw[n,AB,vg];refine⟨AD ?_,h⟩;rcases BY l.1 m.2 with u|u|u
   ·exact u
   ·rw[<- u,uL] at h;cases h
   ·rw[abH (po4 r4 a.1 a.2) (po4 r4 u (by omega)) (po4 r4 b.1 b.2)] at h;cases h
  ·rintro⟨e,he,h⟩
   rw[A6] at he;rw[AB,vg] at h;refine⟨S.lines.getD e (0,0),?_,h.2⟩;rw[getD_at _ (by omega)];rw[AQ];exact⟨e,by rw[AO];omega,by rw[G8]⟩
end
open Geo.Rules (bI)
theorem aeH(S:Plan)(m:Mark):abE S m=KL S m.at_:=by
 unfold abE KL;rw[B3,BM,BM]
 constructor
 ·rintro⟨e,he,h⟩
  rw[A6] at he;refine⟨S.lines.getD e (0,0),by rw[getD_at _ he];exact AX he,?_⟩;have:=ze (S.pt (S.lines.getD e (0,0)).1) (S.pt (S.lines.getD e (0,0)).2) m.at_;rw[<- this];exact h
 ·rintro⟨l,a,h⟩
  obtain⟨e,he,b⟩:=AQ.mp a;have c:S.lines.getD e (0,0)=l:=by rw[getD_at _ he,b]
  refine⟨e,A6.mpr he,?_⟩;unfold onM;rw[c];have:=ze (S.pt l.1) (S.pt l.2) m.at_;rw[<- this] at h;exact h
theorem wj(S:Plan)(m:Mark):E5 S m.at_=(iX S m && !abE S m):=by
 rw[aeH];unfold E5 iX;simp only[Bool.and_assoc]
theorem zj(S:Plan):DX (KR S) Ki S.marks=aO S.marks.length (de S):=by
 rw[i8 m0];refine cx fun i a => ?_;unfold de KR Ki;rw[wj,k8,Gg,Bool.not_not]
noncomputable def vp(S:Plan):Option Gla.Fault:=match Hb S S.outlines 0 [] S.marks with
 | some i=>some ⟨12,EG S i⟩
 | none=>if S.marks.length<S.outlines.length then some ⟨13,S.size⟩ else none
theorem nF(S:Plan):
  (∃(r p:Nat),oP S=some (r,(p:Int))/\S.fault=some ⟨r,p⟩) \/
  (oP S=none/\S.fault=vp S/\sW S/\(1<=S.w->1<=S.h->Geo.Rules S)/\∀k,k<S.marks.length->E5 S (S.marks.getD k m0).at_=true):=by
 have a:oP S=adH 4 (afw S):=rfl;unfold Plan.fault;unfold afw at a;cases h4:aO S.pts.length (dU S) with
 | some i =>
  left
  refine⟨4,HQ i,?_,?_⟩
  ·rw[a,h4];rfl
  ·rw[jC,h4]
 | none =>
 cases h5:aO S.lines.length (cN S) with
 | some i =>
  left
  refine⟨5,GO S i,?_,?_⟩
  ·rw[a,h4,h5]
   show some (5,acf S i)=_;unfold acf GO HR;simp
  ·rw[jC,h4]
   simp only[];rw[nD,h5]
 | none =>
 have lo:=zO h5;cases h6:yf S with
 | true =>
  left
  refine⟨6,20,?_,?_⟩
  ·rw[a,h4,h5,h6];rfl
  ·rw[jC,h4]
   simp only[];rw[nD,h5];simp only[];rw[adx] at h6;rw[As (by simpa using h6)];rfl
 | false =>
 have b:KJ S=true:=by rw[adx] at h6;simpa using h6
 have d:DX (fun(p:Pt)=>decide (p.x<=S.w)&&decide (p.y<=S.h)) Pt.below S.pts=none:=by rw[jC,h4]
 have e:DX (fun(l:Nat×Nat)=>decide (l.1<l.2)&&decide (l.2<S.pts.length)) Il S.lines=none:=by rw[nD,h5]
 rw[d,e];simp only[];rw[Ar (by rw[b];exact Bu)];cases h7:aO S.lines.length (mi S) with
 | some i =>
  left
  refine⟨7,GO S i,?_,?_⟩
  ·rw[a,h4,h5,h6,h7]
   show some (7,acf S i)=_;unfold acf GO HR;simp
  ·rw[aaE d lo,h7]
 | none =>
 have f:CQ (Jz S) S.lines=none:=by rw[aaE d lo,h7]
 rw[f];simp only[];have g:((An S.pts.length).find? fun(i:Nat)=>decide ((S.near i).length<2))=aO S.pts.length (l9 S):=rfl;have j:((An S.pts.length).find? fun(i:Nat) => !((Kv S.nears S.pts.length 0 (DI S.pts.length)).getD i false))=aO S.pts.length (q5 S):=rfl;have c:(An S.pts.length).find? (Ld S.nears S.pts.length)=aO S.pts.length (rC S):=rfl;rw[g,j,c];cases h8:aO S.pts.length (l9 S) with
 | some i =>
  left
  refine⟨8,HQ i,?_,rfl⟩;rw[a,h4,h5,h6,h7,h8];rfl
 | none =>
 cases h9:aO S.pts.length (q5 S) with
 | some i =>
  left
  refine⟨9,HQ i,?_,rfl⟩;rw[a,h4,h5,h6,h7,h8,h9];rfl
 | none =>
 cases h10:aO S.pts.length (rC S) with
 | some i =>
  left
  refine⟨10,HQ i,?_,rfl⟩;rw[a,h4,h5,h6,h7,h8,h9,h10];rfl
 | none =>
 rw[zj];cases h11:aO S.marks.length (de S) with
 | some i =>
  left
  refine⟨11,EG S i,?_,rfl⟩;rw[a,h4,h5,h6,h7,h8,h9,h10,h11];show some (11,acb S i)=_;unfold acb EG HR;simp
 | none =>
  right
  refine⟨?_,rfl,lo,fun m n=>⟨m,n,d,e,b,f,by rw[g,h8],by rw[j,h9],by rw[c,h10]⟩,fun k o => ?_⟩
  ·rw[a,h4,h5,h6,h7,h8,h9,h10,h11];rfl
  ·have:=cA h11 k o
   unfold de at this;rw[BO,BO] at this;rw[wj,this.1.2];have t:=this.1.1;rw[EO] at t;rw[t];rfl
theorem pH{S:Plan}(R:Geo.Rules S){k:Nat}(hz:E5 S (S.marks.getD k m0).at_=true):
  ∃j l,oi S k=some j/\j<(bI S).length/\(bI S).getD j []=l/\S.among S.outlines (S.marks.getD k m0).at_=some l:=by
 obtain⟨l,g,b,c,d⟩:=R.adV hz;obtain⟨i,e,m⟩:=AQ.mp g;cases h:oi S k with
 | none =>
  unfold oi rH at h;have:=cA h i e;rw[ac8 S,getD_at _ e,m,b] at this;cases this
 | some j =>
  have h':=h;unfold oi rH at h';obtain⟨a,f,_⟩:=gO h';rw[ac8 S,getD_at _ a] at f;refine⟨j,l,rfl,a,?_,d⟩;rw[getD_at _ a];exact c _ (AX a) f
theorem abV{α:Type}{l:List α}(h:l.Nodup){i j:Nat}(a:i<l.length)(b:j<l.length)(e:l[i]=l[j]):i=j:=by
 rcases BY i j with u|u|u
 ·exact absurd e (D6.mp h i j a b u)
 ·exact u
 ·exact absurd e.symm (D6.mp h j i b a u)
theorem agl{S:Plan}(R:Geo.Rules S)(hz:∀k,k<S.marks.length->E5 S (S.marks.getD k m0).at_=true){k:Nat}(i:k<S.marks.length):
  adw S k=(An k).any fun j=>decide (S.among S.outlines (S.marks.getD j m0).at_=S.among S.outlines (S.marks.getD k m0).at_):=by
 unfold adw;rw[B3,BM,BM];have:∀j,j<k->(oi S j=oi S k↔S.among S.outlines (S.marks.getD j m0).at_=S.among S.outlines (S.marks.getD k m0).at_):=by
  intro j c;obtain⟨a,l,e1,f,d,n⟩:=pH R (hz j (by omega));obtain⟨b,m,o,g,e,p⟩:=pH R (hz k i);rw[e1,o,n,p]
  constructor
  ·intro h
   obtain rfl:=Ah h;rw[<- d,<- e]
  ·intro h
   obtain rfl:=Ah h;rw[getD_at _ f] at d;rw[getD_at _ g] at e;rw[abV R.mK f g (d.trans e.symm)]
 constructor
 ·rintro⟨j,c,h⟩
  exact⟨j,c,AD ((this j (A6.mp c)).mp (AV h))⟩
 ·rintro⟨j,c,h⟩
  exact⟨j,c,AD ((this j (A6.mp c)).mpr (AV h))⟩
theorem vT(S:Plan)(a:List (List Nat)):∀(d i:Nat)(b:List (Option (List Nat))),i+d=S.marks.length->(∀x,x∈b↔∃j,j<i/\S.among a (S.marks.getD j m0).at_=x) ->
  (∀j,j<i->((An j).any fun e=>decide (S.among a (S.marks.getD e m0).at_=S.among a (S.marks.getD j m0).at_))=false) ->
  Hb S a i b (S.marks.drop i)=aO S.marks.length fun k=>(An k).any fun e=>decide (S.among a (S.marks.getD e m0).at_=S.among a (S.marks.getD k m0).at_)
 | 0,i,b,hi,hh,no=>by
  rw[List.drop_of_length_le (by omega)];unfold Hb;rw[a9 fun j c=>no j (by omega)]
 | d+1,i,b,hi,hh,no=>by
  have f:i<S.marks.length:=by omega
  rw[Bh f];unfold Hb;have g:S.marks.getD i m0=S.marks[i]:=getD_at _ f;have l:(b.contains (S.among a S.marks[i].at_)=true)↔((An i).any fun e=>decide (S.among a (S.marks.getD e m0).at_=S.among a (S.marks.getD i m0).at_))=true:=by
   rw[Fm,hh,BM,g]
   constructor
   ·rintro⟨j,c,e⟩;exact⟨j,A6.mpr c,AD e⟩
   ·rintro⟨j,c,e⟩;exact⟨j,A6.mp c,AV e⟩
  by_cases h:b.contains (S.among a S.marks[i].at_)=true
  ·rw[As h,aW f (l.mp h) no]
  ·rw[Ar h]
   refine vT S a d (i+1) _ (by omega) (fun x => ?_) (bY no (A8.mpr fun z=>h (l.mpr z)));rw[Am,hh]
   constructor
   ·rintro(rfl|⟨j,c,e⟩)
    ·exact⟨i,by omega,by rw[g]⟩
    ·exact⟨j,by omega,e⟩
   ·rintro⟨j,c,e⟩
    by_cases ji:j=i
    ·left;subst ji;rw[<- e,g]
    ·right;exact⟨j,by omega,e⟩
theorem aaf{S:Plan}(R:Geo.Rules S)(hz:∀k,k<S.marks.length->E5 S (S.marks.getD k m0).at_=true):
  (∃r p:Nat,mw S=some (r,(p:Int))/\vp S=some ⟨r,p⟩)\/(mw S=none/\vp S=none):=by
 have t:=vT S S.outlines S.marks.length 0 [] (by omega) (by intro x;simp) (fun j a=>absurd a (Bt j));rw[CP] at t;have e:aO S.marks.length (adw S)=Hb S S.outlines 0 [] S.marks:=by
  rw[t];exact cx fun k b=>agl R hz b
 have pl:(bI S).length=S.outlines.length:=R.ko.length_eq;unfold mw vp;rw[e];cases h:Hb S S.outlines 0 [] S.marks with
 | some i =>
  left
  refine⟨12,EG S i,?_,rfl⟩;show some (12,acb S i)=_;unfold acb EG HR;simp
 | none =>
  show(∃r p:Nat,(if S.marks.length<(bI S).length then _ else _)=some (r,(p:Int))/\(if S.marks.length<S.outlines.length then _ else _)=some (⟨r,p⟩:Gla.Fault))\/((if S.marks.length<(bI S).length then _ else _)=none/\(if S.marks.length<S.outlines.length then _ else _)=none);rw[pl]
  by_cases hl:S.marks.length<S.outlines.length
  ·left
   rw[As hl,As hl];refine⟨13,S.size,?_,rfl⟩;unfold Plan.size EG HR;simp
  ·right
   rw[Ar hl,Ar hl];exact⟨rfl,rfl⟩
theorem pT{S:Plan}(R:Geo.Rules S){k:Nat}(a:k<S.marks.length)(hz:E5 S (S.marks.getD k m0).at_=true):∃l,S.pane k=some l/\gu S k=((S.marks.getD k m0).glass,l)/\l∈bI S:=by
 obtain⟨j,l,e1,b,c,d⟩:=pH R hz;refine⟨l,?_,?_,?_⟩
 ·unfold Plan.pane Plan.around
  rw[Aa a];rw[getD_at _ a] at d;exact d
 ·unfold gu
  rw[e1];exact B2 (Prod.mk _) c
 ·rw[<- c,getD_at _ b];exact AX b
theorem vV(b:List UInt8):(bz b).take 4=[71,76,65,49]↔b.take 4=Gla.MAGIC:=by
 have e:(bz b).take 4=bz (b.take 4):=by unfold bz;rw[F3]
 have m:bz Kn=[71,76,65,49]:=by decide
 rw[e,<- m]
 constructor
 ·intro h
  have d:∀(x y:List UInt8),bz x=bz y->x=y:=by
   intro x
   induction x with
   | nil=>intro y h;cases y with
    | nil=>rfl
    | cons c r=>exact absurd h (by unfold bz;simp)
   | cons a r f=>intro y h;cases y with
    | nil=>exact absurd h (by unfold bz;simp)
    | cons c t =>
     unfold bz at h;rw[AA,AA] at h;injection h with h1 h2
     have:a=c:=UInt8.toNat.inj (by omega);rw[this,f t h2]
  exact d _ _ h
 ·intro h;rw[h]
structure vS(b:List UInt8):Prop where
 w:16<=Bs b 4 4
 h:16<=Bs b 8 4
 p:4<=Bs b 12 2
 len:b.length=20+8*Bs b 12 2+4*Bs b 14 2+12*Bs b 16 2
theorem oG(b:List UInt8):(∃r p:Nat,aaT (bz b)=some ((r:Int),(p:Int))/\Dq b=.error ⟨r,p⟩) \/
  (aaT (bz b)=none/\vS b/\Dq b=match (B5 b).fault with
   | some e=>.error e
   | none=>.ok (B5 b)):=by
 have g:(bz b).length=b.length:=by unfold bz;rw[Ab]
 unfold aaT Dq HR;rw[g]
 by_cases h1:b.length<20
 ·left;rw[As h1,As h1];exact⟨1,b.length,rfl,rfl⟩
 rw[Ar h1,Ar h1]
 by_cases h2:b.take 4=Kn
 rotate_left
 ·left
  rw[As (fun z=>h2 ((vV b).mp z)),As h2];exact⟨1,0,rfl,rfl⟩
 have i:¬((bz b).take 4≠[71,76,65,49]):=fun z=>z ((vV b).mpr h2);have j:¬(b.take 4≠Kn):=fun z=>z h2;rw[Ar i,Ar j];have a:∀(st c lo d:Nat),uK (bz b) (st,c,(lo:Int),(d:Int)) = !Gla.within lo d (Bs b st c):=by
  intro st c lo d;unfold uK C8;show(decide (fC (bz b) st c<(lo:Int))||decide ((d:Int)<fC (bz b) st c))=_;rw[jc,Gg,<- DY,<- DY]
  congr 1 <;> exact Ba.mpr (by omega)
 have l:uK (bz b) (4,4,16,1048575) = !Gla.within Gh HS (Bs b 4 4):=a 4 4 16 1048575;have m:uK (bz b) (8,4,16,1048575) = !Gla.within Gh HS (Bs b 8 4):=a 8 4 16 1048575;have n:uK (bz b) (12,2,4,4096) = !Gla.within 4 KS (Bs b 12 2):=a 12 2 4 4096;have o:uK (bz b) (14,2,4,8192) = !Gla.within 4 KW (Bs b 14 2):=a 14 2 4 8192;have q:uK (bz b) (16,2,1,2048) = !Gla.within 1 KY (Bs b 16 2):=a 16 2 1 2048;have s:uK (bz b) (18,2,0,0) = !Gla.within 0 0 (Bs b 18 2):=a 18 2 0 0;unfold HN;simp only[Cr,List.find?_nil];rw[l,m,n,o,q,s];cases g1:C8 Gh HS (Bs b 4 4) with
 | false=>left;exact⟨2,4,rfl,rfl⟩
 | true =>
 cases g2:C8 Gh HS (Bs b 8 4) with
 | false=>left;exact⟨2,8,rfl,rfl⟩
 | true =>
 cases g3:C8 4 KS (Bs b 12 2) with
 | false=>left;exact⟨2,12,rfl,rfl⟩
 | true =>
 cases g4:C8 4 KW (Bs b 14 2) with
 | false=>left;exact⟨2,14,rfl,rfl⟩
 | true =>
 cases g5:C8 1 KY (Bs b 16 2) with
 | false=>left;exact⟨2,16,rfl,rfl⟩
 | true =>
 cases g6:C8 0 0 (Bs b 18 2) with
 | false =>
  left
  refine⟨2,18,rfl,?_⟩;simp only[IH,Eo];rw[As];intro z;rw[z] at g6;exact absurd g6 (by decide)
 | true =>
 have u:Bs b 18 2=0:=by
  unfold C8 at g6;simp only[AB,A5] at g6;omega
 simp only[Ij,IH,Eo];have v:¬(Bs b 18 2≠0):=fun z=>z u;rw[Ar v,jc,jc,jc]
 by_cases h3:b.length=20+8*Bs b 12 2+4*Bs b 14 2+12*Bs b 16 2
 ·right
  have f:¬((b.length:Int)≠20+8*(Bs b 12 2:Int)+4*(Bs b 14 2:Int)+12*(Bs b 16 2:Int)):=by omega
  have w:¬(b.length≠20+8*Bs b 12 2+4*Bs b 14 2+12*Bs b 16 2):=by omega
  rw[Ar f,Ar w];unfold C8 Gh at g1 g2;unfold C8 at g3;simp only[AB,A5] at g1 g2 g3;exact⟨rfl,⟨g1.1,g2.1,g3.1,h3⟩,rfl⟩
 ·left
  have f:((b.length:Int)≠20+8*(Bs b 12 2:Int)+4*(Bs b 14 2:Int)+12*(Bs b 16 2:Int)):=by omega
  rw[As f,As h3];exact⟨3,20,rfl,rfl⟩
theorem sx{b:List UInt8}(h:vS b):Fit (B5 b):=by
 have a:(B5 b).pts.length=Bs b 12 2:=by unfold B5;simp
 have d:(B5 b).lines.length=Bs b 14 2:=by unfold B5;simp
 refine⟨fun p c => ?_,by rw[a];have:=h.p;omega,by rw[a];exact iS _ _,by rw[d];exact iS _ _⟩;unfold B5 at c;obtain⟨i,_,rfl⟩:=Ax.mp c;exact⟨yS _ _,yS _ _⟩
theorem i5(b:List UInt8):(B5 b).marks.length<65536:=by
 have:(B5 b).marks.length=Bs b 16 2:=by unfold B5;simp
 rw[this];exact iS _ _
inductive Read(b:List UInt8):List Pt->Option (Nat×Int)->List (Nat×List Nat)->Prop where
 | bad (pts:List Pt) (r p:Nat) (h:Dq b=.error ⟨r,p⟩):Read b pts (some (r,(p:Int))) []
 | ok (S:Plan) (R:Geo.Rules S) (h:Dq b=.ok S) (he:S=B5 b) (hz:∀k,k<S.marks.length->E5 S (S.marks.getD k m0).at_=true):Read b S.pts none ((An S.marks.length).map (gu S))
section
variable{P:AI}{w:AZ}{K:Lf}{mg:Lg}{base:B1}{ad:Adr}
inductive aaB(K:Lf)(ad:Adr)(vs:List V)(H:Hp)(Q:VK)(E:XK):Prop
 | mk (a:Ag)(b:List UInt8)(c0:vs=[.ref a])(c1:SqL K H a ((bz b).map V.int))(c2:∀H' c pts bk xs,aM H H'->Read b pts bk xs->zt ad H' c pts bk xs->Q (.ref c) H')
noncomputable abbrev adq:Stmt:=(top 50)
theorem aaH{b:List UInt8}(h:vS b):1<=(B5 b).w:=by have:=h.w;show 1<=Bs b 4 4;omega
theorem aaK{b:List UInt8}(h:vS b):1<=(B5 b).h:=by have:=h.h;show 1<=Bs b 8 4;omega
theorem afe(D:Def K mg "read_cartoon" adq ["data"])(gW:Fn P w K mg base 3 "judge_head" ["data"] (aaF K))(fg:Fn P w K mg base 3 "read_drawing" ["data"] (aaW K ad))(d7:Fn P w K mg base 9 "judge_drawing" ["drawing"] (ad5 ad))(bH:Fn P w K mg base 6 "give_marks_their_panes" ["drawing"] (zg ad))(Z:Kl P w K mg base 1 "Cartoon" ad.cartoon 2 gH):
  Fn P w K mg base 10 "read_cartoon" ["data"] (aaB K ad):=by
 refine D.fx ["data","broken","drawing"] ?_;rintro G f a0 A I s H vs Q E i ⟨a,b,rfl,hS,q⟩;refine⟨_,(kxs 1 G (kxF gW i (ab (pv 0) ah)) (kxf (aX (pv 1) (fun _=>rfl)) (kxK Z i (ab (pv 1) (ab (aP ah) ah))) (kxs 2 G (kxF fg i (ab (pv 0) ah)) (kxs 1 G (kxF d7 i (ab (pv 2) ah)) (kxf (aX (pv 1) (fun _=>rfl)) (kxK Z i (ab (pv 1) (ab (aP ah) ah))) (kxr (kxF bH i (ab (pv 2) ah)))))))),?_⟩;refine⟨_,rfl,a,bz b,rfl,hS,mf b,fun H1 p J _ m => ?_⟩;rcases oG b with⟨r,pl,M,e⟩|⟨M,n,e⟩
 ·rw[M] at m
  refine⟨_,rfl,_,.inl ⟨_,SqL.of m,rfl⟩,jO ⟨_,rfl,AN _,fun le g=>vv rfl ?_⟩⟩;have u:=ak (o:=.lst []) g;exact jG (b:=some (r,(pl:Int))) (xs := []) (pts := []) (u _ _ m) (qH ag) fun O S T v=>q O S _ _ _ (J.trans (u.trans T)) (.bad _ r pl e) v
 ·rw[M] at m
  refine⟨_,rfl,_,.inl ⟨_,SqL.of m,rfl⟩,jt ?_⟩;refine⟨_,rfl,a,b,rfl,J.seq hS,n.len,fun H2 d dx lp ll lm s2 hd => ?_⟩;have W:=J.trans s2;refine⟨_,rfl,d,dx,lp,ll,lm,_,rfl,hd,sx n,fun H3 l s3 _ y => ?_⟩;have z:=W.trans s3;rcases nF (B5 b) with⟨r,pl,e1,C⟩|⟨e1,C,lo,R,hz⟩
  ·rw[e1] at y
   refine⟨_,rfl,_,.inl ⟨_,SqL.of y,rfl⟩,jO ⟨_,rfl,AN _,fun le g=>vv rfl ?_⟩⟩;have u:=ak (o:=.lst []) g;exact jG (b:=some (r,(pl:Int))) (xs := []) (pts := []) (u _ _ y) (qH ag) fun O S T v=>q O S _ _ _ (z.trans (u.trans T)) (.bad _ r pl (by rw[e,C])) v
  ·rw[e1] at y
   have R:=R (aaH n) (aaK n);refine⟨_,rfl,_,.inl ⟨_,SqL.of y,rfl⟩,jt ⟨_,rfl,d,dx,lp,ll,lm,_,rfl,hd.same s3,sx n,lo,R,i5 b,fun k hk => ?_,fun H4 c s4 v => ?_⟩⟩
   ·obtain⟨j,_,e,_⟩:=pH R (hz k hk)
    exact⟨j,e⟩
   ·refine q H4 c _ _ _ (z.trans s4) ?_ v
    rcases aaf R hz with⟨r,pl,B,X⟩|⟨B,X⟩
    ·have Y:mm (B5 b)=[]:=by unfold mm;rw[B];rfl
     rw[B,Y];exact .bad _ r pl (by rw[e,C,X])
    ·have Y:mm (B5 b)=(An (B5 b).marks.length).map (gu (B5 b)):=by unfold mm;rw[B];rfl
     rw[B,Y];exact .ok (B5 b) R (by rw[e,C,X]) rfl hz
end
theorem fold_max(l:List Nat):∀a,a<=l.foldl max a/\(∀x∈l,x<=l.foldl max a)/\(l.foldl max a=a\/l.foldl max a∈l):=by
 induction l with
 | nil=>intro a;simp
 | cons b r e =>
  intro a;obtain⟨g,f,c⟩:=e (max a b);rw[BK];refine⟨by omega,fun x d => ?_,?_⟩
  ·rcases Am.mp d with rfl|d
   ·omega
   ·exact f x d
  ·rcases c with c|c
   ·rcases Kz a b with u|u
    ·right;rw[c,GU u];exact Ad
    ·left;rw[c,J6 u]
   ·right;exact Ac _ c
theorem fold_min(l:List Nat):∀a,l.foldl min a<=a/\(∀x∈l,l.foldl min a<=x)/\(l.foldl min a=a\/l.foldl min a∈l):=by
 induction l with
 | nil=>intro a;simp
 | cons b r e =>
  intro a;obtain⟨g,f,c⟩:=e (min a b);rw[BK];refine⟨by omega,fun x d => ?_,?_⟩
  ·rcases Am.mp d with rfl|d
   ·omega
   ·exact f x d
  ·rcases c with c|c
   ·rcases Kz a b with u|u
    ·left;rw[c,CW u]
    ·right;rw[c,Fw u];exact Ad
   ·right;exact Ac _ c
theorem aaP{l:List Nat}(g:0<l.length){m n:Int}(i:m∈l.map fun(k:Nat)=>(k:Int))(j:∀y,y∈l.map (fun(k:Nat)=>(k:Int))->y<=m)(o:n∈l.map fun(k:Nat)=>(k:Int))(p:∀y,y∈l.map (fun(k:Nat)=>(k:Int))->n<=y):m-n=(Fh l:Int):=by
 obtain⟨c,q,rfl⟩:=Ax.mp i;obtain⟨b,e,rfl⟩:=Ax.mp o;obtain⟨B,s,a3⟩:=fold_max l 0;obtain⟨C,u,v⟩:=fold_min l (l.headD 0);have f:∀x∈l,x<=c:=fun x d=>by have:=j (x:Int) (Ax.mpr ⟨x,d,rfl⟩);omega
 have c4:∀x∈l,b<=x:=fun x d=>by have:=p (x:Int) (Ax.mpr ⟨x,d,rfl⟩);omega
 have e1:l.foldl max 0=c:=by
  have:=s c q;rcases a3 with z|z
  ·omega
  ·have:=f _ z;omega
 have w:l.headD 0∈l:=by
  cases l with
  | nil=>simp at g
  | cons a r=>exact Ad
 have A:l.foldl min (l.headD 0)=b:=by
  have:=u b e;rcases v with z|z
  ·have:=c4 _ w;omega
  ·have:=c4 _ z;omega
 have le:=f b e;unfold Fh;rw[e1,A];omega
noncomputable def xp(pts:List Pt)(m:Nat)(x:Nat×List Nat):Gla.Item:=⟨x.1,Fh (x.2.map fun i=>(pts.getD i ⟨0,0⟩).x)+2*m,Fh (x.2.map fun i=>(pts.getD i ⟨0,0⟩).y)+2*m⟩
def eV(a:Adr)(H:Hp)(p:Ag)(x:JV):Prop:=∃dx,H p=some (.ins a.blank dx [("glass",.int (x.glass:Int)),("width",.int (x.w:Int)),("height",.int (x.h:Int))])
def adi(a:Adr)(H:Hp)(p:Ag)(x:BP):Prop:=∃dx,H p=some (.ins a.sheet dx [("glass",.int (x.glass:Int)),("width",.int (x.w:Int)),("height",.int (x.h:Int)),("turns",.int (x.turns:Int))])
section
variable{P:AI}{w:AZ}{K:Lf}{mg:Lg}{base:B1}{ad:Adr}
theorem c2m(z:Int):x3 2 z:=.inl ⟨by decide,by decide⟩
inductive afg(ad:Adr)(vs:List V)(H:Hp)(Q:VK)(E:XK):Prop
 | mk (p:Ag)(m:Nat)(pts:List Pt)(x:Nat×List Nat)(c0:vs=[.ref p,.int (m:Int)])(c1:oY ad H p pts x)(c2:0<x.2.length)(c3:x.2.length<1000000)(c4:∀H' q,aM H H'->eV ad H' q (xp pts m x)->Q (.ref q) H')
noncomputable abbrev afD:Stmt:=(top 63)
theorem ahm(D:Def K mg "blank_of" afD ["pane","margin"])(T:Txt K mg ad)(uS:Kl P w K mg base 1 "Blank" ad.blank 3 ux):Fn P w K mg base 3 "blank_of" ["pane","margin"] (afg ad):=by
 refine D.fx ["pane","margin","corner","xs","ys"] ?_;rintro X f a5 A a0 s H vs Q E hr ⟨p,m,pts,x,rfl,hp,Y,hm,q⟩;obtain⟨dx,Z,cs,e1,e,e3,e4⟩:=hp.ex;have at_:∀n,n<x.2.length->∃c k,cs[n]? = some c/\x.2[n]? = some k/\H c=some (ptO pts k):=fun n d =>
  ⟨cs[n]'(by omega),x.2[n],Aa _,Aa _,e4 n _ _ (Aa (by omega)) (Aa d)⟩
 refine⟨_,(az (da (i:=3) rfl X rfl rfl rfl (aY (aA (pv 0) rfl)) (d4 (own := [("corner",2)]) rfl) (fun _ _ _ _ _=>(kxo 2 X)) (fun _ _ _ _ _=>cP) (fun _ _ _ _ _=>(uH (uz (K:=K) rfl) (pv 2) aq (fun _ _=>rfl)))) (az (da (i:=4) rfl X rfl rfl rfl (aY (aA (pv 0) rfl)) (d4 (own := [("corner",2)]) rfl) (fun _ _ _ _ _=>(kxo 2 X)) (fun _ _ _ _ _=>cP) (fun _ _ _ _ _=>(uH (uz (K:=K) rfl) (pv 2) aq (fun _ _=>rfl)))) (kxr (kxK uS hr (ab (aA (pv 0) rfl) (ab (aV cw (aV dE (dJ (adf rfl) (by rfl) T.aa7 Fq (ab (pv 3) ah)) (dJ (ade rfl) (by rfl) T.aa6 Fp (ab (pv 3) ah))) (aV dF aq (pv 1))) (ab (aV cw (aV dE (dJ (adf rfl) (by rfl) T.aa7 Fq (ab (pv 4) ah)) (dJ (ade rfl) (by rfl) T.aa6 Fp (ab (pv 4) ah))) (aV dF aq (pv 1))) ah))))))),?_⟩;refine⟨_,rfl,fl e1 T.pane rfl ⟨Z,rfl,⟨_,SqL.of e⟩,fun r u=>iW (J:=Itl K Z) r x.2.length (fun n z=>aM H z/\z r=some (.lst ((x.2.take n).map fun k=>.int (((pts.getD k ⟨0,0⟩).x:Nat):Int)))) ⟨ak u,ag⟩ ?_ ?_ ?_⟩⟩
 ·rintro n H8 d ⟨a,_⟩
  obtain⟨c,k,l,B,a3⟩:=at_ n d;exact⟨_,.ref c,SqL.of (a _ _ e),by rw[Av,l];rfl⟩
 ·rintro n v H8 H9 d ⟨a,o⟩ ⟨rfl,hx⟩
  obtain⟨c,k,l,B,a3⟩:=at_ n d;have C:=hx _ (SqL.of (a _ _ e));rw[Av,l] at C;obtain rfl:V.ref c=v:=Ah C;refine⟨rfl,ke (dO (j:=0) rfl (SqT.of (a _ _ a3)) rfl ⟨_,o,?_,aI a u,?_⟩)⟩
  ·rw[Ab,AO];exact b9 (by omega)
  ·rw[ag,take_snoc B,Ay,DW]
 rintro H1 ⟨g,G⟩;rw[BB (Ak _)] at G;refine⟨⟨_,SqL.of (g _ _ e),by rw[Ab,e3];exact Ak _⟩,?_⟩;refine⟨_,rfl,fl (g _ _ e1) T.pane rfl ⟨Z,rfl,⟨_,SqL.of (g _ _ e)⟩,fun I M=>iW (J:=Itl K Z) I x.2.length (fun n z=>aM H1 z/\z I=some (.lst ((x.2.take n).map fun k=>.int (((pts.getD k ⟨0,0⟩).y:Nat):Int)))) ⟨ak M,ag⟩ ?_ ?_ ?_⟩⟩
 ·rintro n H8 d ⟨a,_⟩
  obtain⟨c,k,l,B,a3⟩:=at_ n d;exact⟨_,.ref c,SqL.of (a _ _ (g _ _ e)),by rw[Av,l];rfl⟩
 ·rintro n v H8 H9 d ⟨a,o⟩ ⟨rfl,hx⟩
  obtain⟨c,k,l,B,a3⟩:=at_ n d;have C:=hx _ (SqL.of (a _ _ (g _ _ e)));rw[Av,l] at C;obtain rfl:V.ref c=v:=Ah C;refine⟨rfl,ke (dO (j:=1) rfl (SqT.of (a _ _ (g _ _ a3))) rfl ⟨_,o,?_,aI a M,?_⟩)⟩
  ·rw[Ab,AO];exact b9 (by omega)
  ·rw[ag,take_snoc B,Ay,DW]
 rintro H2 ⟨s2,O⟩;rw[BB (Ak _)] at O;refine⟨⟨_,SqL.of (s2 _ _ (g _ _ e)),by rw[Ab,e3];exact Ak _⟩,?_⟩;have R:=g.trans s2;have a4:=s2 _ _ G;have lx:SqL K H2 r (((x.2.map fun k=>(pts.getD k ⟨0,0⟩).x).map fun(k:Nat)=>(k:Int)).map V.int):=by rw[Bd,Bd];exact SqL.of a4
 have ly:SqL K H2 I (((x.2.map fun k=>(pts.getD k ⟨0,0⟩).y).map fun(k:Nat)=>(k:Int)).map V.int):=by rw[Bd,Bd];exact SqL.of O
 have S:0<((x.2.map fun k=>(pts.getD k ⟨0,0⟩).x).map fun(k:Nat)=>(k:Int)).length:=by rw[Ab,Ab];exact Y
 have W:0<((x.2.map fun k=>(pts.getD k ⟨0,0⟩).y).map fun(k:Nat)=>(k:Int)).length:=by rw[Ab,Ab];exact Y
 refine⟨_,rfl,fl (R _ _ e1) T.pane rfl ?_⟩;refine⟨_,rfl,r,_,rfl,lx,S,fun m1 i1 j1 => ?_⟩;refine⟨_,rfl,r,_,rfl,lx,S,fun m2 i2 j2 => ?_⟩;refine⟨_,_,rfl,rfl,_,rfl,_,_,rfl,rfl,c2m _,_,_,rfl,rfl,?_⟩;refine⟨_,rfl,I,_,rfl,ly,W,fun m3 i3 j3 => ?_⟩;refine⟨_,rfl,I,_,rfl,ly,W,fun m4 i4 j4 => ?_⟩;refine⟨_,_,rfl,rfl,_,rfl,_,_,rfl,rfl,c2m _,_,_,rfl,rfl,?_⟩;have w1:=aaP (by rw[Ab];exact Y) i1 j1 i2 j2;have w2:=aaP (by rw[Ab];exact Y) i3 j3 i4 j4;refine xZ ?_;intro px b n1 n2 ne;refine⟨px,b,[.int (x.1:Int),.int (m1-m2+2*(m:Int)),.int (m3-m4+2*(m:Int))],rfl,rfl,ag,rfl,?_⟩;rw[bQ];have s9:aM H2 (upd (upd H2 b (.own px)) px (.ins ad.blank b (ux [.int (x.1:Int),.int (m1-m2+2*(m:Int)),.int (m3-m4+2*(m:Int))]))):=(ak n2).trans (ak (by rw[aw (Ne.symm ne)];exact n1));refine q _ px (R.trans s9) ⟨b,?_⟩;rw[ag,w1,w2];unfold xp;show some (HO.ins ad.blank b [("glass",.int (x.1:Int)),("width",.int ((Fh _:Int)+2*(m:Int))),("height",.int ((Fh _:Int)+2*(m:Int)))])=_;simp only[Int.natCast_add,Int.natCast_mul];rfl
end
end Gs
namespace Gs
open PySem PySem.Spec PyProof.Rows L2
structure LO{α:Type}(R:Hp->Ag->α->Prop)(H:Hp)(l:Ag)(xs:List α)(ps:List Ag):Prop where
 lst:H l=some (.lst (ps.map V.ref))
 len:ps.length=xs.length
 at_:∀(j:Nat)(p:Ag)(x:α),ps[j]? = some p->xs[j]? = some x->R H p x
theorem LO.get{α:Type}{R:Hp->Ag->α->Prop}{H:Hp}{l:Ag}{xs:List α}{ps:List Ag}(h:LO R H l xs ps){i:Nat}{x:α}(a:xs[i]? = some x):∃p,(ps.map V.ref)[i]? = some (.ref p)/\R H p x:=by
 have c:=(Aj.mp a).1;have b:i<ps.length:=by rw[h.len];exact c
 exact⟨ps[i],by rw[Av,Aa b];rfl,h.at_ i _ _ (Aa b) a⟩
theorem LO.same{α:Type}{R:Hp->Ag->α->Prop}(b:∀H a p x,aM H a->R H p x->R a p x){H a:Hp}{l:Ag}{xs:List α}{ps:List Ag}(h:LO R H l xs ps)(s:aM H a):LO R a l xs ps :=
 ⟨s _ _ h.lst,h.len,fun j p x e1 c=>b _ _ _ _ s (h.at_ j p x e1 c)⟩
theorem LO.nil{α:Type}{R:Hp->Ag->α->Prop}{H:Hp}{l:Ag}(h:H l=some (.lst [])):LO R H l [] []:=⟨h,rfl,fun j p x e=>by simp at e⟩
def aft{α:Type}(R:Hp->Ag->α->Prop):Prop:=∀(H a:Hp)(p:Ag)(x:α),(∀C dx b,H p=some (.ins C dx b)->a p=some (.ins C dx b))->R H p x->R a p x
theorem aft.same{α:Type}{R:Hp->Ag->α->Prop}(h:aft R):∀H a p x,aM H a->R H p x->R a p x:=fun H a p x s r=>h H a p x (fun C dx b e=>s _ _ e) r
theorem cT(a:Adr):aft (eV a):=fun H b p x k ⟨dx,e⟩=>⟨dx,k _ _ _ e⟩
theorem mF(a:Adr):aft (adi a):=fun H b p x k ⟨dx,e⟩=>⟨dx,k _ _ _ e⟩
theorem LO.snoc{α:Type}{R:Hp->Ag->α->Prop}(d:aft R){H:Hp}{l q:Ag}{xs:List α}{ps:List Ag}{x:α}(h:LO R H l xs ps)(f:R H q x):LO R (upd H l (.lst (ps.map V.ref++[.ref q]))) l (xs++[x]) (ps++[q]):=by
 have c:∀{p:Ag}{y:α},R H p y->R (upd H l (.lst (ps.map V.ref++[.ref q]))) p y:=fun r=>d _ _ _ _ (fun C dx g e=>by rw[aw (d5 e h.lst)];exact e) r;refine⟨by rw[ag,Ay];rfl,by rw[Al,Al,h.len];rfl,fun j p y e1 b => ?_⟩
 by_cases hj:j<ps.length
 ·rw[A1 hj] at e1
  rw[A1 (by rw[<- h.len];exact hj)] at b;exact c (h.at_ j p y e1 b)
 ·have a:j=ps.length:=by
   have:=(Aj.mp e1).1;rw[Al] at this;simp at this;omega
  rw[a,Aw (Ak _),BE] at e1;rw[a,h.len,Aw (Ak _),BE] at b;obtain rfl:q=p:=Ah e1;obtain rfl:x=y:=Ah b;exact c f
theorem lM{z:Int}{n:Nat}(h:SheetNeutral.nat z=some n):z=(n:Int):=by
 unfold SheetNeutral.nat at h
 by_cases hz:z<0
 ·rw[As hz] at h;cases h
 ·rw[Ar hz] at h
  have:=Ah h;omega
theorem mQ:∀(d:List Int)(c:List BP),SheetNeutral.sheets d=some c->d.length=4*c.length/\∀(i:Nat)(s:BP),c[i]? = some s->d[4*i]? = some (s.glass:Int)/\d[4*i+1]? = some (s.w:Int)/\d[4*i+2]? = some (s.h:Int)/\d[4*i+3]? = some (s.turns:Int)
 | [],c,h=>by
  obtain rfl:[]=c:=Ah h;exact⟨rfl,fun i s e=>by simp at e⟩
 | [_],c,h=>by unfold SheetNeutral.sheets at h;cases h
 | [_,_],c,h=>by unfold SheetNeutral.sheets at h;cases h
 | [_,_,_],c,h=>by unfold SheetNeutral.sheets at h;cases h
 | g::w::hh::t::r,c,h=>by
  unfold SheetNeutral.sheets at h;simp only[bind,Option.bind_eq_some_iff] at h;obtain⟨l,j,g',m,q,n,h',f,t',o,e⟩:=h;obtain rfl:=Ah e;obtain⟨a,b⟩:=mQ r l j;refine⟨by simp[a];omega,fun i s e => ?_⟩;rw[lM m,lM n,lM f,lM o];cases i with
  | zero =>
   obtain rfl:=Ah e;exact⟨rfl,rfl,rfl,rfl⟩
  | succ i =>
   have:=b i s e;have p:4*(i+1)=4*i+4:=by omega
   rw[p];exact this
section
variable{P:AI}{w:AZ}{K:Lf}{mg:Lg}{base:B1}{ad:Adr}
inductive adP(vs:List V)(H:Hp)(Q:VK)(E:XK):Prop
 | mk (n:Nat)(c0:vs=[.int (n:Int)])(c1:Q (.bl (C8 1 Ja n)) H)
noncomputable abbrev afz:Stmt:=(top 67)
theorem ahi(D:Def K mg "is_length" afz ["number"])(T:Txt K mg ad):Fn P w K mg base 1 "is_length" ["number"] adP:=by
 refine D.fx ["number"] ?_;rintro e f b A a s H vs Q E g ⟨n,rfl,q⟩;refine⟨_,(kxr (gI (bg agu (pv 0) aq (bj _)) (gv (bg wZ (pv 0) (kxG T.cF) (bj _))))),?_⟩;unfold C8 Ja at q;have c:decide ((1:Int)<=(n:Int))=decide (1<=n):=Ba.mpr ⟨fun h=>by omega,fun h=>by omega⟩;have d:decide ((n:Int)<=(16777215:Int))=decide (n<=16777215):=Ba.mpr ⟨fun h=>by omega,fun h=>by omega⟩;refine⟨_,rfl,_,_,rfl,rfl,_,rfl,?_⟩;rw[c];refine bX (fun z => ?_) (fun z => ?_)
 ·rw[z,BW] at q
  refine⟨_,rfl,_,_,rfl,rfl,?_⟩;rw[<- d] at q;exact q
 ·rw[Bv] at z
  rw[z,Bp] at q;exact q
inductive ah2(K:Lf)(ad:Adr)(vs:List V)(H:Hp)(Q:VK)(E:XK):Prop
 | mk (a:Ag)(ns:List Int)(st:Nat)(x:BP)(c0:vs=[.ref a,.int (st:Int)])(c1:SqL K H a (ns.map V.int))(c2:ns[st]? = some (x.glass:Int))(c3:ns[st+1]? = some (x.w:Int))(c4:ns[st+2]? = some (x.h:Int))(c5:ns[st+3]? = some (x.turns:Int))(c6:∀H' q,aM H H'->adi ad H' q x->Q (.ref q) H')
noncomputable abbrev ai1:Stmt:=(top 65)
theorem aiI(D:Def K mg "read_sheet" ai1 ["numbers","start"])(l:Kl P w K mg base 1 "Sheet" ad.sheet 4 zZ):Fn P w K mg base 3 "read_sheet" ["numbers","start"] (ah2 K ad):=by
 refine D.fx ["numbers","start"] ?_;rintro C f m A g s H vs Q E n ⟨a,i,st,x,rfl,c,o,p,r,u,q⟩;refine⟨_,(kxr (kxK l n (ab (kxI (pv 0) (pv 1)) (ab (kxI (pv 0) (aV cw (pv 1) aq)) (ab (kxI (pv 0) (aV cw (pv 1) aq)) (ab (kxI (pv 0) (aV cw (pv 1) aq)) ah)))))),?_⟩;have d:∀(k:Nat)(z:Int),i[k]? = some z->(i.map V.int)[k]? = some (.int z):=fun k z e=>by rw[Av,e];rfl
 refine⟨_,rfl,_,rfl,a,_,_,_,rfl,rfl,c,aQ (d _ _ o),?_⟩;refine⟨_,rfl,_,rfl,_,_,rfl,rfl,a,_,_,_,rfl,rfl,c,aQ (d _ _ p),?_⟩;refine⟨_,rfl,_,rfl,_,_,rfl,rfl,a,_,_,_,rfl,rfl,c,aQ (d _ _ r),?_⟩;refine⟨_,rfl,_,rfl,_,_,rfl,rfl,a,_,_,_,rfl,rfl,c,aQ (d _ _ u),?_⟩;refine xZ ?_;intro j b v y B;refine⟨j,b,[.int (x.glass:Int),.int (x.w:Int),.int (x.h:Int),.int (x.turns:Int)],rfl,rfl,ag,rfl,?_⟩;rw[bQ];refine q _ j ((ak y).trans (ak (by rw[aw (Ne.symm B)];exact v))) ⟨b,?_⟩;rw[ag];rfl
inductive ad2(K:Lf)(ad:Adr)(vs:List V)(H:Hp)(Q:VK)(E:XK):Prop
 | mk (a:Ag)(ns:List Int)(shs:List BP)(c0:vs=[.ref a])(c1:SqL K H a (ns.map V.int))(c2:SheetNeutral.sheets ns=some shs)(c3:shs.length<65536)(c4:∀H' l ps,aM H H'->LO (adi ad) H' l shs ps->Q (.ref l) H')
noncomputable abbrev agb:Stmt:=(top 64)
theorem ag9(D:Def K mg "read_sheets" agb ["numbers"])(T:Txt K mg ad)(z:Fn P w K mg base 3 "read_sheet" ["numbers","start"] (ah2 K ad)):Fn P w K mg base 4 "read_sheets" ["numbers"] (ad2 K ad):=by
 refine D.fx ["numbers","start"] ?_;rintro m f B A j s H vs Q E C ⟨a,o,b,rfl,r,G,W,q⟩;obtain⟨ln,at_⟩:=mQ o b G;refine⟨_,(kxr (x9 rfl m (js (by rfl) T.eM (ab aq (ab (kxL T.cy (pv 0)) (ab (kxG T.bF) ah)))) (d4 (own := [("start",1)]) rfl) (fun _ _ _ _ _=>(kxo 1 m)) (fun _ _ _ _ _=>cP) (fun _ _ _ _ _=>(kxF z C (ab (pv 0) (ab (pv 1) ah)))))),?_⟩;refine⟨_,rfl,a,_,rfl,.inl r,0,_,4,b.length,rfl,?_,fun c u=>iW (J:=Itc 0 4 b.length) c b.length (fun n y=>aM H y/\∃ps,LO (adi ad) y c (b.take n) ps) ⟨ak u,[],.nil ag⟩ ?_ ?_ ?_⟩
 ·have:=rgc (i:=0) (n:=b.length) (c:=4) (.inl rfl) (by omega) (by omega)
  rw[Ab,ln];have e:(0:Int)+4*(b.length:Int)=((4*b.length:Nat):Int):=by omega
  rw[e] at this;exact this
 ·rintro n H1 d _
  exact d
 ·rintro n v H1 X d ⟨g,ps,lo⟩ ⟨rfl,rfl⟩
  obtain⟨I,M,O,R⟩:=at_ n _ (Aa d);refine⟨rfl,ke ⟨_,rfl,_,rfl,a,o,4*n,b[n],?_,g.seq r,I,M,O,R,fun Y p l S=>⟨_,l _ _ lo.lst,?_,?_,ps++[p],?_⟩⟩⟩
  ·have e:(0:Int)+((n:Nat):Int)*4=((4*n:Nat):Int):=by omega
   show[V.ref a,V.int ((0:Int)+((n:Nat):Int)*4)]=_;rw[e]
  ·rw[Ab,lo.len,AO];exact aT (by omega)
  ·exact aI (g.trans l) u
  ·rw[take_snoc (Aa d)]
   exact(lo.same (mF ad).same l).snoc (mF ad) S
 ·rintro H1 ⟨g,ps,lo⟩
  rw[BB (Ak _)] at lo;exact⟨Ak _,q H1 c ps g lo⟩
inductive ahX(ad:Adr)(vs:List V)(H:Hp)(Q:VK)(E:XK):Prop
 | mk (l:Ag)(shs:List BP)(ps:List Ag)(c0:vs=[.ref l])(c1:LO (adi ad) H l shs ps)(c2:∀H',aM H H'->Q (abl (CQ (fun(_:Nat) (x:BP) => !x.ok) shs)) H')
noncomputable abbrev ajo:Stmt:=(top 66)
noncomputable def sV(x:BP):List (AW×V) := [("glass",.int (x.glass:Int)),("width",.int (x.w:Int)),("height",.int (x.h:Int)),("turns",.int (x.turns:Int))]
theorem ajq{x:BP}:(sV x).lookup ("glass" : AW)=some (.int (x.glass:Int)):=by unfold sV;rfl
theorem ahG{x:BP}:(sV x).lookup ("width" : AW)=some (.int (x.w:Int)):=by unfold sV;rfl
theorem air{x:BP}:(sV x).lookup ("height" : AW)=some (.int (x.h:Int)):=by unfold sV;rfl
theorem ajk{x:BP}:(sV x).lookup ("turns" : AW)=some (.int (x.turns:Int)):=by unfold sV;rfl
noncomputable def sh0:Gla.Sheet:=⟨0,0,0,0⟩
theorem ah0(D:Def K mg "first_wrong_sheet" ajo ["sheets"])(T:Txt K mg ad)(G:Fn P w K mg base 1 "is_length" ["number"] adP):Fn P w K mg base 2 "first_wrong_sheet" ["sheets"] (ahX ad):=by
 refine D.fx ["sheets","k","sheet"] ?_;rintro I f X A n s H vs Q E J ⟨l,b,ps,rfl,lo,q⟩;refine⟨_,(az (a8 AJ rfl (eY (by rfl) T.aZ (ab (pv 0) ah)) (dQ rfl (aL (kxo 1 I) (aL (kxo 2 I) cj))) (kxf ((qr (kxg (aA (pv 2) rfl) (kxG T.di)) (jv (kxg (aA (pv 2) rfl) aq)))).pt (pv 1) (aE (cg ((qr (oN (aX (kxF G J (ab (aA (pv 2) rfl) ah)) (fun _=>rfl))) (jv (oN (aX (kxF G J (ab (aA (pv 2) rfl) ah)) (fun _=>rfl)))))).pt (kxr (pv 1)) aR)))) (kxr eI)),?_⟩;rw[ka sh0] at q;refine⟨_,rfl,l,_,rfl,SqL.of lo.lst,dN (K:=K) (a:=l) (xs:=ps.map V.ref) (fun i σ j=>(∃u v,σ=[some (.ref l),u,v])/\aM H j/\∀e,e<i->(!(b.getD e sh0).ok)=false)
  ⟨⟨none,none,rfl⟩,aM.refl H,fun e he=>absurd he (Bt e)⟩ (fun i σ j _ ⟨_,e,_⟩=>SqL.of (e _ _ lo.lst)) ?_ ?_⟩
 ·rintro i v σ j t r ⟨⟨u,u2,rfl⟩,y,m⟩ Y
  have B:i<b.length:=by
   have:=(Aj.mp r).1;rw[Ab,lo.len] at this;exact this
  obtain⟨p,Z,dx,hp⟩:=lo.get (Aa B);rw[Z] at r;obtain rfl:=Ah r;refine⟨t,_,rfl,SqT.of ag,rfl,_,_,rfl,_,_,rfl,rfl,?_⟩;have C:=y.trans (ak (o:=.tup [.int (i:Nat),.ref p]) Y);generalize upd j t (.tup [.int (i:Nat),.ref p])=H1 at *
  have d:H1 p=some (.ins ad.sheet dx (sV b[i])):=C _ _ hp;have M:b.getD i sh0=b[i]:=getD_at _ B;have c:(b[i]).ok=false->Q (.int (i:Int)) H1:=fun z=>by
   have:aO b.length (fun i => !(b.getD i sh0).ok)=some i:=aW B (by rw[M,z];rfl) m;rw[this] at q;exact q H1 C
  have go:(b[i]).ok=true->∀e,e<i+1->(!(b.getD e sh0).ok)=false:=fun z=>bY (p:=fun e => !(b.getD e sh0).ok) m (by show(!(b.getD i sh0).ok)=false;rw[M,z];rfl);have g:(decide ((b[i]).glass<=65535)=false\/C8 1 Ja (b[i]).w=false\/C8 1 Ja (b[i]).h=false\/decide ((b[i]).turns<=1)=false)->(b[i]).ok=false:=fun z=>by
   unfold Jb;rcases z with z|z|z|z <;> rw[z] <;> simp
  have dg:decide ((65535:Int)<((b[i]).glass:Int)) = !decide ((b[i]).glass<=65535):=by rw[<- DY];exact Ba.mpr ⟨fun h=>by omega,fun h=>by omega⟩
  have dt:decide ((1:Int)<((b[i]).turns:Int)) = !decide ((b[i]).turns<=1):=by rw[<- DY];exact Ba.mpr ⟨fun h=>by omega,fun h=>by omega⟩
  refine⟨_,rfl,fl d T.sheet ajq ⟨_,_,rfl,rfl,_,rfl,?_⟩⟩;rw[dg];refine bX (fun z=>jO ⟨_,rfl,c (g (.inl (by simpa using z)))⟩) (fun O => ?_);refine⟨_,rfl,fl d T.sheet ajk ⟨_,_,rfl,rfl,_,rfl,?_⟩⟩;rw[dt];refine bX (fun z=>⟨_,rfl,c (g (.inr (.inr (.inr (by simpa using z)))))⟩) (fun R => ?_);refine⟨_,rfl,fl d T.sheet ahG ⟨(b[i]).w,rfl,_,rfl,bX (fun z=>jO ⟨_,rfl,c (g (.inr (.inl (by simpa using z))))⟩) (fun S => ?_)⟩⟩;refine⟨_,rfl,fl d T.sheet air ⟨(b[i]).h,rfl,_,rfl,bX (fun z=>⟨_,rfl,c (g (.inr (.inr (.inl (by simpa using z)))))⟩) (fun W => ?_)⟩⟩;refine⟨⟨_,_,rfl⟩,C,go ?_⟩;unfold Jb;rw[Bv,EO] at O R S W;rw[O,R,S,W];rfl
 ·rintro σ j ⟨⟨u,v,rfl⟩,y,m⟩
  rw[Ab,lo.len] at m;rw[a9 m] at q;exact q j y
end
open Gla (Plan Pt Mark)
structure aeJ(ad:Adr)(H:Hp)(o:Ag)(x:List Int×List JV×List BP)(lr lb ls:Ag):Prop where
 ob:∃dx,H o=some (.ins ad.order dx [("refusal",.ref lr),("blanks",.ref lb),("sheets",.ref ls)])
 rf:H lr=some (.lst (x.1.map V.int))
 bl:∃pb,LO (eV ad) H lb x.2.1 pb
 sh:∃ps,LO (adi ad) H ls x.2.2 ps
noncomputable def gr(m:Nat)(b:List UInt8)(a:List BP):List Int×List JV×List BP :=
 if 65535<m then ([-1],[],[]) else if 131072<b.length\/1024<a.length then ([-6],[],[]) else match Dq b with
  | .error e=>([-5,(e.rule:Int),(e.place:Int)],[],[])
  | .ok S=>match CQ (fun(_:Nat) (x:BP) => !x.ok) a with
   | some k=>([-7,(k:Int)],[],[])
   | none=>([],DR S m,a)
theorem vD{S:Plan}(R:Geo.Rules S)(hz:∀k,k<S.marks.length->E5 S (S.marks.getD k m0).at_=true)(m:Nat):DR S m=(An S.marks.length).map fun k=>xp S.pts m (gu S k):=by
 unfold DR;have b:S.panes.length=S.marks.length:=by unfold Plan.panes;rw[Ab]
 refine F0 (by rw[Ab,DC,b,Ab,AG,Gf]) fun k f a => ?_;rw[Ab,AG] at a;obtain⟨l,e1,c,_⟩:=pT R a (hz k a);rw[Dt,Dt,D2,c,Hc];have d:S.panes[k]'(by rw[b];exact a)=some l:=by
  unfold Plan.panes;rw[Dt];unfold Plan.pane at e1;rw[Aa a] at e1;exact e1
 rw[d];have e:(S.marks.getD k m0).glass=(S.marks[k]).glass:=by rw[getD_at _ a]
 rw[e];rfl
section
variable{P:AI}{w:AZ}{K:Lf}{mg:Lg}{base:B1}{ad:Adr}
theorem zQ{H:Hp}{Q:VK}{b c d:Ag}{pb ps:List Ag}{x:List Int×List JV×List BP}(i:H b=some (.lst (x.1.map V.int)))(j:LO (eV ad) H c x.2.1 pb)(l:LO (adi ad) H d x.2.2 ps)(q:∀f o b c d,aM H f->aeJ ad f o x b c d->Q (.ref o) f):
  ∀a dx,H a=AK->H dx=AK->dx≠a->Q (.ref a) (upd (upd H dx (.own a)) a (.ins ad.order dx (kD [.ref b,.ref c,.ref d]))):=by
 intro a dx m g n;have e:aM H (upd (upd H dx (.own a)) a (.ins ad.order dx (kD [.ref b,.ref c,.ref d]))):=(ak g).trans (ak (by rw[aw (Ne.symm n)];exact m));exact q _ a b c d e ⟨⟨dx,ag⟩,e _ _ i,⟨pb,j.same (cT ad).same e⟩,⟨ps,l.same (mF ad).same e⟩⟩
theorem pJ{H:Hp}{Q:VK}{l:List Int}{a b c:Ag}(q:∀d o a b c,aM H d->aeJ ad d o (l,[],[]) a b c->Q (.ref o) d)(i:H a=AK)(j:(upd H a (.lst (l.map V.int))) b=AK)(m:(upd (upd H a (.lst (l.map V.int))) b (.lst [])) c=AK):
  ∀e dx,(upd (upd (upd H a (.lst (l.map V.int))) b (.lst [])) c (.lst [])) e=AK->(upd (upd (upd H a (.lst (l.map V.int))) b (.lst [])) c (.lst [])) dx=AK->dx≠e ->
   Q (.ref e) (upd (upd (upd (upd (upd H a (.lst (l.map V.int))) b (.lst [])) c (.lst [])) dx (.own e)) e (.ins ad.order dx (kD [.ref a,.ref b,.ref c]))):=by
 have n:=ak (o:=.lst (l.map V.int)) i;have g:=ak (o:=.lst []) j;have f:=ak (o:=.lst []) m;exact zQ (x:=(l,[],[])) (pb := []) (ps := []) (f _ _ (g _ _ ag)) (.nil (f _ _ ag)) (.nil ag) fun d o a b c p r=>q d o a b c (n.trans (g.trans (f.trans p))) r
inductive zw(K:Lf)(ad:Adr)(vs:List V)(H:Hp)(Q:VK)(E:XK):Prop
 | mk (m:Nat)(a sa:Ag)(b:List UInt8)(ns:List Int)(shs:List BP)(c0:vs=[.int (m:Int),.ref a,.ref sa])(c1:SqL K H a ((bz b).map V.int))(c2:SqL K H sa (ns.map V.int))(c3:SheetNeutral.sheets ns=some shs)(c4:∀H' o lr lb ls,aM H H'->aeJ ad H' o (gr m b shs) lr lb ls->Q (.ref o) H')
noncomputable abbrev ac2:Stmt:=(top 88)
theorem ae5(D:Def K mg "look" ac2 ["margin","cartoon","sheet_numbers"])(T:Txt K mg ad)(fh:Fn P w K mg base 10 "read_cartoon" ["data"] (aaB K ad))(f7:Fn P w K mg base 4 "read_sheets" ["numbers"] (ad2 K ad))(cq:Fn P w K mg base 2 "first_wrong_sheet" ["sheets"] (ahX ad))(kR:Fn P w K mg base 3 "blank_of" ["pane","margin"] (afg ad))(jj:Kl P w K mg base 1 "Order" ad.order 3 kD):Fn P w K mg base 11 "look" ["margin","cartoon","sheet_numbers"] (zw K ad):=by
 refine D.fx ["margin","cartoon","sheet_numbers","judged","stock","wrong","pane"] ?_;rintro nd f b8 A af s H vs Q E O ⟨m,a,sa,b,ns,d,rfl,hA,hN,hs,q⟩;obtain⟨ln,_⟩:=mQ ns d hs;refine⟨_,(kxf (kxg (pv 0) (kxG T.cG)) (kxK jj O (ab (aP (ab (uE mh aq) ah)) (ab (aP ah) (ab (aP ah) ah)))) (kxf ((qr (kxg (kxL T.cy (pv 1)) (kxG T.dj)) (jv (kxg (kxL T.cy (pv 2)) (aV dF (kxG T.bF) (kxG T.cH)))))).pt (kxK jj O (ab (aP (ab (uE mh aq) ah)) (ab (aP ah) (ab (aP ah) ah)))) (kxs 3 nd (kxF fh O (ab (pv 1) ah)) (kxf (aX (aA (pv 3) rfl) (fun _=>rfl)) (kxK jj O (ab (aV rj (aP (ab (uE mh aq) ah)) (aA (pv 3) rfl)) (ab (aP ah) (ab (aP ah) ah)))) (kxs 4 nd (kxF f7 O (ab (pv 2) ah)) (kxs 5 nd (kxF cq O (ab (pv 4) ah)) (kxf (gg (mC (pv 5))) (kxK jj O (ab (aP (ab (uE mh aq) (ab (pv 5) ah))) (ab (aP ah) (ab (aP ah) ah)))) (kxr (kxK jj O (ab (aP ah) (ab (x9 rfl nd (aY (aA (pv 3) rfl)) (d4 (own := [("pane",6)]) rfl) (fun _ _ _ _ _=>(kxo 6 nd)) (fun _ _ _ _ _=>cP) (fun _ _ _ _ _=>(kxF kR O (ab (pv 6) (ab (pv 0) ah))))) (ab (pv 4) ah)))))))))))),?_⟩;have dm:decide ((65535:Int)<(m:Int))=decide (65535<m):=Ba.mpr ⟨fun h=>by omega,fun h=>by omega⟩;refine⟨_,rfl,_,_,rfl,rfl,_,rfl,?_⟩;rw[dm];refine bX (fun z => ?_) (fun z1 => ?_)
 ·have z':65535<m:=AV z
  have e:gr m b d=([-1],[],[]):=by unfold gr;rw[As z']
  rw[e] at q;refine⟨_,rfl,by show 1<=sizeLine;decide,fun j g=>⟨AN _,fun B p=>⟨AN _,fun C u=>vv rfl ?_⟩⟩⟩;exact pJ (l := [-1]) q g p u
 have W:¬65535<m:=fun y=>z1 (AD y);have a0:(131072<b.length\/1024<d.length)->∀j B C,H j=AK->(upd H j (.lst [.int (-6)])) B=AK->(upd (upd H j (.lst [.int (-6)])) B (.lst [])) C=AK ->
   ∀px dx,(upd (upd (upd H j (.lst [.int (-6)])) B (.lst [])) C (.lst [])) px=AK->(upd (upd (upd H j (.lst [.int (-6)])) B (.lst [])) C (.lst [])) dx=AK->dx≠px ->
    Q (.ref px) (upd (upd (upd (upd (upd H j (.lst [.int (-6)])) B (.lst [])) C (.lst [])) dx (.own px)) px (.ins ad.order dx (kD [.ref j,.ref B,.ref C]))):=by
  intro z j B C g p u;have e:gr m b d=([-6],[],[]):=by unfold gr;rw[Ar W,As z]
  rw[e] at q;exact pJ (l := [-6]) q g p u
 have ai:((bz b).map V.int).length=b.length:=by unfold bz;rw[Ab,Ab]
 have aj:(ns.map V.int).length=4*d.length:=by rw[Ab,ln]
 refine⟨_,rfl,a,_,rfl,.inl hA,_,_,rfl,rfl,_,rfl,?_⟩;rw[ai];refine bX (fun z=>jO ⟨_,rfl,by show 1<=sizeLine;decide,fun j g=>⟨AN _,fun B p=>⟨AN _,fun C u=>vv rfl ?_⟩⟩⟩) (fun z2 => ?_)
 ·exact a0 (.inl (by have:=AV z;omega)) j B C g p u
 refine⟨_,rfl,sa,_,rfl,.inl hN,_,_,rfl,rfl,c4 _,_,_,rfl,rfl,_,rfl,?_⟩;rw[aj];refine bX (fun z=>⟨_,rfl,by show 1<=sizeLine;decide,fun j g=>⟨AN _,fun B p=>⟨AN _,fun C u=>vv rfl ?_⟩⟩⟩) (fun z3 => ?_)
 ·exact a0 (.inr (by have:=AV z;omega)) j B C g p u
 have Y:¬(131072<b.length\/1024<d.length):=by
  have y2:¬((131072:Int)<(b.length:Int)):=fun y=>z2 (AD y);have y3:¬((4*1024:Int)<((4*d.length:Nat):Int)):=fun y=>z3 (AD y);omega
 refine⟨_,rfl,a,b,rfl,hA,fun H1 c pts bk xs s1 rd ca => ?_⟩;obtain⟨dx,au,lp,ps,c1,c2,c3⟩:=ca.ex;cases rd with
 | bad pts r pl ej =>
  have e:gr m b d=([-5,(r:Int),(pl:Int)],[],[]):=by unfold gr;rw[Ar W,Ar Y,ej]
  rw[e] at q;refine⟨_,rfl,fl c1 T.cartoon rfl ⟨_,.inl ⟨_,SqL.of c2,rfl⟩,jO ?_⟩⟩;refine⟨_,rfl,by show 1<=sizeLine;decide,fun l5 av => ?_⟩;have G:=ak (o:=.lst [.int (-5)]) av;refine⟨_,rfl,fl (G _ _ c1) T.cartoon rfl ⟨l5,au,_,_,rfl,rfl,ag,G _ _ c2,by show 3<=sizeLine;decide,fun j g=>⟨AN _,fun B p=>⟨AN _,fun C u=>vv rfl ?_⟩⟩⟩⟩;exact pJ (l := [-5,(r:Int),(pl:Int)]) (fun X o j B C s9 oa=>q X o j B C (s1.trans (G.trans s9)) oa) g p u
 | ok S R ej he hz =>
  refine⟨_,rfl,fl c1 T.cartoon rfl ⟨_,.inl ⟨_,SqL.of c2,rfl⟩,jt ?_⟩⟩;refine⟨_,rfl,sa,ns,d,rfl,s1.seq hN,hs,by omega,fun H2 l ax s2 lo => ?_⟩;refine⟨_,rfl,l,d,ax,rfl,lo,fun H3 s3 => ?_⟩;have a3:=s1.trans (s2.trans s3);cases hw:CQ (fun(_:Nat) (x:BP) => !x.ok) d with
  | some k =>
   have e:gr m b d=([-7,(k:Int)],[],[]):=by unfold gr;rw[Ar W,Ar Y,ej];show(match CQ (fun(_:Nat) (x:BP) => !x.ok) d with|some k=>_|none=>_)=_;rw[hw]
   rw[e] at q;refine⟨_,rfl,_,rfl,jO ⟨_,rfl,_,rfl,by show 2<=sizeLine;decide,fun j g=>⟨AN _,fun B p=>⟨AN _,fun C u=>vv rfl ?_⟩⟩⟩⟩;exact pJ (l := [-7,(k:Int)]) (fun X o j B C s9 oa=>q X o j B C (a3.trans s9) oa) g p u
  | none =>
   have e:gr m b d=([],DR S m,d):=by unfold gr;rw[Ar W,Ar Y,ej];show(match CQ (fun(_:Nat) (x:BP) => !x.ok) d with|some k=>_|none=>_)=_;rw[hw]
   rw[e,vD R hz] at q;have a4:=c3.same (s2.trans s3);have b1:=(s2.trans s3) _ _ c1;have b2:=lo.same (mF ad).same s3;refine⟨_,rfl,_,rfl,jt ⟨AN _,fun j g => ?_⟩⟩;have s4:=ak (o:=.lst []) g;have b3:(upd H3 j (.lst [])) j=some (.lst (([]:List Int).map V.int)):=ag;generalize upd H3 j (.lst [])=H4 at *
   have I:=a4.same s4;have nl:∀i,i<S.marks.length->((An S.marks.length).map (gu S))[i]? = some (gu S i):=fun i Z=>by rw[Av,B8 Z];rfl
   have nm:S.marks.length<65536:=by rw[he];exact i5 b
   have np:ps.length=S.marks.length:=by rw[c3.len,Ab,AG]
   refine⟨_,rfl,fl (s4 _ _ b1) T.cartoon rfl ⟨lp,rfl,⟨_,SqL.of I.lst⟩,fun cb a5=>iW (J:=Itl K lp) cb S.marks.length (fun n X=>aM H4 X/\∃pb,LO (eV ad) X cb ((An n).map fun k=>xp S.pts m (gu S k)) pb) ⟨ak a5,[],.nil ag⟩ ?_ ?_ ?_⟩⟩
   ·rintro i H5 Z ⟨G,_⟩
    exact⟨_,.ref (ps[i]'(by omega)),SqL.of (G _ _ I.lst),by rw[Av,Aa (by omega)];rfl⟩
   ·rintro i v H5 H6 Z ⟨G,pb,M⟩ ⟨rfl,hx⟩
    have ex:=hx _ (SqL.of (G _ _ I.lst));have a6:i<ps.length:=by omega
    rw[Av,Aa a6] at ex;obtain rfl:V.ref ps[i]=v:=Ah ex;have pa:=(I.at_ i _ _ (Aa a6) (nl i Z)).same G;obtain⟨l0,_,b4,a7⟩:=pT R Z (hz i Z);have b5:=tR R (by rw[he];unfold B5;simp;exact iS _ _) a7;have b6:0<l0.length:=by
     obtain⟨r,_,er,ar⟩:=R.fL.mp a7;cases l0 with
     | nil=>exact absurd ar (by show ¬((0:Int)<0);decide)
     | cons a t=>exact GZ _
    have aa:(gu S i).2=l0:=by rw[b4]
    refine⟨rfl,ke ⟨_,rfl,_,rfl,ps[i],m,S.pts,gu S i,rfl,pa,by rw[aa];exact b6,by rw[aa];exact b5.2,fun H7 pq s7 hb=>⟨_,s7 _ _ M.lst,?_,aI (G.trans s7) a5,pb++[pq],?_⟩⟩⟩
    ·rw[Ab,M.len,Ab,AG];exact aT (by omega)
    ·rw[Ce,Ay]
     exact(M.same (cT ad).same s7).snoc (cT ad) hb
   ·rintro H5 ⟨G,pb,M⟩
    refine⟨⟨_,SqL.of (G _ _ I.lst),by rw[Ab,np];exact Ak _⟩,?_⟩;refine⟨_,rfl,?_⟩;refine xZ ?_;refine vv (us := [.ref j,.ref cb,.ref l]) rfl ?_;have ae:=s4.trans G;exact zQ (x:=([],(An S.marks.length).map fun k=>xp S.pts m (gu S k),d)) (G _ _ b3) M (b2.same (mF ad).same ae) fun X o j B C s9 oa=>q X o j B C (a3.trans (ae.trans s9)) oa
end
theorem judge_ok{b:List UInt8}{S:Plan}(h:Dq b=.ok S):Geo.Rules S/\S=B5 b/\∀k,k<S.marks.length->E5 S (S.marks.getD k m0).at_=true:=by
 rcases oG b with⟨r,p,_,e⟩|⟨_,d,e⟩
 ·rw[e] at h;cases h
 ·rw[e] at h
  rcases nF (B5 b) with⟨r,pl,_,a⟩|⟨_,a,lo,R,hz⟩
  ·rw[a] at h;cases h
  ·rw[a] at h
   have R:=R (aaH d) (aaK d);rcases aaf R hz with⟨r,pl,_,c⟩|⟨_,c⟩
   ·rw[c] at h;cases h
   ·rw[c] at h
    have f:B5 b=S:=by injection h
    subst f;exact⟨R,rfl,hz⟩
theorem acg(b:List UInt8):SheetNeutral.bytes (bz b)=some b:=by
 unfold SheetNeutral.bytes;have a:NeutralIO.bytes (bz b)=true:=by
  unfold NeutralIO.bytes;rw[Ds];intro z hz;have:=mf b z hz;rw[AB];exact⟨AD this.1,AD (by omega)⟩
 rw[As a]
 congr 1
 unfold bz;rw[Bd];have:((fun(z:Int)=>GB z.toNat) ∘ fun(c:UInt8)=>(c.toNat:Int))=id:=by
  funext c
  show GB ((c.toNat:Int)).toNat=c;rw[Ei,UInt8.ofNat_toNat]
 rw[this,J0]
theorem ag7(n:Nat):SheetNeutral.nat (n:Int)=some n:=by
 unfold SheetNeutral.nat;rw[Ar (by omega),Ei]
theorem ahR{p:List Int}(h:p.all (fun(z:Int)=>SheetNeutral.natural z 8)=true):∃b,p=bz b:=by
 refine⟨p.map fun z=>GB z.toNat,?_⟩;unfold bz;rw[Bd];rw[Ds] at h;have:∀l:List Int,(∀z∈l,0<=z/\z<256)->l=l.map ((fun(c:UInt8)=>(c.toNat:Int)) ∘ fun(z:Int)=>GB z.toNat):=by
  intro l
  induction l with
  | nil=>intro _;rfl
  | cons a r f =>
   intro d;rw[AA,<- f fun z hz=>d z (Ac _ hz)];have:=d a Ad;have e:((GB a.toNat).toNat:Int)=a:=by
    rw[UInt8.toNat_ofNat'];have:a.toNat<256:=by omega
    rw[Nat.mod_eq_of_lt (by simpa using this)];omega
   congr 1
   exact e.symm
 refine this p fun z hz => ?_;have:=h z hz;unfold SheetNeutral.natural at this;rw[AB] at this;exact⟨AV this.1,by have:=AV this.2;omega⟩
theorem zI(S:Plan)(m:Nat):(DR S m).length=S.marks.length:=by
 unfold DR Plan.panes;rw[Ab,DC,Ab,Gf]
end Gs
namespace Gs
open Gla (Node Item Sheet Shelf Laid)
theorem kx{α:Type}(b:α->α->Bool)(x:α):∀l:List α,(HX b x l).Perm (x::l)
 | []=>.refl _
 | y::r=>by
  unfold HX
  by_cases h:b x y=true
  ·rw[As h]
  ·rw[Ar h]
   exact((kx b x r).cons y).trans (.swap x y r)
theorem eD{α:Type}(b:α->α->Bool):∀l:List α,(Eu b l).Perm l
 | []=>.refl _
 | x::r=>(kx b x _).trans ((eD b r).cons x)
theorem kY{α:Type}{b:α->α->Bool}(as:∀x y,b x y=true->b y x=false)(a:∀x y z,b x y=true->b y z=true->b x z=true)(x:α):∀l:List α,l.Pairwise (fun u v=>b v u=false)->(HX b x l).Pairwise fun u v=>b v u=false
 | [],_=>by unfold HX;exact List.pairwise_singleton _ _
 | y::r,h=>by
  obtain⟨d,f⟩:=BH.mp h;unfold HX
  by_cases c:b x y=true
  ·rw[As c,BH]
   refine⟨fun z hz => ?_,h⟩;rcases Am.mp hz with e|e
   ·rw[e];exact as _ _ c
   ·cases q:b z x with
    | false=>rfl
    | true =>
     have w:=a _ _ _ q c;rw[d z e] at w;cases w
  ·rw[Ar c,BH]
   refine⟨fun z hz => ?_,kY as a x r f⟩;rcases Am.mp ((kx b x r).mem_iff.mp hz) with e|e
   ·rw[e];exact A8.mpr c
   ·exact d z e
theorem iG{α:Type}{b:α->α->Bool}(as:∀x y,b x y=true->b y x=false)(a:∀x y z,b x y=true->b y z=true->b x z=true):∀l:List α,(Eu b l).Pairwise fun u v=>b v u=false
 | []=>List.Pairwise.nil
 | x::r=>kY as a x _ (iG as a r)
theorem w6{x y:Nat×Item}:Cu x y=true↔(y.2.h<x.2.h\/(x.2.h=y.2.h/\(y.2.w<x.2.w\/(x.2.w=y.2.w/\x.1<y.1)))):=by
 unfold Cu;simp only[DA,AB,A5,BL]
noncomputable def kyZ(x:Nat×Item):List (Int ⊕ List Nat) := [.inl (-(x.2.h:Int)),.inl (-(x.2.w:Int)),.inl (x.1:Int)]
open PyProof.Rows in
theorem lxZ{a b:Int}{r t:List (Int ⊕ List Nat)}:lexLt itemOrd (.inl a::r) (.inl b::t)=true↔a<b\/(a=b/\lexLt itemOrd r t=true):=by
 rw[lex_true];show decide (a<b)=true\/(decide (b<a)=false/\_)↔_;rw[decide_eq_true_iff,DP]
 constructor
 ·rintro(h|⟨h,q⟩)
  ·exact .inl h
  ·rcases Int.lt_or_eq_of_le (D0.mp h) with z|z
   ·exact .inl z
   ·exact .inr ⟨z,q⟩
 ·rintro(h|⟨rfl,q⟩)
  ·exact .inl h
  ·exact .inr ⟨Ig _,q⟩
open PyProof.Rows in
theorem jJ(x y:Nat×Item):Cu x y=lexLt itemOrd (kyZ x) (kyZ y):=by
 have a:∀m n:Nat,(-(m:Int) < -(n:Int))↔n<m:=fun m n=>by omega
 have b:∀m n:Nat,(-(m:Int) = -(n:Int))↔m=n:=fun m n=>by omega
 have c:∀m n:Nat,((m:Int)<(n:Int))↔m<n:=fun m n=>Int.ofNat_lt;have d:∀p:Prop,(p/\lexLt itemOrd ([]:List (Int ⊕ List Nat)) []=true)↔False:=fun p=>⟨fun h=>Bu (show false=true from h.2),Ck⟩;rw[B3,w6];unfold kyZ;rw[lxZ,lxZ,lxZ,a,a,b,b,c,d,or_false]
noncomputable def it0:Item:=⟨0,0,0⟩
noncomputable def kz(a:List Item):List Nat:=(Eu Cu (a.zipIdx.map fun(x:Item×Nat)=>(x.2,x.1))).map (·.1)
theorem agf(a:List Item):Eu Cu (a.zipIdx.map fun(x:Item×Nat)=>(x.2,x.1))=(kz a).map fun i=>(i,a.getD i it0):=by
 unfold kz;rw[Bd];have:∀y∈Eu Cu (a.zipIdx.map fun(x:Item×Nat)=>(x.2,x.1)),((fun i=>(i,a.getD i it0)) ∘ fun(x:Nat×Item)=>x.1) y=y:=by
  intro y b;obtain⟨z,hz,rfl⟩:=Ax.mp ((eD _ _).mem_iff.mp b);have e:=FN.mp hz;show(z.2,a.getD z.2 it0)=(z.2,z.1);rw[Az,e];rfl
 conv=>lhs;rw[<- J0 (Eu _ _)]
 exact(DM fun y b=>(this y b).symm)
theorem agI{c:List Item}{e:List Nat}(l:e.Perm (An c.length))(m:e.Pairwise fun a b=>Cu (b,c.getD b it0) (a,c.getD a it0)=false):e=kz c:=by
 have as:∀x y:Nat×Item,Cu x y=true->Cu y x=false:=fun x y h=>by
  rw[jJ] at h ⊢;cases z:Gw PyProof.Rows.itemOrd (kyZ y) (kyZ x) with
  | false=>rfl
  | true =>
   have:=Hn _ _ _ h z;rw[PyProof.Rows.lex_irrefl] at this;exact this.symm
 have n:∀x y z:Nat×Item,Cu x y=true->Cu y z=true->Cu x z=true:=fun x y z f d=>by
  rw[jJ] at f d ⊢;exact Hn _ _ _ f d
 have o:(c.zipIdx.map fun(x:Item×Nat)=>(x.2,x.1))=(An c.length).map fun i=>(i,c.getD i it0):=by
  refine F0 (by simp) fun i f d => ?_;rw[Dt,Dt,D2,List.getElem_zipIdx];rw[Ab,AG] at d;rw[Az,Aa d];simp
 have g:(e.map fun i=>(i,c.getD i it0)).Perm (Eu Cu (c.zipIdx.map fun(x:Item×Nat)=>(x.2,x.1))):=by
  refine(l.map _).trans ?_;rw[<- o];exact(eD _ _).symm
 have e1:(e.map fun i=>(i,c.getD i it0))=Eu Cu (c.zipIdx.map fun(x:Item×Nat)=>(x.2,x.1)):=by
  refine List.Perm.eq_of_pairwise (le:=fun u v=>Cu v u=false) ?_ (C4.mpr m) (iG as n _) g;intro a b p q f d;obtain⟨i,_,rfl⟩:=Ax.mp p;obtain⟨j,_,rfl⟩:=Ax.mp (g.mem_iff.mpr q);rw[jJ] at f d;injection PyProof.Rows.lex_total _ _ f d with _ z
  injection z with _ z
  injection z with z
  injection z with z
  rw[show j=i from Ik z]
 unfold kz;rw[<- e1,Bd];exact(J0 e).symm
noncomputable def dD(i:Nat)(x:Item)(l:Laid):Option Laid:=(B4 i x l).or (B6 i x l)
theorem yy(c:List Item)(d:List Sheet):Ew c d=(kz c).foldl (fun(q:Except Nat Laid) i=>match q with
 | .error j=>.error j
 | .ok l=>match dD i (c.getD i it0) l with
  | some r=>.ok r
  | none=>.error i) (.ok (d.map fun(s:Sheet)=>(s,[]))):=by
 unfold Ew;rw[agf,List.foldl_map]
 congr 1
 funext q i
 cases q with
 | error j=>rfl
 | ok l =>
  dsimp only;unfold dD;generalize B4 i (c.getD i it0) l=a;generalize B6 i (c.getD i it0) l=b;cases a <;> cases b <;> rfl
noncomputable def back{α:Type}(g:α->Bool):List α->List α->List α
 | [],_=>[]
 | p::r,fs=>if g p=true then (match fs with|q::t=>q::back g r t|[]=>p::back g r []) else p::back g r fs
theorem jL{α:Type}(g:α->Bool):∀l:List α,back g l (l.filter g)=l
 | []=>rfl
 | p::r=>by
  unfold back;rw[Cz]
  by_cases h:g p=true
  ·rw[As h,As h]
   show p::back g r (r.filter g)=_;rw[jL g r]
  ·rw[Ar h,Ar h,jL g r]
noncomputable def aH(x:Item)(p:Sheet×List Shelf):Bool:=p.1.glass==x.glass
theorem jN(i:Nat)(x:Item):∀l:Laid,B4 i x l=(B4 i x (l.filter (aH x))).map (back (aH x) l)
 | []=>rfl
 | (s,sh)::r=>by
  have a:=jN i x r;rw[Cz]
  by_cases h:s.glass=x.glass
  ·have g:aH x (s,sh)=true:=BL.mpr h
   rw[As g];unfold B4;rw[As h];cases sh.zipIdx.findSome? (fun(y:Shelf×Nat)=>(GC s x y.1).map fun(t:Bool)=>(y.2,t)) with
   | some z =>
    obtain⟨k,t⟩:=z;show some _=some _;unfold back;rw[As g];show some (_::r)=some (_::back (aH x) r (r.filter (aH x)));rw[jL]
   | none =>
    dsimp only;rw[a];cases B4 i x (r.filter (aH x)) with
    | none=>rfl
    | some q =>
     show some _=some _
     congr 1
     conv=>rhs;unfold back
     rw[As g]
  ·have g:¬aH x (s,sh)=true:=fun z=>h (BL.mp z)
   rw[Ar g]
   conv=>lhs;unfold B4
   rw[Ar h];dsimp only;rw[a];cases B4 i x (r.filter (aH x)) with
   | none=>rfl
   | some q =>
    show some _=some _
    congr 1
    conv=>rhs;unfold back
    rw[Ar g]
theorem jy(i:Nat)(x:Item):∀l:Laid,B6 i x l=(B6 i x (l.filter (aH x))).map (back (aH x) l)
 | []=>rfl
 | (s,sh)::r=>by
  have a:=jy i x r;rw[Cz]
  by_cases h:s.glass=x.glass
  ·have g:aH x (s,sh)=true:=BL.mpr h
   rw[As g];unfold B6;rw[As h];cases Ex s x sh with
   | some t =>
    show some _=some _;unfold back;rw[As g];show some (_::r)=some (_::back (aH x) r (r.filter (aH x)));rw[jL]
   | none =>
    dsimp only;rw[a];cases B6 i x (r.filter (aH x)) with
    | none=>rfl
    | some q =>
     show some _=some _
     congr 1
     conv=>rhs;unfold back
     rw[As g]
  ·have g:¬aH x (s,sh)=true:=fun z=>h (BL.mp z)
   rw[Ar g]
   conv=>lhs;unfold B6
   rw[Ar h];dsimp only;rw[a];cases B6 i x (r.filter (aH x)) with
   | none=>rfl
   | some q =>
    show some _=some _
    congr 1
    conv=>rhs;unfold back
    rw[Ar g]
theorem mO(i:Nat)(x:Item)(l:Laid):dD i x l=(dD i x (l.filter (aH x))).map (back (aH x) l):=by
 unfold dD;rw[jN,jy];cases B4 i x (l.filter (aH x)) <;> rfl
end Gs
namespace Gs
open PySem PySem.Spec PyProof.Rows L2
open Gla (Item Sheet Shelf Laid)
structure jq where
 lying:Ag
 shelf:Ag
 pile:Ag
 laying:Ag
structure xY(K:Lf)(mg:Lg)(a3:jq):Prop where
 cv:i9 mg "LEFT_OVER" 0
 jS:i9 mg "PLACED" 1
 cK:i9 mg "UPRIGHT_CUT" 2
 cX:i9 mg "LEVEL_CUT" 3
 lying:Fl K a3.lying ["pane","turned","width","height"]
 shelf:Fl K a3.shelf ["height","width_left","laid"]
 pile:Fl K a3.pile ["sheet","height_left","shelves"]
 laying:Fl K a3.laying ["unlaid","row"]
structure KlG(P:AI)(w:AZ)(K:Lf)(mg:Lg)(base:B1)(k:Nat)(x:AW)(C:Ag)(sp:Sp):Prop where
 cl:Cls K C
 at_:mg x=some (.ref C)
 ex:∃f fd ps,Mk K C f/\Binds K fd ps []/\n8 P w K mg base CX0 k f fd ps sp
section
variable{P:AI}{w:AZ}{K:Lf}{mg:Lg}{base:B1}{k:Nat}{x q:AW}{ps fl:List AW}{sp:Sp}{st:F6}{C:Ag}
theorem lK.klg(D:lK K mg x q C st ps fl)(N:List AW)(c:N.Nodup->∀(f:Ag) (a:Ai) (A:B7) (outer:List Ib) (s:Aq) (H:Hp) (vs:List V) (Q:VK) (E:XK),fD k (A.deeper (envOfC q (aG st) s.heap.objs.size f a))->sp vs H Q E ->
   ∃t,PSs (xB CX0 P w K mg base N q (aG st) f a A outer s H E).nox (bK st) t/\t { nx:=fun _ d=>Q .non d,rt:=Q } (start N vs) H)(S:bD N ps (aG st):=by exact fsc)(b:∀vs H Q E,sp vs H Q E->vs.length=ps.length:=by intro _ _ _ _ h;cases h;subst_vars;rfl):
  KlG P w K mg base (k+1) x C sp:=by
 obtain⟨f,e,F,g,i⟩:=D.ex;exact⟨D.cl,D.at_,f,e,ps,g,i,F.ok S b (c S.nd f)⟩
end
section
variable{X:Cx}{e:B9}{es:List B9}{t:TA}{x:AW}{p pos:Pos}{j k:Nat}{sp:Sp}{C:Ag}
theorem ajc(M:KlG X.prog X.w X.K X.mg X.base j x C sp)(c:fD k X.A)(d:PA X (e::es) t)(g:j+1<=k:=by decide)(i:Gl X x:=by rfl)(a:(x==("__debug__" : AW))=false:=by decide)(he:starEach (e::es) X.env=(false,eval e X.env)::starEach es X.env:=by rfl)(b:(backTo pos (starEach es X.env)).any (·.1)=false:=by rfl)(l:Passes CX0 X E0:=by exact sf):
  PE X (.Call (.Name x p) (e::es) [] pos) (abx C sp [] E0 t):=by
 obtain⟨f,o,ps,m,n,F⟩:=M.ex;exact zS (p:=p) (pos:=pos) m F (c.mono g) i M.at_ n (.nil) l d a he b
end
theorem x6{H:Hp}{p l:Ag}{x y o:HO}:upd (upd (upd H p x) l o) p y=upd (upd H l o) p y:=by
 funext b;unfold upd
 by_cases h:b=p
 ·rw[As h,As h]
 ·rw[Ar h,Ar h,Ar h]
section
variable{P:AI}{w:AZ}{K:Lf}{mg:Lg}{base:B1}{ad:Adr}{a3:jq}
noncomputable def gK:List V->List (AW×V)
 | [v1,v2,v3,v4]=>[("pane",v1),("turned",v2),("width",v3),("height",v4)]
 | _=>[]
noncomputable abbrev qK:Stmt:=(inClass (top 69) 0)
theorem vy:bD ["self","pane","turned","width","height"] ["self","pane","turned","width","height"] (aG qK):=fsc
theorem abv(D:lK K mg "Lying" "Lying.__init__" a3.lying qK ["self","pane","turned","width","height"] ["pane","turned","width","height"]):Kl P w K mg base 1 "Lying" a3.lying 4 gK:=by
 have e:=vy.nd;refine D.kl (n:=4) vy rfl (fun f b A a s H p dx us Q E g c d k => ?_);obtain⟨i,j,l,m,rfl⟩:=us4 c;refine⟨_,(az (bb (pv 0) (pv 1) rfl) (az (bb (pv 0) (pv 2) rfl) (az (bb (pv 0) (pv 3) rfl) (aE (bb (pv 0) (pv 4) rfl))))),?_⟩;refine⟨_,rfl,_,rfl,p,_,dx,_,rfl,d,D.cl,D.no _ (by decide +kernel),AL rfl,?_⟩
 iterate 3 (refine⟨_,rfl,_,rfl,p,_,dx,_,rfl,ag,D.cl,D.no _ (by decide +kernel),AL rfl,?_⟩;rw[bQ])
 exact k
noncomputable def lN:List V->List (AW×V)
 | [v1,v2]=>[("unlaid",v1),("row",v2)]
 | _=>[]
noncomputable abbrev mq:Stmt:=(inClass (top 72) 0)
theorem rg:bD ["self","unlaid","row"] ["self","unlaid","row"] (aG mq):=fsc
theorem yg(D:lK K mg "Laying" "Laying.__init__" a3.laying mq ["self","unlaid","row"] ["unlaid","row"]):Kl P w K mg base 1 "Laying" a3.laying 2 lN:=by
 have e:=rg.nd;refine D.kl (n:=2) rg rfl (fun f b A a s H p dx us Q E g c d k => ?_);obtain⟨i,j,rfl⟩:=us2 c;refine⟨_,(az (bb (pv 0) (pv 1) rfl) (aE (bb (pv 0) (pv 2) rfl))),?_⟩;refine⟨_,rfl,_,rfl,p,_,dx,_,rfl,d,D.cl,D.no _ (by decide +kernel),AL rfl,?_⟩
 iterate 1 (refine⟨_,rfl,_,rfl,p,_,dx,_,rfl,ag,D.cl,D.no _ (by decide +kernel),AL rfl,?_⟩;rw[bQ])
 exact k
inductive aiw(a3:jq)(vs:List V)(H:Hp)(Q:VK)(E:XK):Prop
 | mk (p dx:Ag)(h w:Int)(c0:vs=[.ref p,.int h,.int w])(c1:H p=some (.ins a3.shelf dx []))(c2:∀l,H l=none->Q .non (upd (upd H l (.lst [])) p (.ins a3.shelf dx [("height",.int h),("width_left",.int w),("laid",.ref l)])))
noncomputable abbrev wg:Stmt:=(inClass (top 70) 0)
theorem ab7(D:lK K mg "Shelf" "Shelf.__init__" a3.shelf wg ["self","height","width"] ["height","width_left","laid"]):KlG P w K mg base 1 "Shelf" a3.shelf (aiw a3):=by
 refine D.klg ["self","height","width"] ?_;rintro i f d A b s H vs Q E j ⟨p,dx,h,w,rfl,g,q⟩;refine⟨_,(az (bb (pv 0) (pv 1) rfl) (az (bb (pv 0) (pv 2) rfl) (aE (bb (pv 0) (aP ah) rfl)))),?_⟩;refine⟨_,rfl,_,rfl,p,_,dx,_,rfl,g,D.cl,D.no _ (by decide +kernel),AL rfl,?_⟩;refine⟨_,rfl,_,rfl,p,_,dx,_,rfl,ag,D.cl,D.no _ (by decide +kernel),AL rfl,?_⟩;rw[bQ];refine⟨AN _,fun l a => ?_⟩;have c:p≠l:=fun e=>by rw[<- e,ag] at a;cases a
 refine⟨_,rfl,p,_,dx,_,rfl,(aw c).trans ag,D.cl,D.no _ (by decide +kernel),AL rfl,?_⟩;rw[x6];rw[aw (Ne.symm c)] at a;exact q l a
inductive aiB(ad:Adr)(a3:jq)(vs:List V)(H:Hp)(Q:VK)(E:XK):Prop
 | mk (p dx sh dxs:Ag)(s:Sheet)(c0:vs=[.ref p,.ref sh])(c1:H p=some (.ins a3.pile dx []))(c2:H sh=some (.ins ad.sheet dxs (sV s)))(c3:∀l,H l=none->Q .non (upd (upd H l (.lst [])) p (.ins a3.pile dx [("sheet",.ref sh),("height_left",.int (s.h:Int)),("shelves",.ref l)])))
noncomputable abbrev yo:Stmt:=(inClass (top 71) 0)
theorem aez(D:lK K mg "Pile" "Pile.__init__" a3.pile yo ["self","sheet"] ["sheet","height_left","shelves"])(T:Txt K mg ad):KlG P w K mg base 1 "Pile" a3.pile (aiB ad a3):=by
 refine D.klg ["self","sheet"] ?_;rintro n f j A c o H vs Q E r ⟨p,dx,m,dxs,s,rfl,g,a,q⟩;refine⟨_,(az (bb (pv 0) (pv 1) rfl) (az (bb (pv 0) (aA (pv 1) rfl) rfl) (aE (bb (pv 0) (aP ah) rfl)))),?_⟩;have d:m≠p:=fun e=>by rw[e,g] at a;injection a with a;injection a with _ _ a;unfold sV at a;cases a
 refine⟨_,rfl,_,rfl,p,_,dx,_,rfl,g,D.cl,D.no _ (by decide +kernel),AL rfl,?_⟩;refine⟨_,rfl,fl ((aw d).trans a) T.sheet air ⟨_,rfl,p,_,dx,_,rfl,ag,D.cl,D.no _ (by decide +kernel),AL rfl,?_⟩⟩;rw[bQ];refine⟨AN _,fun l b => ?_⟩;have i:p≠l:=fun e=>by rw[<- e,ag] at b;cases b
 refine⟨_,rfl,p,_,dx,_,rfl,(aw i).trans ag,D.cl,D.no _ (by decide +kernel),AL rfl,?_⟩;rw[x6];rw[aw (Ne.symm i)] at b;exact q l b
def mI(C:List Ag)(H a:Hp):Prop:=∀b o,b ∉ C->H b=some o->a b=some o
theorem mI.mono{C D:List Ag}{H a:Hp}(h:mI C H a)(s:∀b∈C,b∈D):mI D H a:=fun b o n e=>h b o (fun z=>n (s b z)) e
abbrev Ly:=Nat×Bool×Nat×Nat
noncomputable def lyF(z:Ly):List (AW×V) := [("pane",.int (z.1:Int)),("turned",.int (if z.2.1=true then 1 else 0)),("width",.int (z.2.2.1:Int)),("height",.int (z.2.2.2:Int))]
def sU(a3:jq)(H:Hp)(y:Ag)(z:Ly):Prop:=∃dx,H y=some (.ins a3.lying dx (lyF z))
theorem ajK{z:Ly}:(lyF z).lookup ("pane" : AW)=some (.int (z.1:Int)):=by unfold lyF;rfl
theorem ajQ{z:Ly}:(lyF z).lookup ("turned" : AW)=some (.int (if z.2.1=true then 1 else 0)):=by unfold lyF;rfl
theorem ahI{z:Ly}:(lyF z).lookup ("width" : AW)=some (.int (z.2.2.1:Int)):=by unfold lyF;rfl
theorem ahN{z:Ly}:(lyF z).lookup ("height" : AW)=some (.int (z.2.2.2:Int)):=by unfold lyF;rfl
theorem ui(a3:jq):aft (sU a3):=fun H a p x k ⟨dx,e⟩=>⟨dx,k _ _ _ e⟩
structure ShT where
 a:Ag
 l:Ag
 ys:List Ag
structure PlT where
 a:Ag
 l:Ag
 sh:Ag
 ss:List ShT
noncomputable def ShT.fp(t:ShT):List Addr:=t.a::t.l::t.ys
noncomputable def PlT.fp(t:PlT):List Addr:=t.a::t.l::t.ss.flatMap ShT.fp
noncomputable def shF(w:Nat)(x:Shelf)(l:Ag):List (AW×V) := [("height",.int (x.h:Int)),("width_left",.int ((w:Int)-(x.used:Int))),("laid",.ref l)]
noncomputable def plF(p:Sheet×List Shelf)(a l:Ag):List (AW×V) := [("sheet",.ref a),("height_left",.int ((p.1.h:Int)-(CG p.2:Int))),("shelves",.ref l)]
structure aeI(a3:jq)(H:Hp)(w:Nat)(t:ShT)(x:Shelf):Prop where
 ob:∃dx,H t.a=some (.ins a3.shelf dx (shF w x t.l))
 on:LO (sU a3) H t.l x.on t.ys
structure wa(ad:Adr)(a3:jq)(H:Hp)(t:PlT)(p:Sheet×List Shelf):Prop where
 ob:∃dx,H t.a=some (.ins a3.pile dx (plF p t.sh t.l))
 sh:∃dx,H t.sh=some (.ins ad.sheet dx (sV p.1))
 sv:H t.l=some (.lst (t.ss.map fun s=>V.ref s.a))
 ln:t.ss.length=p.2.length
 at_:∀(k:Nat)(s:ShT)(x:Shelf),t.ss[k]? = some s->p.2[k]? = some x->aeI a3 H p.1.w s x
theorem aeI.keep{H a:Hp}{w:Nat}{t:ShT}{x:Shelf}{C:List Ag}(h:aeI a3 H w t x)(k:mI C H a)(d:∀b∈t.fp,b ∉ C):aeI a3 a w t x:=by
 obtain⟨dx,e⟩:=h.ob;refine⟨⟨dx,k _ _ (d _ Ad) e⟩,k _ _ (d _ (Ac _ Ad)) h.on.lst,h.on.len,fun j y z e1 c => ?_⟩;obtain⟨f,g⟩:=h.on.at_ j y z e1 c;exact⟨f,k _ _ (d _ (Ac _ (Ac _ (AE e1)))) g⟩
theorem wa.keep{H c:Hp}{t:PlT}{p:Sheet×List Shelf}{C:List Ag}(h:wa ad a3 H t p)(k:mI C H c)(d:∀b∈t.fp,b ∉ C)(f:t.sh ∉ C):wa ad a3 c t p:=by
 obtain⟨dx,e⟩:=h.ob;obtain⟨g,a⟩:=h.sh;refine⟨⟨dx,k _ _ (d _ Ad) e⟩,⟨g,k _ _ f a⟩,k _ _ (d _ (Ac _ Ad)) h.sv,h.ln,fun j s x e1 a => ?_⟩;exact(h.at_ j s x e1 a).keep k fun b i=>d b (Ac _ (Ac _ (Bc.mpr ⟨s,AE e1,i⟩)))
end
theorem yj(x y:Nat):decide (V.int (x:Int)=V.int (y:Int))=decide (x=y):=by
 refine Ba.mpr ⟨fun h => ?_,fun h=>by rw[h]⟩;injection h with h;omega
theorem dn(m n:Nat)(c:Int)(e:c=(n:Int)):decide (V.int (m:Int)=V.int c)=decide (m=n):=by rw[e,yj]
noncomputable def adj(x:Item):List (AW×V) := [("glass",.int (x.glass:Int)),("width",.int (x.w:Int)),("height",.int (x.h:Int))]
theorem ajJ{x:Item}:(adj x).lookup ("glass" : AW)=some (.int (x.glass:Int)):=by unfold adj;rfl
theorem aiq{x:Item}:(adj x).lookup ("width" : AW)=some (.int (x.w:Int)):=by unfold adj;rfl
theorem ahT{x:Item}:(adj x).lookup ("height" : AW)=some (.int (x.h:Int)):=by unfold adj;rfl
noncomputable def dP(i:Nat)(x:Item)(t:Bool):Ly:=(i,t,(x.lies t).1,(x.lies t).2)
noncomputable def abq(i:Nat)(x:Item)(s:Sheet):List Ly:=(J1 s).map (dP i x)
noncomputable def xA(w h:Int)(z:Ly):Bool:=decide ((z.2.2.1:Int)<=w)&&decide ((z.2.2.2:Int)<=h)
section
variable{P:AI}{w:AZ}{K:Lf}{mg:Lg}{base:B1}{ad:Adr}{a3:jq}
theorem agg{H:Hp}{y dx:Ag}{z:Ly}(a:H y=AK)(b:H dx=AK)(c:dx≠y):aM H (upd (upd H dx (.own y)) y (.ins a3.lying dx (lyF z)))/\sU a3 (upd (upd H dx (.own y)) y (.ins a3.lying dx (lyF z))) y z :=
 ⟨(ak b).trans (ak (by rw[aw (Ne.symm c)];exact a)),dx,ag⟩
inductive ab6(ad:Adr)(a3:jq)(vs:List V)(H:Hp)(Q:VK)(E:XK):Prop
 | mk (i:Nat)(b sh dxs:Ag)(x:Item)(s:Sheet)(c0:vs=[.int (i:Int),.ref b,.ref sh])(c1:eV ad H b x)(c2:H sh=some (.ins ad.sheet dxs (sV s)))(c3:∀H' l ys,aM H H'->LO (sU a3) H' l (abq i x s) ys->(∀y∈ys,H y=none)->Q (.ref l) H')
noncomputable abbrev agj:Stmt:=(top 78)
theorem agp(D:Def K mg "ways_to_lie" agj ["pane","blank","sheet"])(T:Txt K mg ad)(Y:Kl P w K mg base 1 "Lying" a3.lying 4 gK):Fn P w K mg base 3 "ways_to_lie" ["pane","blank","sheet"] (ab6 ad a3):=by
 refine D.fx ["pane","blank","sheet","ways"] ?_;rintro nd f a0 A G s0 H vs Q E Z ⟨i,b,sh,dxs,x,s,rfl,⟨I,r⟩,hs,q⟩;have r:H b=some (.ins ad.blank I (adj x)):=r;refine⟨_,(kxs 3 nd (aP (ab (kxK Y Z (ab (pv 0) (ab aq (ab (aA (pv 1) rfl) (ab (aA (pv 1) rfl) ah))))) ah)) (az (cg (kxq (aA (pv 2) rfl) aq) (aE (cS (kxA (pv 3) (kxK Y Z (ab (pv 0) (ab aq (ab (aA (pv 1) rfl) (ab (aA (pv 1) rfl) ah)))))))) aR) (kxr (pv 3)))),?_⟩;refine⟨_,rfl,_,rfl,fl r T.blank aiq ⟨_,rfl,fl r T.blank ahT ?_⟩⟩;intro y g J n2 ne;refine⟨y,g,[.int (i:Int),.int 0,.int (x.w:Int),.int (x.h:Int)],rfl,rfl,ag,rfl,?_⟩;rw[bQ];obtain⟨s1,hy⟩:aM H (upd (upd H g (.own y)) y (.ins a3.lying g (gK [.int (i:Int),.int 0,.int (x.w:Int),.int (x.h:Int)])))/\sU a3 (upd (upd H g (.own y)) y (.ins a3.lying g (gK [.int (i:Int),.int 0,.int (x.w:Int),.int (x.h:Int)]))) y (dP i x false):=agg (a3:=a3) (z:=dP i x false) J n2 ne;generalize upd (upd H g (.own y)) y (.ins a3.lying g (gK [.int (i:Int),.int 0,.int (x.w:Int),.int (x.h:Int)]))=H1 at *
 refine⟨by show 1<=sizeLine;decide,fun l C => ?_⟩;have u:=s1.trans (ak (o:=.lst [.ref y]) C);have m:(upd H1 l (.lst [.ref y])) l=some (.lst [.ref y]):=ag;have M:=(ui a3).same _ _ _ _ (ak (o:=.lst [.ref y]) C) hy;have nl:H l=none:=by
  cases e:H l with
  | none=>rfl
  | some o=>rw[s1 _ _ e] at C;cases C
 generalize upd H1 l (.lst [.ref y])=v at *
 have B:LO (sU a3) v l [dP i x false] [y]:=⟨m,rfl,fun j p z e1 O=>by
  cases j with
  | zero=>cases e1;cases O;exact M
  | succ j=>cases e1⟩
 refine⟨_,rfl,fl (u _ _ hs) T.sheet ajk ⟨rfl,_,rfl,?_⟩⟩;rw[dn s.turns 1 1 rfl];refine bX (fun c => ?_) (fun c => ?_)
 ·have c':s.turns=1:=AV c
  refine⟨_,rfl,.inl ⟨rfl,_,SqL.of m⟩,_,rfl,_,rfl,fl (u _ _ r) T.blank ahT ⟨_,rfl,fl (u _ _ r) T.blank aiq ?_⟩⟩;intro d a n n3 R;refine⟨d,a,[.int (i:Int),.int 1,.int (x.h:Int),.int (x.w:Int)],rfl,rfl,ag,rfl,?_⟩;rw[bQ];obtain⟨S,W⟩:aM v (upd (upd v a (.own d)) d (.ins a3.lying a (gK [.int (i:Int),.int 1,.int (x.h:Int),.int (x.w:Int)])))/\sU a3 (upd (upd v a (.own d)) d (.ins a3.lying a (gK [.int (i:Int),.int 1,.int (x.h:Int),.int (x.w:Int)]))) d (dP i x true):=agg (a3:=a3) (z:=dP i x true) n n3 R;generalize upd (upd v a (.own d)) d (.ins a3.lying a (gK [.int (i:Int),.int 1,.int (x.h:Int),.int (x.w:Int)]))=H3 at *
  refine⟨l,_,_,rfl,rfl,S _ _ m,by show 1<sizeLine;decide,_,rfl,?_⟩;have X:=(B.same (ui a3).same S).snoc (ui a3) W;refine q _ l [y,d] (aI (u.trans S) nl) ?_ ?_
  ·have e:abq i x s=[dP i x false]++[dP i x true]:=by unfold abq J1;rw[As c'];rfl
   rw[e];exact X
  ·intro z hz
   rcases Am.mp hz with e|e
   ·rw[e];exact J
   ·rw[Ao.mp e]
    cases O:H d with
    | none=>rfl
    | some o=>rw[u _ _ O] at n;cases n
 ·have c':¬s.turns=1:=fun z=>c (AD z)
  refine⟨_,rfl,q _ l [y] u ?_ ?_⟩
  ·have e:abq i x s=[dP i x false]:=by unfold abq J1;rw[Ar c'];rfl
   rw[e];exact B
  ·intro z hz;rw[Ao.mp hz];exact J
inductive ab1(a3:jq)(vs:List V)(H:Hp)(Q:VK)(E:XK):Prop
 | mk (l:Ag)(wd ht:Int)(zs:List Ly)(ys:List Ag)(c0:vs=[.ref l,.int wd,.int ht])(c1:LO (sU a3) H l zs ys)(c2:zs.find? (xA wd ht)=none->Q .non H)(c3:∀z y,zs.find? (xA wd ht)=some z->y∈ys->sU a3 H y z->Q (.ref y) H)
noncomputable abbrev agw:Stmt:=(top 79)
theorem afA(D:Def K mg "first_that_fits" agw ["ways","width","height"])(u:xY K mg a3):Fn P w K mg base 1 "first_that_fits" ["ways","width","height"] (ab1 a3):=by
 refine D.fx ["ways","width","height","lying"] ?_;rintro C f G A o R H vs Q E S ⟨l,b,d,j,ys,rfl,lo,I,J⟩;refine⟨_,(az (a8 AJ rfl (aY (pv 0)) (kxo 3 C) (aE (cg ((k9 (aiS (aA (pv 3) rfl) (pv 1)) (gD (aiS (aA (pv 3) rfl) (pv 2))))).pt (kxr (pv 3)) aR))) (kxr eI)),?_⟩;refine⟨_,rfl,l,rfl,⟨_,SqL.of lo.lst⟩,bB (K:=K) (a:=l) (xs:=ys.map V.ref) (fun i σ m=>(∃v,σ=[some (.ref l),some (.int b),some (.int d),v])/\m=H/\j.find? (xA b d)=(j.drop i).find? (xA b d)) ⟨⟨_,rfl⟩,rfl,rfl⟩ (fun i σ m _ ⟨_,e,_⟩=>by rw[e];exact SqL.of lo.lst) ?_ ?_⟩
 ·rintro i x σ m p ⟨⟨v,rfl⟩,rfl,n⟩
  have q:i<j.length:=by
   have:=(Aj.mp p).1;rw[Ab,lo.len] at this;exact this
  have g:i<ys.length:=by rw[lo.len];exact q
  rw[Av,Aa g] at p;obtain rfl:=Ah p;have M:=lo.at_ i _ _ (Aa g) (Aa q);rw[Bh q,Cr] at n;have O:ys[i]∈ys:=AX g;generalize ys[i]=y at *
  generalize j[i]=z at *
  obtain⟨dx,ob⟩:=M;have B:xA b d z=false->(∃v,([some (.ref l),some (.int b),some (.int d),some (.ref y)]:L2.St)=[some (.ref l),some (.int b),some (.int d),v])/\m=m/\j.find? (xA b d)=(j.drop (i+1)).find? (xA b d):=fun c=>⟨⟨_,rfl⟩,rfl,by rw[n,c]⟩;refine⟨_,rfl,fl ob u.lying ahI ⟨_,rfl,_,_,rfl,rfl,_,rfl,?_⟩⟩;refine bX (fun r => ?_) (fun r => ?_)
  ·refine⟨_,rfl,fl ob u.lying ahN ⟨_,rfl,_,_,rfl,rfl,_,rfl,?_⟩⟩
   refine bX (fun s => ?_) (fun s => ?_)
   ·have c:xA b d z=true:=by unfold xA;rw[r,s];rfl
    exact⟨_,rfl,J z y (by rw[n,c]) O ⟨dx,ob⟩⟩
   ·refine B ?_
    unfold xA;rw[A8.mpr s,Ep]
  ·refine jt (B ?_)
   unfold xA;rw[A8.mpr r,Bp]
 ·rintro σ m ⟨⟨v,rfl⟩,rfl,n⟩
  rw[Ab,lo.len,CI] at n;exact I n
noncomputable def shV(h a:Int)(l:Ag):List (AW×V) := [("height",.int h),("width_left",.int a),("laid",.ref l)]
inductive wG(a3:jq)(vs:List V)(H:Hp)(Q:VK)(E:XK):Prop
 | mk (a y l dx:Ag)(h wl:Int)(xs:List V)(z:Ly)(c0:vs=[.ref a,.ref y])(c1:H a=some (.ins a3.shelf dx (shV h wl l)))(c2:H l=some (.lst xs))(c3:xs.length<sizeLine)(c4:sU a3 H y z)(c5:Q .non (upd (upd H l (.lst (xs++[.ref y]))) a (.ins a3.shelf dx (shV h (wl-(z.2.2.1:Int)) l))))
noncomputable abbrev acW:Stmt:=(inClass (top 70) 1)
theorem aev(D:sy K a3.shelf "take" "Shelf.take" acW ["self","lying"])(b:xY K mg a3):Me P w K mg base 1 a3.shelf "take" ["self","lying"] (wG a3):=by
 refine D.fx b.shelf.cl ["self","lying"] ?_;rintro s f m A e u H vs Q E v ⟨a,y,l,dx,h,n,xs,z,rfl,g,d,ln,⟨o,j⟩,q⟩;refine⟨_,(kxe (kxA (aA (pv 0) rfl) (pv 1)) (aE (bb (pv 0) (aV dE (aA (pv 0) rfl) (aA (pv 1) rfl)) rfl))),?_⟩;have p:a≠l:=d5 g d;have r:y≠l:=d5 j d;refine⟨_,rfl,fl g b.shelf rfl ⟨.inl ⟨rfl,_,SqL.of d⟩,_,rfl,l,xs,_,rfl,rfl,d,ln,?_⟩⟩;have c:(upd H l (.lst (xs++[.ref y]))) a=some (.ins a3.shelf dx (shV h n l)):=by rw[aw p];exact g
 have i:(upd H l (.lst (xs++[.ref y]))) y=some (.ins a3.lying o (lyF z)):=by rw[aw r];exact j
 exact⟨_,rfl,fl c b.shelf rfl ⟨_,rfl,fl i b.lying ahI ⟨_,_,rfl,rfl,_,rfl,a,_,dx,_,rfl,c,b.shelf.cl,b.shelf.no _ (by decide +kernel),AL rfl,q⟩⟩⟩
noncomputable def fps(a:List PlT):List Addr:=a.flatMap PlT.fp
theorem dv(A B:List PlT):fps (A++B)=fps A++fps B:=BJ
theorem fT(t:PlT)(B:List PlT):fps (t::B)=t.fp++fps B:=BN
structure p8(ad:Adr)(a3:jq)(H:Hp)(ts:List PlT)(ps:Laid):Prop where
 ln:ts.length=ps.length
 at_:∀(j:Nat)(t:PlT)(p:Sheet×List Shelf),ts[j]? = some t->ps[j]? = some p->wa ad a3 H t p
 nd:(fps ts).Nodup
 sh:∀t∈ts,t.sh ∉ fps ts
theorem aeI.jz{H:Hp}{w:Nat}{t:ShT}{x:Shelf}(h:aeI a3 H w t x):∀b∈t.fp,∃o,H b=some o:=by
 intro b a;rcases Am.mp a with e|a
 ·obtain⟨dx,c⟩:=h.ob;exact⟨_,by rw[e];exact c⟩
 rcases Am.mp a with e|a
 ·exact⟨_,by rw[e];exact h.on.lst⟩
 obtain⟨j,d,e⟩:=AQ.mp a;obtain⟨f,c⟩:=h.on.at_ j b _ (by rw[<- e];exact Aa d) (Aa (by rw[<- h.on.len];exact d));exact⟨_,c⟩
theorem wa.jz{H:Hp}{t:PlT}{p:Sheet×List Shelf}(h:wa ad a3 H t p):∀b∈t.fp,∃o,H b=some o:=by
 intro b a;rcases Am.mp a with e|a
 ·obtain⟨dx,d⟩:=h.ob;exact⟨_,by rw[e];exact d⟩
 rcases Am.mp a with e|a
 ·exact⟨_,by rw[e];exact h.sv⟩
 obtain⟨s,f,a⟩:=Bc.mp a;obtain⟨j,c,e⟩:=AQ.mp f;exact(h.at_ j s _ (by rw[<- e];exact Aa c) (Aa (by rw[<- h.ln];exact c))).jz b a
theorem p8.jz{H:Hp}{c:List PlT}{ps:Laid}(h:p8 ad a3 H c ps):∀b∈fps c,∃o,H b=some o:=by
 intro b a;obtain⟨t,f,a⟩:=Bc.mp a;obtain⟨j,d,e⟩:=AQ.mp f;exact(h.at_ j t _ (by rw[<- e];exact Aa d) (Aa (by rw[<- h.ln];exact d))).jz b a
theorem p8.keep{H c:Hp}{a:List PlT}{ps:Laid}{C:List Ag}(h:p8 ad a3 H a ps)(k:mI C H c)(d:∀b∈fps a,b ∉ C)(e:∀t∈a,t.sh ∉ C):p8 ad a3 c a ps :=
 ⟨h.ln,fun j t p e1 f=>(h.at_ j t p e1 f).keep k (fun b g=>d b (Bc.mpr ⟨t,AE e1,g⟩)) (e t (AE e1)),h.nd,h.sh⟩
theorem p8.same{H a:Hp}{c:List PlT}{ps:Laid}(h:p8 ad a3 H c ps)(s:aM H a):p8 ad a3 a c ps:=h.keep (C := []) (fun b o _ e=>s b o e) (fun _ _ z=>by cases z) (fun _ _ z=>by cases z)
theorem p8.mid{H s:Hp}{A B:List PlT}{PA C:Laid}{t t':PlT}{p G:Sheet×List Shelf}(h:p8 ad a3 H (A++t::B) (PA++p::C))(I:A.length=PA.length)(k:mI t.fp H s)(ok:wa ad a3 s t' G)(es:t'.sh=t.sh)(J:t'.fp.Nodup)(X:∀b∈t'.fp,b∈t.fp\/H b=none):p8 ad a3 s (A++t'::B) (PA++G::C)/\mI (fps (A++t::B)) H s/\∀b∈fps (A++t'::B),b∈fps (A++t::B)\/H b=none:=by
 have Y:=h.nd;have Z:=h.sh;have so:=h.jz;rw[dv,fT] at Y;obtain⟨nA,M,O⟩:=Bm.mp Y;obtain⟨nT,nB,dT⟩:=Bm.mp M;have e1:fps (A++t::B)=fps A++(t.fp++fps B):=by rw[dv,fT]
 have R:fps (A++t'::B)=fps A++(t'.fp++fps B):=by rw[dv,fT]
 have lb:B.length=C.length:=by
  have:=h.ln;rw[Al,Al,A7,A7] at this;omega
 have S:∀b∈fps A,∃o,H b=some o:=fun b c=>so b (by rw[e1];exact AM _ c);have T:∀b∈fps B,∃o,H b=some o:=fun b c=>so b (by rw[e1];exact Au _ (Au _ c));have i:∀(b:Ag),(∃o,H b=some o)->b∈t'.fp->b∈t.fp:=fun b ⟨o,e⟩ c=>by
  rcases X b c with z|z
  ·exact z
  ·rw[z] at e;cases e
 have tm:t∈A++t::B:=Au _ Ad;have d:∀u∈A++t::B,u.sh ∉ t.fp:=fun u W z=>Z u W (by rw[e1];exact Au _ (AM _ z));refine⟨⟨?_,?_,?_,?_⟩,?_,?_⟩
 ·rw[Al,Al,A7,A7,I,lb]
 ·intro j u q f g
  by_cases l:j<A.length
  ·rw[A1 l] at f
   rw[A1 (by omega)] at g;have o:=h.at_ j u q (by rw[A1 l];exact f) (by rw[A1 (by omega)];exact g);have n:=AE f;exact o.keep k (fun b c z=>O b (Bc.mpr ⟨u,n,c⟩) b (AM _ z) rfl) (d u (AM _ n))
  ·rw[Aw (by omega)] at f
   rw[Aw (by omega),<- I] at g;cases hk:j-A.length with
   | zero =>
    rw[hk] at f g;obtain rfl:t'=u:=Ah f;obtain rfl:G=q:=Ah g;exact ok
   | succ m =>
    rw[hk] at f g;have f:B[m]? = some u:=f;have g:C[m]? = some q:=g;have o:=h.at_ j u q (by rw[Aw (by omega),hk];exact f) (by rw[Aw (by omega),<- I,hk];exact g);have n:=AE f;exact o.keep k (fun b c z=>dT b z b (Bc.mpr ⟨u,n,c⟩) rfl) (d u (Au _ (Ac _ n)))
 ·rw[R,Bm]
  refine⟨nA,Bm.mpr ⟨J,nB,fun a r b c e => ?_⟩,fun a r b c e => ?_⟩
  ·subst e
   exact dT a (i a (T a c) r) a c rfl
  ·subst e
   rcases A4.mp c with z|z
   ·exact O a r a (AM _ (i a (S a r) z)) rfl
   ·exact O a r a (Au _ z) rfl
 ·intro u W
  have key:∃v∈A++t::B,u.sh=v.sh:=by
   rcases A4.mp W with z|z
   ·exact⟨u,AM _ z,rfl⟩
   ·rcases Am.mp z with z|z
    ·exact⟨t,tm,by rw[z];exact es⟩
    ·exact⟨u,Au _ (Ac _ z),rfl⟩
  obtain⟨v,hv,ev⟩:=key;rw[ev,R];intro z;have E:=Z v hv;rw[e1] at E;obtain⟨j,l,e⟩:=AQ.mp hv;obtain⟨dx,ex⟩:=(h.at_ j v _ (by rw[<- e];exact Aa l) (Aa (by rw[<- h.ln];exact l))).sh;rcases A4.mp z with z|z
  ·exact E (AM _ z)
  ·rcases A4.mp z with z|z
   ·exact E (Au _ (AM _ (i _ ⟨_,ex⟩ z)))
   ·exact E (Au _ (Au _ z))
 ·exact k.mono fun b c=>by rw[e1];exact Au _ (AM _ c)
 ·intro b c
  rw[R] at c;rw[e1];rcases A4.mp c with z|z
  ·exact .inl (AM _ z)
  ·rcases A4.mp z with z|z
   ·exact(X b z).imp (fun y=>Au _ (AM _ y)) id
   ·exact .inl (Au _ (Au _ z))
end
theorem jR(A B:List Shelf):CG (A++B)=CG A+CG B:=by
 unfold CG
 induction A with
 | nil=>simp
 | cons a r b=>rw[E2,AA,Ea,b,AA,Ea];omega
theorem vW(h:Nat)(A:List Ly)(z:Ly):(⟨h,A++[z]⟩:Shelf).used=(⟨h,A⟩:Shelf).used+z.2.2.1:=by
 unfold Gla.Shelf.used;show((A++[z]).map _).foldr _ 0=(A.map _).foldr _ 0+_
 induction A with
 | nil=>simp
 | cons a r b=>rw[E2,AA,Ea,b,AA,Ea];omega
noncomputable def PlT.put(t:PlT)(b:List ShT):PlT:=⟨t.a,t.l,t.sh,b⟩
section
variable{P:AI}{w:AZ}{K:Lf}{mg:Lg}{base:B1}{ad:Adr}{a3:jq}
theorem aeT(t:PlT)(A B:List ShT)(s:ShT)(y:Ag):(t.put (A++⟨s.a,s.l,s.ys++[y]⟩::B)).fp.Perm (y::(t.put (A++s::B)).fp):=by
 show(t.a::t.l::(A++⟨s.a,s.l,s.ys++[y]⟩::B).flatMap ShT.fp).Perm (y::t.a::t.l::(A++s::B).flatMap ShT.fp);rw[BJ,BJ,BN,BN];have e:A.flatMap ShT.fp++(ShT.fp ⟨s.a,s.l,s.ys++[y]⟩++B.flatMap ShT.fp)=(A.flatMap ShT.fp++s.fp)++y::B.flatMap ShT.fp:=by
  show A.flatMap ShT.fp++((s.a::s.l::(s.ys++[y]))++B.flatMap ShT.fp)=(A.flatMap ShT.fp++(s.a::s.l::s.ys))++y::B.flatMap ShT.fp;simp
 rw[e];refine(((Js).cons t.l).cons t.a).trans ?_;rw[BZ];exact((JW y t.l _).cons t.a).trans (JW y t.a _)
theorem zN{H C:Hp}{t:PlT}{A B:List ShT}{s:ShT}{I:Sheet}{d f:List Shelf}{x:Shelf}{z:Ly}{y dx:Ag}(h:wa ad a3 H (t.put (A++s::B)) (I,d++x::f))(R:A.length=d.length)(o:(t.put (A++s::B)).fp.Nodup)(O:t.sh ∉ (t.put (A++s::B)).fp)(k:mI [s.a,s.l] H C)(Y:C s.a=some (.ins a3.shelf dx (shF I.w ⟨x.h,x.on++[z]⟩ s.l)))(Z:C s.l=some (.lst (s.ys.map V.ref++[.ref y])))(h3:sU a3 C y z):
  wa ad a3 C (t.put (A++⟨s.a,s.l,s.ys++[y]⟩::B)) (I,d++⟨x.h,x.on++[z]⟩::f):=by
 have o:(t.a::t.l::(A++s::B).flatMap ShT.fp).Nodup:=o;rw[BJ,BN] at o;have O:t.sh ∉ t.a::t.l::(A++s::B).flatMap ShT.fp:=O;rw[BJ,BN] at O;obtain⟨na,o⟩:=Bx.mp o;obtain⟨nl,o⟩:=Bx.mp o;obtain⟨a0,o,dA⟩:=Bm.mp o;obtain⟨S,a4,dS⟩:=Bm.mp o;have sa:s.a∈s.fp:=Ad;have sl:s.l∈s.fp:=Ac _ Ad;have g:∀b,b∈[s.a,s.l]->b∈s.fp:=fun b E=>by
  rcases Am.mp E with e|e
  ·rw[e];exact sa
  ·rw[Ao.mp e];exact sl
 have G:∀b,b∈s.fp->b∈A.flatMap ShT.fp++(s.fp++B.flatMap ShT.fp):=fun b E=>Au _ (AM _ E);obtain⟨W,ob⟩:=h.ob;obtain⟨T,os⟩:=h.sh;have xs:=h.at_ A.length s x (by show(A++s::B)[A.length]? = some s;rw[Aw (Ak _),BE];rfl) (by show(d++x::f)[A.length]? = some x;rw[R,Aw (Ak _),BE];rfl);refine⟨⟨W,?_⟩,⟨T,k _ _ (fun m=>O (Ac _ (Ac _ (G _ (g _ m))))) os⟩,?_,?_,?_⟩
 ·have e:plF (I,d++⟨x.h,x.on++[z]⟩::f) t.sh t.l=plF (I,d++x::f) t.sh t.l:=by
   unfold plF;rw[jR,jR];rfl
  show C t.a=some (.ins a3.pile W (plF (I,d++⟨x.h,x.on++[z]⟩::f) t.sh t.l));rw[e];exact k _ _ (fun m=>na (Ac _ (G _ (g _ m)))) ob
 ·have e:(A++⟨s.a,s.l,s.ys++[y]⟩::B).map (fun u:ShT=>V.ref u.a)=(A++s::B).map fun u=>V.ref u.a:=by rw[Ay,Ay];rfl
  show C t.l=some (.lst ((A++⟨s.a,s.l,s.ys++[y]⟩::B).map fun u:ShT=>V.ref u.a));rw[e];exact k _ _ (fun m=>nl (G _ (g _ m))) h.sv
 ·have:=h.ln
  show(A++_::B).length=(d++_::f).length;have this:(A++s::B).length=(d++x::f).length:=this;rw[Al,A7] at this ⊢;rw[Al,A7] at this ⊢;exact this
 ·intro j u v c n
  have c:(A++⟨s.a,s.l,s.ys++[y]⟩::B)[j]? = some u:=c;have n:(d++⟨x.h,x.on++[z]⟩::f)[j]? = some v:=n
  by_cases hj:j<A.length
  ·rw[A1 hj] at c
   rw[A1 (by omega)] at n;refine(h.at_ j u v (by show(A++s::B)[j]? = _;rw[A1 hj];exact c) (by show(d++x::f)[j]? = _;rw[A1 (by omega)];exact n)).keep k fun b E m => ?_;exact dA b (Bc.mpr ⟨u,AE c,E⟩) b (AM _ (g b m)) rfl
  ·rw[Aw (by omega)] at c
   rw[Aw (by omega),<- R] at n;cases hk:j-A.length with
   | zero =>
    rw[hk] at c n;obtain rfl:=Ah c;obtain rfl:=Ah n;refine⟨⟨dx,Y⟩,by rw[Z,Ay];rfl,?_,?_⟩
    ·show(s.ys++[y]).length=(x.on++[z]).length
     rw[Al,Al,xs.on.len];rfl
    ·intro i p q r J
     have r:(s.ys++[y])[i]? = some p:=r;have J:(x.on++[z])[i]? = some q:=J
     by_cases hi:i<s.ys.length
     ·rw[A1 hi] at r
      rw[A1 (by rw[<- xs.on.len];exact hi)] at J;obtain⟨dq,e3⟩:=xs.on.at_ i p q r J;have X:=AE r;obtain⟨n1,n2⟩:=Bx.mp (show(s.a::s.l::s.ys).Nodup from S);obtain⟨n3,_⟩:=Bx.mp n2;refine⟨dq,k _ _ (fun m => ?_) e3⟩;rcases Am.mp m with e|e
      ·exact n1 (Ac _ (e▸X))
      ·exact n3 ((Ao.mp e)▸X)
     ·have M:i=s.ys.length:=by
       have:=(Aj.mp r).1;rw[Al] at this;simp at this;omega
      rw[M,Aw (Ak _),BE] at r;rw[M,xs.on.len,Aw (Ak _),BE] at J;obtain rfl:y=p:=Ah r;obtain rfl:z=q:=Ah J;exact h3
   | succ m =>
    rw[hk] at c n;have c:B[m]? = some u:=c;have n:f[m]? = some v:=n;refine(h.at_ j u v (by show(A++s::B)[j]? = _;rw[Aw (by omega),hk];exact c) (by show(d++x::f)[j]? = _;rw[Aw (by omega),<- R,hk];exact n)).keep k fun b E w => ?_;exact dS b (g b w) b (Bc.mpr ⟨u,AE c,E⟩) rfl
theorem zf{H c:Hp}{t:PlT}{o:Sheet}{X:List Shelf}{z:Ly}{a g y dx C:Ag}(h:wa ad a3 H t (o,X))(r:t.fp.Nodup)(I:t.sh ∉ t.fp)(k:mI [t.a,t.l] H c)(J:c t.a=some (.ins a3.pile C (plF (o,X++[⟨z.2.2.2,[z]⟩]) t.sh t.l)))(M:c t.l=some (.lst (t.ss.map (fun u=>V.ref u.a)++[.ref a])))(O:c a=some (.ins a3.shelf dx (shF o.w ⟨z.2.2.2,[z]⟩ g)))(R:c g=some (.lst [.ref y]))(S:sU a3 c y z):
  wa ad a3 c (t.put (t.ss++[⟨a,g,[y]⟩])) (o,X++[⟨z.2.2.2,[z]⟩]):=by
 obtain⟨s,T⟩:=h.sh;obtain⟨W,r⟩:=Bx.mp (show(t.a::t.l::t.ss.flatMap ShT.fp).Nodup from r);obtain⟨Y,r⟩:=Bx.mp r;have A:∀b,b∈[t.a,t.l]->b∈t.fp:=fun b B=>by
  rcases Am.mp B with e|e
  ·rw[e];exact Ad
  ·rw[Ao.mp e];exact Ac _ Ad
 refine⟨⟨C,J⟩,⟨s,k _ _ (fun m=>I (A _ m)) T⟩,?_,?_,?_⟩
 ·show c t.l=some (.lst ((t.ss++([⟨a,g,[y]⟩]:List ShT)).map fun u:ShT=>V.ref u.a))
  rw[Ay];exact M
 ·show(t.ss++[_]).length=(X++[_]).length
  rw[Al,Al,h.ln];rfl
 ·intro j u v d f
  have d:(t.ss++([⟨a,g,[y]⟩]:List ShT))[j]? = some u:=d;have f:(X++([⟨z.2.2.2,[z]⟩]:List Shelf))[j]? = some v:=f;have ln:t.ss.length=X.length:=h.ln
  by_cases hj:j<t.ss.length
  ·rw[A1 hj] at d
   rw[A1 (by omega)] at f;refine(h.at_ j u v d f).keep k fun b B m => ?_;have E:b∈t.ss.flatMap ShT.fp:=Bc.mpr ⟨u,AE d,B⟩;rcases Am.mp m with e|e
   ·exact W (Ac _ (e▸E))
   ·exact Y ((Ao.mp e)▸E)
  ·have n:j=t.ss.length:=by
    have:=(Aj.mp d).1;rw[Al] at this;simp at this;omega
   rw[n,Aw (Ak _),BE] at d;rw[n,ln,Aw (Ak _),BE] at f;obtain rfl:=Ah d;obtain rfl:=Ah f;exact⟨⟨dx,O⟩,R,rfl,fun i p q G Z=>by
    cases i with
    | zero=>cases G;cases Z;exact S
    | succ i=>cases G⟩
theorem zA(t:PlT)(a b y:Ag):(t.put (t.ss++[⟨a,b,[y]⟩])).fp=t.fp++[a,b,y]:=by
 show t.a::t.l::(t.ss++([⟨a,b,[y]⟩]:List ShT)).flatMap ShT.fp=(t.a::t.l::t.ss.flatMap ShT.fp)++[a,b,y];rw[BJ];rfl
noncomputable def piV(a:Ag)(b:Int)(l:Ag):List (AW×V) := [("sheet",.ref a),("height_left",.int b),("shelves",.ref l)]
inductive afa(ad:Adr)(a3:jq)(vs:List V)(H:Hp)(Q:VK)(E:XK):Prop
 | mk (p y sh l dx dxs:Ag)(hl:Int)(s:Sheet)(xs:List V)(z:Ly)(c0:vs=[.ref p,.ref y])(c1:H p=some (.ins a3.pile dx (piV sh hl l)))(c2:H sh=some (.ins ad.sheet dxs (sV s)))(c3:H l=some (.lst xs))(c4:xs.length<sizeLine)(c5:sU a3 H y z)(c6:∀H' a la dxa,H a=none->H la=none->a≠la->mI [p,l] H H'->H' p=some (.ins a3.pile dx (piV sh (hl-(z.2.2.2:Int)) l))->H' l=some (.lst (xs++[.ref a]))->H' a=some (.ins a3.shelf dxa (shV (z.2.2.2:Int) ((s.w:Int)-(z.2.2.1:Int)) la))->H' la=some (.lst [.ref y])->Q .non H')
noncomputable abbrev af9:Stmt:=(inClass (top 71) 1)
theorem ag1(D:sy K a3.pile "begin_shelf" "Pile.begin_shelf" af9 ["self","lying"])(T:Txt K mg ad)(u:xY K mg a3)(uU:KlG P w K mg base 1 "Shelf" a3.shelf (aiw a3))(pC:Me P w K mg base 1 a3.shelf "take" ["self","lying"] (wG a3)):Me P w K mg base 3 a3.pile "begin_shelf" ["self","lying"] (afa ad a3):=by
 refine D.fx u.pile.cl ["self","lying","shelf"] ?_;rintro nd f a0 A I s0 H vs Q E X ⟨p,y,sh,l,dx,dxs,hl,s,xs,z,rfl,B,hs,C,ln,⟨dy,Y⟩,q⟩;refine⟨_,(kxs 2 nd (ajc uU X (ab (aA (pv 1) rfl) (ab (aA (aA (pv 0) rfl) rfl) ah))) (kxe (gF (pv 2) pC (X.mono (by decide)) (ab (pv 1) ah)) (kxe (kxA (aA (pv 0) rfl) (pv 2)) (aE (bb (pv 0) (aV dE (aA (pv 0) rfl) (aA (pv 2) rfl)) rfl))))),?_⟩;refine⟨_,rfl,fl Y u.lying ahN ⟨_,rfl,fl B u.pile rfl (fl hs T.sheet ahG ?_)⟩⟩;intro a c v J ne;refine⟨a,c,_,_,rfl,ag,fun d i=>⟨rfl,?_⟩⟩;have j:d≠a:=fun e=>by rw[e,ag] at i;cases i
 have M:d≠c:=fun e=>by rw[aw j,e,ag] at i;cases i
 have g:H d=none:=by rw[aw j,aw M] at i;exact i
 have Z:aM H (upd (upd (upd (upd H c (.own a)) a (.ins a3.shelf c [])) d (.lst [])) a (.ins a3.shelf c [("height",.int (z.2.2.2:Int)),("width_left",.int (s.w:Int)),("laid",.ref d)])):=fun b o e=>by
  rw[aw (aB e v),aw (aB e g),aw (aB e v),aw (aB e J)];exact e
 have a1:(upd (upd (upd (upd H c (.own a)) a (.ins a3.shelf c [])) d (.lst [])) a (.ins a3.shelf c [("height",.int (z.2.2.2:Int)),("width_left",.int (s.w:Int)),("laid",.ref d)])) a=some (.ins a3.shelf c (shV (z.2.2.2:Int) (s.w:Int) d)):=ag;have l1:(upd (upd (upd (upd H c (.own a)) a (.ins a3.shelf c [])) d (.lst [])) a (.ins a3.shelf c [("height",.int (z.2.2.2:Int)),("width_left",.int (s.w:Int)),("laid",.ref d)])) d=some (.lst []):=by rw[aw j,ag]
 generalize upd (upd (upd (upd H c (.own a)) a (.ins a3.shelf c [])) d (.lst [])) a (.ins a3.shelf c [("height",.int (z.2.2.2:Int)),("width_left",.int (s.w:Int)),("laid",.ref d)])=H1 at *
 refine⟨_,rfl,a,c,_,rfl,a1,rfl,_,rfl,a,y,d,c,_,_,[],z,rfl,a1,l1,by show 0<sizeLine;decide,⟨dy,Z _ _ Y⟩,?_⟩;have r:∀b o,H b=some o->(upd (upd H1 d (.lst ([]++[.ref y]))) a (.ins a3.shelf c (shV (z.2.2.2:Int) ((s.w:Int)-(z.2.2.1:Int)) d))) b=some o:=fun b o e=>by
  rw[aw (aB e v),aw (aB e g)];exact Z _ _ e
 have a2:(upd (upd H1 d (.lst ([]++[.ref y]))) a (.ins a3.shelf c (shV (z.2.2.2:Int) ((s.w:Int)-(z.2.2.1:Int)) d))) a=some (.ins a3.shelf c (shV (z.2.2.2:Int) ((s.w:Int)-(z.2.2.1:Int)) d)):=ag;have l2:(upd (upd H1 d (.lst ([]++[.ref y]))) a (.ins a3.shelf c (shV (z.2.2.2:Int) ((s.w:Int)-(z.2.2.1:Int)) d))) d=some (.lst [.ref y]):=by rw[aw j,ag];rfl
 generalize upd (upd H1 d (.lst ([]++[.ref y]))) a (.ins a3.shelf c (shV (z.2.2.2:Int) ((s.w:Int)-(z.2.2.1:Int)) d))=H2 at *
 have G:p≠l:=d5 B C;have O:a≠l:=fun e=>by rw[e,C] at v;cases v
 have R:d≠l:=fun e=>by rw[e,C] at g;cases g
 have S:a≠p:=fun e=>by rw[e,B] at v;cases v
 have W:d≠p:=fun e=>by rw[e,B] at g;cases g
 refine⟨_,rfl,fl (r _ _ B) u.pile rfl ⟨.inl ⟨rfl,_,SqL.of (r _ _ C)⟩,_,rfl,l,xs,_,rfl,rfl,r _ _ C,ln,?_⟩⟩;have p3:(upd H2 l (.lst (xs++[.ref a]))) p=some (.ins a3.pile dx (piV sh hl l)):=by rw[aw G];exact r _ _ B
 have a4:(upd H2 l (.lst (xs++[.ref a]))) a=some (.ins a3.shelf c (shV (z.2.2.2:Int) ((s.w:Int)-(z.2.2.1:Int)) d)):=by rw[aw O];exact a2
 refine⟨_,rfl,fl p3 u.pile rfl ⟨_,rfl,fl a4 u.shelf rfl ⟨_,_,rfl,rfl,_,rfl,p,_,dx,_,rfl,p3,u.pile.cl,u.pile.no _ (by decide +kernel),AL rfl,?_⟩⟩⟩;refine q _ a d c v g (Ne.symm j) (fun b o n e => ?_) ag ?_ ?_ ?_
 ·rw[aw (fun m=>n (by rw[m];exact Ad)),aw (fun m=>n (by rw[m];exact Ac _ Ad))]
  exact r b o e
 ·rw[aw (Ne.symm G),ag]
 ·rw[aw S];exact a4
 ·rw[aw W,aw R];exact l2
end
theorem iA{α:Type}{l:List α}{j:Nat}{x:α}(h:l[j]? = some x):l=l.take j++x::l.drop (j+1):=by
 obtain⟨a,rfl⟩:=Aj.mp h;rw[<- Bh a,D4]
theorem kH{α:Type}(f:α->α):∀(A:List α)(x:α)(B:List α),(A++x::B).modify A.length f=A++f x::B
 | [],x,B=>rfl
 | a::A,x,B=>by
  rw[E2,A7,List.modify_succ_cons,kH f A x B];rfl
theorem acJ(i:Nat)(x:Item)(s:Sheet)(h:Shelf):(abq i x s).find? (xA ((s.w:Int)-(h.used:Int)) (h.h:Int))=(GC s x h).map (dP i x):=by
 unfold abq GC;rw[JX]
 congr 2
 funext t
 show(decide (((x.lies t).1:Int)<=(s.w:Int)-(h.used:Int))&&decide (((x.lies t).2:Int)<=(h.h:Int)))=_;rw[Ih]
 congr 1
 ·exact Ba.mpr ⟨fun z=>by omega,fun z=>by omega⟩
 ·exact Ba.mpr ⟨fun z=>by omega,fun z=>by omega⟩
theorem aeV(i:Nat)(x:Item)(s:Sheet)(l:List Shelf):(abq i x s).find? (xA (s.w:Int) ((s.h:Int)-(CG l:Int)))=(Ex s x l).map (dP i x):=by
 unfold abq Ex;rw[JX]
 congr 2
 funext t
 show(decide (((x.lies t).1:Int)<=(s.w:Int))&&decide (((x.lies t).2:Int)<=(s.h:Int)-(CG l:Int)))=_;rw[Ih]
 congr 1
 ·exact Ba.mpr ⟨fun z=>by omega,fun z=>by omega⟩
 ·exact Ba.mpr ⟨fun z=>by omega,fun z=>by omega⟩
noncomputable def sfF(s:Sheet)(x:Item)(y:Shelf×Nat):Option (Nat×Bool):=(GC s x y.1).map fun(t:Bool)=>(y.2,t)
noncomputable def sj(i:Nat)(x:Item)(t:Bool)(h:Shelf):Shelf:=⟨h.h,h.on++[dP i x t]⟩
theorem qz{i:Nat}{x:Item}{s:Sheet}{l:List Shelf}{r:Laid}(g:s.glass=x.glass):B4 i x ((s,l)::r)=match l.zipIdx.findSome? (sfF s x) with
  | some (k,t)=>some ((s,l.modify k (sj i x t))::r)
  | none=>(B4 i x r).map fun(q:Laid)=>(s,l)::q:=by
 conv=>lhs;unfold B4
 rw[As g];rfl
theorem pQ{i:Nat}{x:Item}{s:Sheet}{l:List Shelf}{r:Laid}(g:s.glass=x.glass):B6 i x ((s,l)::r)=match Ex s x l with
  | some t=>some ((s,l++[⟨(dP i x t).2.2.2,[dP i x t]⟩])::r)
  | none=>(B6 i x r).map fun(q:Laid)=>(s,l)::q:=by
 conv=>lhs;unfold B6
 rw[As g];rfl
section
variable{P:AI}{w:AZ}{K:Lf}{mg:Lg}{base:B1}{ad:Adr}{a3:jq}
def agQ(ps:Laid):Prop:=∀p∈ps,p.2.length<65535/\∀h∈p.2,h.on.length<65535
inductive ug(ad:Adr)(a3:jq)(put:Nat->Item->Laid->Option Laid)(vs:List V)(H:Hp)(Q:VK)(E:XK):Prop
 | mk (i:Nat)(b lp:Ag)(x:Item)(ts:List PlT)(ps:Laid)(c0:vs=[.int (i:Int),.ref b,.ref lp])(c1:eV ad H b x)(c2:H lp=some (.lst (ts.map fun t=>V.ref t.a)))(c3:p8 ad a3 H ts ps)(c4:∀p∈ps,p.1.glass=x.glass)(c5:agQ ps)(c6:put i x ps=none->∀H',aM H H'->Q (.bl false) H')(c7:∀ps' ts' H',put i x ps=some ps'->p8 ad a3 H' ts' ps'->mI (fps ts) H H'->(ts'.map fun t=>(V.ref t.a,t.sh))=(ts.map fun t=>(V.ref t.a,t.sh))->(∀b∈fps ts',b∈fps ts\/H b=none)->Q (.bl true) H')
noncomputable abbrev agk:Stmt:=(top 76)
theorem afI(D:Def K mg "lay_on_shelf" agk ["pane","blank","piles"])(T:Txt K mg ad)(T3:xY K mg a3)(bV:Fn P w K mg base 3 "ways_to_lie" ["pane","blank","sheet"] (ab6 ad a3))(br:Fn P w K mg base 1 "first_that_fits" ["ways","width","height"] (ab1 a3))(pC:Me P w K mg base 1 a3.shelf "take" ["self","lying"] (wG a3)):Fn P w K mg base 4 "lay_on_shelf" ["pane","blank","piles"] (ug ad a3 B4):=by
 refine D.fx ["pane","blank","piles","pile","ways","shelf","lying"] ?_;rintro nd f b2 A a7 s0 H vs Q E hr ⟨i,b,lp,x,Z,ps,rfl,hb,a0,ok,hg,sm,qn,qs⟩;refine⟨_,(az (a8 AJ rfl (aY (pv 2)) (kxo 3 nd) (kxs 4 nd (kxF bV hr (ab (pv 0) (ab (pv 1) (ab (aA (pv 3) rfl) ah)))) (aE (a8 AJ rfl (aY (aA (pv 3) rfl)) (kxo 5 nd) (kxs 6 nd (kxF br hr (ab (pv 4) (ab (aA (pv 5) rfl) (ab (aA (pv 5) rfl) ah)))) (aE (cg (gg (mC (pv 6))) (kxe (gF (pv 5) pC (hr.mono (by decide)) (ab (pv 6) ah)) (kxr iF)) aR))))))) (kxr iF)),?_⟩;refine⟨_,rfl,lp,rfl,⟨_,SqL.of a0⟩,bB (K:=K) (a:=lp) (xs:=Z.map fun t=>V.ref t.a) (fun j σ H'=>(∃v1 v2 O R,σ=[some (.int (i:Int)),some (.ref b),some (.ref lp),v1,v2,O,R])/\aM H H'/\B4 i x ps=(B4 i x (ps.drop j)).map fun q=>ps.take j++q) ⟨⟨_,_,_,_,rfl⟩,fun _ _ e=>e,by rw[CP,HL];cases B4 i x ps <;> rfl⟩ (fun j σ H' _ ⟨_,e,_⟩=>SqL.of (e _ _ a0)) ?_ ?_⟩
 ·rintro j v σ H' S ⟨⟨v1,v2,O,R,rfl⟩,W,B⟩
  have hj:j<Z.length:=by
   have:=(Aj.mp S).1;rw[Ab] at this;exact this
  have r:j<ps.length:=by rw[<- ok.ln];exact hj
  rw[Av,Aa hj] at S;obtain rfl:=Ah S;have pl:=ok.at_ j _ _ (Aa hj) (Aa r);have et:=iA (Aa hj);have aa:=iA (Aa r);have gl:=hg _ (AX r);have ae:=sm _ (AX r);rw[Bh r] at B;have af:ps.take (j+1)=ps.take j++[ps[j]]:=take_snoc (Aa r);generalize Z[j]=t at *
  generalize ps[j]=p at *
  obtain⟨s,l⟩:=p;rw[qz gl] at B;obtain⟨dp,ob⟩:=pl.ob;obtain⟨ai,os⟩:=pl.sh;refine⟨_,rfl,_,rfl,_,rfl,fl (W _ _ ob) T3.pile rfl ⟨i,b,t.sh,ai,x,s,rfl,(cT ad).same _ _ _ _ W hb,W _ _ os,fun H1 lw ys s1 lo ny => ?_⟩⟩;have g:=W.trans s1;have aj:∀y∈ys,H y=none:=fun y hy=>by
   cases e:H y with
   | none=>rfl
   | some o =>
    have z:=ny y hy;rw[W _ _ e] at z;cases z
  refine⟨_,rfl,fl (g _ _ ob) T3.pile rfl ⟨t.l,rfl,⟨_,SqL.of (g _ _ pl.sv)⟩,bB (K:=K) (a:=t.l) (xs:=t.ss.map fun u=>V.ref u.a) (fun k σ H2=>(∃O R,σ=[some (.int (i:Int)),some (.ref b),some (.ref lp),some (.ref t.a),some (.ref lw),O,R])/\H1=H2/\l.zipIdx.findSome? (sfF s x)=((l.drop k).zipIdx k).findSome? (sfF s x)) ⟨⟨_,_,rfl⟩,rfl,rfl⟩ (fun k σ H2 _ ⟨_,e,_⟩=>by rw[<- e];exact SqL.of (g _ _ pl.sv)) ?_ ?_⟩⟩
  ·rintro k v σ H2 S ⟨⟨O,R,rfl⟩,rfl,C⟩
   have hk:k<t.ss.length:=by
    have:=(Aj.mp S).1;rw[Ab] at this;exact this
   have G:k<l.length:=by
    have ln:t.ss.length=l.length:=pl.ln;omega
   rw[Av,Aa hk] at S;obtain rfl:=Ah S;have so:=pl.at_ k _ _ (Aa hk) (Aa G);have a4:=iA (Aa hk);have el:=iA (Aa G);have b3:=ae.2 _ (AX G);rw[Bh G,Fy,Ia] at C;have lk:(t.ss.take k).length=k:=by rw[AO];omega
   have a5:(l.take k).length=k:=by rw[AO];omega
   generalize t.ss[k]=u at *
   generalize l[k]=h at *
   obtain⟨M,uo⟩:=so.ob;have I:=g _ _ uo;have wf:=acJ i x s h;refine⟨_,rfl,_,rfl,fl I T3.shelf rfl ⟨_,rfl,fl I T3.shelf rfl ⟨lw,_,_,_,ys,rfl,lo,fun hn => ?_,fun z y hf my hy => ?_⟩⟩⟩
   ·refine⟨_,rfl,_,rfl,jt ⟨⟨_,_,rfl⟩,rfl,?_⟩⟩
    rw[wf] at hn;have e0:sfF s x (h,k)=none:=by unfold sfF;rw[Di.mp hn];rfl
    rw[C,e0]
   ·rw[wf] at hf
    obtain⟨d,au,rfl⟩:=C9.mp hf;have e0:sfF s x (h,k)=some (k,d):=by unfold sfF;rw[au];rfl
    rw[e0] at C;have C:l.zipIdx.findSome? (sfF s x)=some (k,d):=C;rw[C] at B;have B:B4 i x ps=some (ps.take j++(s,l.modify k (sj i x d))::ps.drop (j+1)):=B;refine⟨_,rfl,_,rfl,jO ⟨_,rfl,u.a,M,_,rfl,I,rfl,_,rfl,u.a,y,u.l,M,_,_,_,_,rfl,I,g _ _ so.on.lst,?_,hy,?_⟩⟩
    ·rw[Ab,so.on.len];exact aT (by omega)
    have yn:=aj y my;have av:u.a≠u.l:=d5 uo so.on.lst;have ya:y≠u.a:=fun e=>by rw[e,uo] at yn;cases yn
    have yl:y≠u.l:=fun e=>by rw[e,so.on.lst] at yn;cases yn
    have uf:u.a∈t.fp/\u.l∈t.fp:=by
     have mu:u∈t.ss:=by rw[a4];exact Au _ Ad
     exact⟨Ac _ (Ac _ (Bc.mpr ⟨u,mu,Ad⟩)),Ac _ (Ac _ (Bc.mpr ⟨u,mu,Ac _ Ad⟩))⟩
    have kp:mI [u.a,u.l] H (upd (upd H1 u.l (.lst (u.ys.map V.ref++[.ref y]))) u.a (.ins a3.shelf M (shV (h.h:Int) ((s.w:Int)-(h.used:Int)-((dP i x d).2.2.1:Int)) u.l))):=fun c o n e=>by
     rw[aw (fun m=>n (by rw[m];exact Ad)),aw (fun m=>n (by rw[m];exact Ac _ Ad))];exact g _ _ e
    have ea:shV (h.h:Int) ((s.w:Int)-(h.used:Int)-((dP i x d).2.2.1:Int)) u.l=shF s.w ⟨h.h,h.on++[dP i x d]⟩ u.l:=by
     unfold shV shF;rw[vW];have:(s.w:Int)-(h.used:Int)-((dP i x d).2.2.1:Int)=(s.w:Int)-(((⟨h.h,h.on⟩:Shelf).used+(dP i x d).2.2.1:Nat):Int):=by
      have:(⟨h.h,h.on⟩:Shelf).used=h.used:=rfl;rw[this];omega
     rw[this]
    have h1:(upd (upd H1 u.l (.lst (u.ys.map V.ref++[.ref y]))) u.a (.ins a3.shelf M (shV (h.h:Int) ((s.w:Int)-(h.used:Int)-((dP i x d).2.2.1:Int)) u.l))) u.a=some (.ins a3.shelf M (shF s.w ⟨h.h,h.on++[dP i x d]⟩ u.l)):=by rw[ag,ea]
    have h2:(upd (upd H1 u.l (.lst (u.ys.map V.ref++[.ref y]))) u.a (.ins a3.shelf M (shV (h.h:Int) ((s.w:Int)-(h.used:Int)-((dP i x d).2.2.1:Int)) u.l))) u.l=some (.lst (u.ys.map V.ref++[.ref y])):=by rw[aw (Ne.symm av),ag]
    have h3:sU a3 (upd (upd H1 u.l (.lst (u.ys.map V.ref++[.ref y]))) u.a (.ins a3.shelf M (shV (h.h:Int) ((s.w:Int)-(h.used:Int)-((dP i x d).2.2.1:Int)) u.l))) y (dP i x d):=by
     obtain⟨dy,e⟩:=hy;exact⟨dy,by rw[aw ya,aw yl];exact e⟩
    generalize upd (upd H1 u.l (.lst (u.ys.map V.ref++[.ref y]))) u.a (.ins a3.shelf M (shV (h.h:Int) ((s.w:Int)-(h.used:Int)-((dP i x d).2.2.1:Int)) u.l))=H3 at *
    have J:t=t.put (t.ss.take k++u::t.ss.drop (k+1)):=by rw[<- a4];rfl
    have X:p8 ad a3 H (Z.take j++t::Z.drop (j+1)) (ps.take j++(s,l)::ps.drop (j+1)):=by rw[<- et,<- aa];exact ok
    have a6:t.fp.Nodup:=by
     have:=X.nd;rw[dv,fT] at this;exact(Bm.mp (Bm.mp this).2.1).1
    have ax:t.sh ∉ t.fp:=fun m=>X.sh t (Au _ Ad) (by rw[dv,fT];exact Au _ (AM _ m));have b1:wa ad a3 H (t.put (t.ss.take k++u::t.ss.drop (k+1))) (s,l.take k++h::l.drop (k+1)):=by rw[<- J,<- el];exact pl
    have pt:=zN b1 (by rw[lk,a5]) (by rw[<- J];exact a6) (by rw[<- J];exact ax) kp h1 h2 h3;have Y:=aeT t (t.ss.take k) (t.ss.drop (k+1)) u y;rw[<- J] at Y;have yt:y ∉ t.fp:=fun m=>by
     obtain⟨o,e⟩:=pl.jz y m;rw[yn] at e;cases e
    have la:(Z.take j).length=(ps.take j).length:=by rw[AO,AO];have:=ok.ln;omega
    obtain⟨r1,r2,r3⟩:=X.mid la (kp.mono fun c hc=>by
     rcases Am.mp hc with e|e
     ·rw[e];exact uf.1
     ·rw[Ao.mp e];exact uf.2) pt rfl (Y.nodup_iff.mpr (Bx.mpr ⟨yt,a6⟩)) (fun c hc=>by
     rcases Am.mp (Y.mem_iff.mp hc) with e|e
     ·rw[e];exact .inr yn
     ·exact .inl e)
    rw[<- et] at r2 r3;have em:l.modify k (sj i x d)=l.take k++⟨h.h,h.on++[dP i x d]⟩::l.drop (k+1):=by
     have:=kH (sj i x d) (l.take k) h (l.drop (k+1));rw[a5,<- el] at this;exact this
    rw[em] at B;refine qs _ _ H3 B r1 r2 ?_ r3
    conv=>rhs;rw[et]
    rw[Ay,Ay];rfl
  ·rintro σ H2 ⟨⟨O,R,rfl⟩,rfl,C⟩
   have ln:=pl.ln;rw[Ab,show t.ss.length=l.length from ln,CI] at C;have C:l.zipIdx.findSome? (sfF s x)=none:=C;rw[C] at B;refine⟨⟨_,_,_,_,rfl⟩,g,?_⟩;rw[B,af];dsimp only;cases B4 i x (ps.drop (j+1)) with
   | none=>rfl
   | some q=>show some (ps.take j++(s,l)::q)=some ((ps.take j++[(s,l)])++q);rw[BZ];rfl
 ·rintro σ H' ⟨⟨v1,v2,O,R,rfl⟩,W,B⟩
  rw[Ab,ok.ln,CI] at B;exact qn B H' W
noncomputable abbrev ahy:Stmt:=(top 77)
theorem agD(D:Def K mg "lay_on_new_shelf" ahy ["pane","blank","piles"])(T:Txt K mg ad)(T3:xY K mg a3)(bV:Fn P w K mg base 3 "ways_to_lie" ["pane","blank","sheet"] (ab6 ad a3))(br:Fn P w K mg base 1 "first_that_fits" ["ways","width","height"] (ab1 a3))(f9:Me P w K mg base 3 a3.pile "begin_shelf" ["self","lying"] (afa ad a3)):Fn P w K mg base 4 "lay_on_new_shelf" ["pane","blank","piles"] (ug ad a3 B6):=by
 refine D.fx ["pane","blank","piles","pile","lying"] ?_;rintro nd f b5 A a5 s0 H vs Q E hr ⟨i,b,lp,x,O,ps,rfl,hb,R,ok,hg,sm,qn,qs⟩;refine⟨_,(az (a8 AJ rfl (aY (pv 2)) (kxo 3 nd) (kxs 4 nd (kxF br hr (ab (kxF bV hr (ab (pv 0) (ab (pv 1) (ab (aA (pv 3) rfl) ah)))) (ab (aA (aA (pv 3) rfl) rfl) (ab (aA (pv 3) rfl) ah)))) (aE (cg (gg (mC (pv 4))) (kxe (gF (pv 3) f9 (hr.mono (by decide)) (ab (pv 4) ah)) (kxr iF)) aR)))) (kxr iF)),?_⟩;refine⟨_,rfl,lp,rfl,⟨_,SqL.of R⟩,bB (K:=K) (a:=lp) (xs:=O.map fun t=>V.ref t.a) (fun j σ S=>(∃v1 v2,σ=[some (.int (i:Int)),some (.ref b),some (.ref lp),v1,v2])/\aM H S/\B6 i x ps=(B6 i x (ps.drop j)).map fun q=>ps.take j++q) ⟨⟨_,_,rfl⟩,fun _ _ e=>e,by rw[CP,HL];cases B6 i x ps <;> rfl⟩ (fun j σ S _ ⟨_,e,_⟩=>SqL.of (e _ _ R)) ?_ ?_⟩
 ·rintro j v σ S hv ⟨⟨v1,v2,rfl⟩,I,B⟩
  have hj:j<O.length:=by
   have:=(Aj.mp hv).1;rw[Ab] at this;exact this
  have u:j<ps.length:=by rw[<- ok.ln];exact hj
  rw[Av,Aa hj] at hv;obtain rfl:=Ah hv;have pl:=ok.at_ j _ _ (Aa hj) (Aa u);have et:=iA (Aa hj);have a6:=iA (Aa u);have gl:=hg _ (AX u);have a7:=sm _ (AX u);rw[Bh u] at B;have aa:ps.take (j+1)=ps.take j++[ps[j]]:=take_snoc (Aa u);generalize O[j]=t at *
  generalize ps[j]=p at *
  obtain⟨s,l⟩:=p;rw[pQ gl] at B;obtain⟨dp,ob⟩:=pl.ob;obtain⟨W,os⟩:=pl.sh;refine⟨_,rfl,_,rfl,_,rfl,fl (I _ _ ob) T3.pile rfl ⟨i,b,t.sh,W,x,s,rfl,(cT ad).same _ _ _ _ I hb,I _ _ os,fun H1 lw ys s1 lo ny => ?_⟩⟩;have g:=I.trans s1;have ae:∀y∈ys,H y=none:=fun y hy=>by
   cases e:H y with
   | none=>rfl
   | some o =>
    have z:=ny y hy;rw[I _ _ e] at z;cases z
  have wf:=aeV i x s l;refine⟨_,rfl,fl (g _ _ ob) T3.pile rfl (fl (g _ _ os) T.sheet ahG ⟨_,rfl,fl (g _ _ ob) T3.pile rfl ⟨lw,_,_,_,ys,rfl,lo,fun hn => ?_,fun z y hf my hy => ?_⟩⟩)⟩
  ·refine⟨_,rfl,_,rfl,jt ⟨⟨_,_,rfl⟩,g,?_⟩⟩
   rw[wf] at hn;have hn:Ex s x l=none:=Di.mp hn;rw[show Ex (s,l).1 x l=none from hn] at B;rw[B,aa];dsimp only;cases B6 i x (ps.drop (j+1)) with
   | none=>rfl
   | some q=>show some (ps.take j++(s,l)::q)=some ((ps.take j++[(s,l)])++q);rw[BZ];rfl
  ·rw[wf] at hf
   obtain⟨r,af,rfl⟩:=C9.mp hf;rw[show Ex (s,l).1 x l=some r from af] at B;have B:B6 i x ps=some (ps.take j++(s,l++[⟨(dP i x r).2.2.2,[dP i x r]⟩])::ps.drop (j+1)):=B;have ln:t.ss.length=l.length:=pl.ln;refine⟨_,rfl,_,rfl,jO ⟨_,rfl,t.a,dp,_,rfl,g _ _ ob,rfl,_,rfl,t.a,y,t.sh,t.l,dp,W,_,s,_,_,rfl,g _ _ ob,g _ _ os,g _ _ pl.sv,?_,hy,fun H3 a la b6 na J ai kp aj au av X => ?_⟩⟩
   ·rw[Ab,ln];exact aT (by have:l.length<65535:=a7.1;omega)
   have M:p8 ad a3 H (O.take j++t::O.drop (j+1)) (ps.take j++(s,l)::ps.drop (j+1)):=by rw[<- et,<- a6];exact ok
   have Y:t.fp.Nodup:=by
    have:=M.nd;rw[dv,fT] at this;exact(Bm.mp (Bm.mp this).2.1).1
   have ax:t.sh ∉ t.fp:=fun m=>M.sh t (Au _ Ad) (by rw[dv,fT];exact Au _ (AM _ m));have Z:∀c,c∈[t.a,t.l]->c∈t.fp:=fun c G=>by
    rcases Am.mp G with e|e
    ·rw[e];exact Ad
    ·rw[Ao.mp e];exact Ac _ Ad
   have a0:∀c∈t.fp,H1 c≠none:=fun c G e=>by
    obtain⟨o,e2⟩:=pl.jz c G;rw[g _ _ e2] at e;cases e
   have a4:mI [t.a,t.l] H H3:=fun c o n e=>kp c o n (g _ _ e);have yn:=ae y my;obtain⟨dy,C⟩:=hy;have yt:y ∉ [t.a,t.l]:=fun m=>by
    obtain⟨o,e⟩:=pl.jz y (Z y m);rw[yn] at e;cases e
   have b1:sU a3 H3 y (dP i x r):=⟨dy,kp _ _ yt C⟩;have ho:∀c,H1 c=none->H c=none:=fun c e=>by
    cases e2:H c with
    | none=>rfl
    | some o=>rw[g _ _ e2] at e;cases e
   have e1:piV t.sh ((s.h:Int)-(CG l:Int)-((dP i x r).2.2.2:Int)) t.l=plF (s,l++[⟨(dP i x r).2.2.2,[dP i x r]⟩]) t.sh t.l:=by
    unfold piV plF;rw[jR];have:(s.h:Int)-(CG l:Int)-((dP i x r).2.2.2:Int)=(s.h:Int)-((CG l+CG [⟨(dP i x r).2.2.2,[dP i x r]⟩]:Nat):Int):=by
     have:CG [⟨(dP i x r).2.2.2,[dP i x r]⟩]=(dP i x r).2.2.2:=rfl;rw[this];omega
    rw[this]
   have e2:shV ((dP i x r).2.2.2:Int) ((s.w:Int)-((dP i x r).2.2.1:Int)) la=shF s.w ⟨(dP i x r).2.2.2,[dP i x r]⟩ la:=by
    unfold shV shF;rfl
   have pm:=zf (z:=dP i x r) pl Y ax a4 (by rw[<- e1];exact aj) au (by rw[<- e2];exact av) X b1;have b2:y ∉ t.fp:=fun m=>by
    obtain⟨o,e⟩:=pl.jz y m;rw[yn] at e;cases e
   have ya:y≠a:=fun e=>by rw[e,na] at C;cases C
   have b3:y≠la:=fun e=>by rw[e,J] at C;cases C
   have b4:(O.take j).length=(ps.take j).length:=by rw[AO,AO];have:=ok.ln;omega
   obtain⟨r1,r2,r3⟩:=M.mid b4 (a4.mono Z) pm rfl (by
    rw[zA,Bm];refine⟨Y,by simp[ai,Ne.symm ya,Ne.symm b3],fun c G d hd e => ?_⟩;subst e;rcases Am.mp hd with e|hd
    ·exact a0 c G (e▸na)
    ·rcases Am.mp hd with e|hd
     ·exact a0 c G (e▸J)
     ·exact b2 ((Ao.mp hd)▸G)) (fun c G=>by
    rw[zA] at G;rcases A4.mp G with m|m
    ·exact .inl m
    ·rcases Am.mp m with e|m
     ·rw[e];exact .inr (ho _ na)
     ·rcases Am.mp m with e|m
      ·rw[e];exact .inr (ho _ J)
      ·rw[Ao.mp m];exact .inr yn)
   rw[<- et] at r2 r3;refine qs _ _ H3 B r1 r2 ?_ r3
   conv=>rhs;rw[et]
   rw[Ay,Ay];rfl
 ·rintro σ S ⟨⟨v1,v2,rfl⟩,I,B⟩
  rw[Ab,ok.ln,CI] at B;exact qn B S I
noncomputable abbrev aiV:Stmt:=(top 75)
theorem aiK(D:Def K mg "lay_pane" aiV ["pane","blank","piles"])(J:Fn P w K mg base 4 "lay_on_shelf" ["pane","blank","piles"] (ug ad a3 B4))(M:Fn P w K mg base 4 "lay_on_new_shelf" ["pane","blank","piles"] (ug ad a3 B6)):Fn P w K mg base 5 "lay_pane" ["pane","blank","piles"] (ug ad a3 dD):=by
 refine D.fx ["pane","blank","piles"] ?_;rintro W f O A l X H vs Q E v ⟨i,b,y,x,z,ps,rfl,B,j,ok,C,sm,R,G⟩;refine⟨_,(kxr (aeK (kxF J v (ab (pv 0) (ab (pv 1) (ab (pv 2) ah)))) (gv (kxF M v (ab (pv 0) (ab (pv 1) (ab (pv 2) ah))))))),?_⟩;refine⟨_,rfl,_,rfl,_,rfl,i,b,y,x,z,ps,rfl,B,j,ok,C,sm,fun I H1 g => ?_,fun a d H1 m p k1 q r=>⟨_,rfl,jO (G a d H1 (by unfold dD;rw[m];rfl) p k1 q r)⟩⟩;refine⟨_,rfl,jt ⟨_,rfl,_,rfl,_,rfl,i,b,y,x,z,ps,rfl,(cT ad).same _ _ _ _ g B,g _ _ j,ok.same g,C,sm,fun s u S=>R (by unfold dD;rw[I,s];rfl) u (g.trans S),fun a d u m p k1 q r=>G a d u (by unfold dD;rw[I,m];rfl) p (fun c o n e=>k1 c o n (g _ _ e)) q fun c T=>(r c T).imp id fun e => ?_⟩⟩;cases e2:H c with
 | none=>rfl
 | some o=>rw[g _ _ e2] at e;cases e
end
noncomputable def iv(l:List Nat):List V:=l.map fun(n:Nat)=>V.int (n:Int)
theorem eJ(row:List Nat):(iv row).length=row.length:=by unfold iv;rw[Ab]
theorem jw(a b:List Nat):iv (a++b)=iv a++iv b:=by unfold iv;rw[Ay]
noncomputable def lnF(h:Nat)(z:Ly):List Nat:=(Kj h z).row
noncomputable def snF(h:Nat):Int->List Ly->List Nat
 | w,[]=>if 0<w then [0] else []
 | w,z::r=>(if 0<w-(z.2.2.1:Int) then [2,z.2.2.1] else [])++(lnF h z++snF h (w-(z.2.2.1:Int)) r)
noncomputable def pnF(w:Nat):Int->List Shelf->List Nat
 | h,[]=>if 0<h then [0] else []
 | h,x::r=>(if 0<h-(x.h:Int) then [3,x.h] else [])++(snF x.h (w:Int) x.on++pnF w (h-(x.h:Int)) r)
theorem acs(h:Nat)(w:Int)(z:Ly)(r:List Ly):snF h w (z::r)=(if 0<w-(z.2.2.1:Int) then [2,z.2.2.1] else [])++(lnF h z++snF h (w-(z.2.2.1:Int)) r):=rfl
theorem aeg(h:Nat)(w:Int):snF h w []=if 0<w then [0] else []:=rfl
theorem abA(w:Nat)(h:Int)(x:Shelf)(r:List Shelf):pnF w h (x::r)=(if 0<h-(x.h:Int) then [3,x.h] else [])++(snF x.h (w:Int) x.on++pnF w (h-(x.h:Int)) r):=rfl
theorem ae3(w:Nat)(h:Int):pnF w h []=if 0<h then [0] else []:=rfl
theorem acZ(h:Nat)(z:Ly):lnF h z=if z.2.2.2<h then [3,z.2.2.2]++[1,z.1,if z.2.1=true then 1 else 0]++[0] else [1,z.1,if z.2.1=true then 1 else 0]:=by
 unfold lnF Kj
 by_cases c:z.2.2.2<h
 ·rw[As c,As c];rfl
 ·rw[Ar c,Ar c];rfl
theorem tu(h:Nat)(z:Ly):(lnF h z).length<=6:=by
 rw[acZ]
 by_cases c:z.2.2.2<h
 ·rw[As c];exact Ak _
 ·rw[Ar c];exact(by decide:3<=6)
theorem sZ(h:Nat):∀(w:Int)(l:List Ly),(snF h w l).length<=8*l.length+1
 | w,[]=>by unfold snF;split <;> simp
 | w,z::r=>by
  unfold snF;rw[Al,Al,A7];have:=tu h z;have:=sZ h (w-(z.2.2.1:Int)) r;have:(if 0<w-(z.2.2.1:Int) then [2,z.2.2.1] else []).length<=2:=by split <;> simp
  omega
noncomputable def szP(l:List Shelf):Nat:=(l.map fun x=>8*x.on.length+3).sum
theorem yE(w:Nat):∀(h:Int)(l:List Shelf),(pnF w h l).length<=szP l+1
 | h,[]=>by unfold pnF;split <;> simp
 | h,x::r=>by
  unfold pnF;rw[Al,Al];have:=sZ x.h (w:Int) x.on;have:=yE w (h-(x.h:Int)) r;have:(if 0<h-(x.h:Int) then [3,x.h] else []).length<=2:=by split <;> simp
  have:szP (x::r)=8*x.on.length+3+szP r:=by unfold szP;rw[AA,Dr]
  omega
theorem qT(h:Nat):∀(w:Nat)(l:List Ly),0<w->(l.map fun z=>z.2.2.1).sum<=w->(∀z∈l,0<z.2.2.1)->(Im h w l).row=snF h (w:Int) l
 | w,[],hw,_,_=>by
  unfold Im snF;rw[As (by omega)];rfl
 | w,z::r,hw,hs,hp=>by
  rw[AA,Dr] at hs;have f:=hp z Ad;unfold Im snF
  by_cases c:z.2.2.1<w
  ·rw[As c,As (by omega)]
   have e:(w:Int)-(z.2.2.1:Int)=((w-z.2.2.1:Nat):Int):=by omega
   rw[e,<- qT h (w-z.2.2.1) r (by omega) (by omega) fun y a=>hp y (Ac _ a)];rfl
  ·rw[Ar c,Ar (by omega)]
   have b:r=[]:=by
    cases r with
    | nil=>rfl
    | cons y t =>
     rw[AA,Dr] at hs;have:=hp y (Ac _ Ad);omega
   have d:(w:Int)-(z.2.2.1:Int)=0:=by omega
   rw[b,d];unfold snF;rw[Ar (by decide),FU,CB];rfl
structure abu(p:Sheet×List Shelf):Prop where
 w:0<p.1.w
 h:0<p.1.h
 tl:CG p.2<=p.1.h
 sh:∀x∈p.2,0<x.h/\x.used<=p.1.w/\∀z∈x.on,0<z.2.2.1
theorem vC(w:Nat)(a:0<w):∀(h:Nat)(l:List Shelf),0<h->CG l<=h->(∀x∈l,0<x.h/\x.used<=w/\∀z∈x.on,0<z.2.2.1)->(GP w h l).row=pnF w (h:Int) l
 | h,[],hh,_,_=>by
  unfold GP pnF;rw[As (by omega)];rfl
 | h,x::r,hh,b,hp=>by
  have b:x.h+CG r<=h:=b;obtain⟨n,f,g⟩:=hp x Ad;have d:=qT x.h w x.on a (by
   have:(x.on.map fun z=>z.2.2.1).sum=x.used:=rfl;rw[this];exact f) g
  unfold GP pnF
  by_cases c:x.h<h
  ·rw[As c,As (by omega)]
   have e:(h:Int)-(x.h:Int)=((h-x.h:Nat):Int):=by omega
   rw[e,<- vC w a (h-x.h) r (by omega) (by omega) fun y i=>hp y (Ac _ i),<- d];rfl
  ·rw[Ar c,Ar (by omega)]
   have j:r=[]:=by
    cases r with
    | nil=>rfl
    | cons y t =>
     have:=(hp y (Ac _ Ad)).1;have:CG (y::t)=y.h+CG t:=rfl;omega
   have m:(h:Int)-(x.h:Int)=0:=by omega
   rw[j,m,d];unfold pnF;rw[Ar (by decide),FU,CB]
section
variable{P:AI}{w:AZ}{K:Lf}{mg:Lg}{base:B1}{ad:Adr}{a3:jq}
inductive abY(a3:jq)(vs:List V)(H:Hp)(Q:VK)(E:XK):Prop
 | mk (y:Ag)(h:Nat)(z:Ly)(c0:vs=[.ref y,.int (h:Int)])(c1:sU a3 H y z)(c2:∀H' l,aM H H'->H' l=some (.lst (iv (lnF h z)))->Q (.ref l) H')
noncomputable abbrev agn:Stmt:=(top 82)
theorem ag4(D:Def K mg "lying_numbers" agn ["lying","shelf_height"])(a:xY K mg a3):Fn P w K mg base 1 "lying_numbers" ["lying","shelf_height"] (abY a3):=by
 refine D.fx ["lying","shelf_height","placed"] ?_;rintro u f v A i S H vs Q E T ⟨y,h,z,rfl,⟨W,j⟩,q⟩;refine⟨_,(kxs 2 u (aP (ab (kxG a.jS) (ab (aA (pv 0) rfl) (ab (aA (pv 0) rfl) ah)))) (kxf (kxl (aA (pv 0) rfl) (pv 1)) (aV rj (aV rj (aP (ab (kxG a.cX) (ab (aA (pv 0) rfl) ah))) (pv 2)) (aP (ab (kxG a.cv) ah))) (kxr (pv 2)))),?_⟩;refine⟨_,rfl,fl j a.lying ajK ⟨_,rfl,fl j a.lying ajQ ⟨by show 3<=sizeLine;decide,fun b l => ?_⟩⟩⟩;have B:[V.int 1,V.int (z.1:Int),V.int (if z.2.1=true then 1 else 0)]=iv [1,z.1,if z.2.1=true then 1 else 0]:=by
  unfold iv;rw[AA,AA,AA];cases z.2.1 <;> rfl
 have m:=ak (o:=.lst [.int 1,.int (z.1:Int),.int (if z.2.1=true then 1 else 0)]) l;have d:(upd H b (.lst [.int 1,.int (z.1:Int),.int (if z.2.1=true then 1 else 0)])) b=some (.lst (iv [1,z.1,if z.2.1=true then 1 else 0])):=by rw[ag,B]
 generalize upd H b (.lst [.int 1,.int (z.1:Int),.int (if z.2.1=true then 1 else 0)])=H1 at *
 have e:=m _ _ j;rw[acZ] at q;refine⟨_,rfl,fl e a.lying ahN ⟨_,rfl,_,_,rfl,rfl,_,rfl,?_⟩⟩;rw[abn];refine bX (fun c => ?_) (fun c => ?_)
 ·rw[As (AV c)] at q
  refine⟨_,rfl,fl e a.lying ahN ⟨by show 2<=sizeLine;decide,fun n C => ?_⟩⟩;have r:=ak (o:=.lst [.int 3,.int (z.2.2.2:Int)]) C;refine⟨_,rfl,n,b,_,_,rfl,rfl,ag,r _ _ d,by show 5<=sizeLine;decide,fun g G => ?_⟩;have I:=ak (o:=.lst ([.int 3,.int (z.2.2.2:Int)]++iv [1,z.1,if z.2.1=true then 1 else 0])) G;have p:(upd (upd H1 n (.lst [.int 3,.int (z.2.2.2:Int)])) g (.lst ([.int 3,.int (z.2.2.2:Int)]++iv [1,z.1,if z.2.1=true then 1 else 0]))) g=some (.lst ([.int 3,.int (z.2.2.2:Int)]++iv [1,z.1,if z.2.1=true then 1 else 0])):=ag;generalize upd (upd H1 n (.lst [.int 3,.int (z.2.2.2:Int)])) g (.lst ([.int 3,.int (z.2.2.2:Int)]++iv [1,z.1,if z.2.1=true then 1 else 0]))=X at *
  refine⟨by show 1<=sizeLine;decide,fun J M => ?_⟩;have s:=ak (o:=.lst [.int 0]) M;exact⟨g,J,_,_,rfl,rfl,s _ _ p,ag,by show 6<=sizeLine;decide,fun O R=>q _ O (m.trans (r.trans (I.trans (s.trans (ak R))))) (by rw[ag,jw,jw];rfl)⟩
 ·rw[Ar (fun y=>c (AD y))] at q
  exact⟨_,rfl,q H1 b m d⟩
inductive acL(a3:jq)(vs:List V)(H:Hp)(Q:VK)(E:XK):Prop
 | mk (w:Nat)(t:ShT)(x:Shelf)(c0:vs=[.ref t.a,.int (w:Int)])(c1:aeI a3 H w t x)(c2:x.on.length<65536)(c3:∀H' l,aM H H'->H' l=some (.lst (iv (snF x.h (w:Int) x.on)))->Q (.ref l) H')
noncomputable abbrev afU:Stmt:=(top 81)
theorem ahx(D:Def K mg "shelf_numbers" afU ["shelf","shelf_width"])(s:xY K mg a3)(d8:Fn P w K mg base 1 "lying_numbers" ["lying","shelf_height"] (abY a3)):Fn P w K mg base 2 "shelf_numbers" ["shelf","shelf_width"] (acL a3):=by
 refine D.fx ["shelf","shelf_width","numbers","width","lying"] ?_;rintro G f a0 A M s0 H vs Q E hr ⟨w,t,x,rfl,n,a4,q⟩;obtain⟨dx,ob⟩:=n.ob;refine⟨_,(kxs 2 G (aP ah) (kxs 3 G (pv 1) (az (a8 AJ rfl (aY (aA (pv 0) rfl)) (kxo 4 G) (kxs 3 G (aV dE (pv 3) (aA (pv 4) rfl)) (az (cg (kxg (pv 3) aq) (aE (cS (kxX (pv 2) (aP (ab (kxG s.cK) (ab (aA (pv 4) rfl) ah)))))) aR) (aE (cS (kxX (pv 2) (kxF d8 hr (ab (pv 4) (ab (aA (pv 0) rfl) ah))))))))) (az (cg (kxg (pv 3) aq) (aE (cS (kxA (pv 2) (kxG s.cv)))) aR) (kxr (pv 2)))))),?_⟩;refine⟨AN _,fun d j => ?_⟩;have O:=ak (o:=.lst []) j;have R:(upd H d (.lst [])) d=some (.lst (iv [])):=ag;generalize upd H d (.lst [])=H1 at *
 refine⟨_,rfl,?_⟩;refine⟨_,rfl,fl (O _ _ ob) s.shelf rfl ⟨t.l,rfl,⟨_,SqL.of (O _ _ n.on.lst)⟩,bB (K:=K) (a:=t.l) (xs:=t.ys.map V.ref) (fun k σ i=>∃(acc:List Nat)(m:Int)(v:Option V),σ=[some (.ref t.a),some (.int (w:Int)),some (.ref d),some (.int m),v]/\aM H i/\i d=some (.lst (iv acc))/\acc.length<=8*k/\snF x.h (w:Int) x.on=acc++snF x.h m (x.on.drop k)) ⟨[],_,_,rfl,O,R,Ak _,rfl⟩ (fun k σ i _ ⟨_,_,_,_,e,_⟩=>SqL.of (e _ _ n.on.lst)) ?_ ?_⟩⟩
 ·rintro k v σ i S ⟨acc,m,v0,rfl,p,r,X,g⟩
  have T:k<t.ys.length:=by
   have:=(Aj.mp S).1;rw[Ab] at this;exact this
  have B:k<x.on.length:=by rw[<- n.on.len];exact T
  rw[Av,Aa T] at S;obtain rfl:=Ah S;obtain⟨dy,W⟩:=n.on.at_ k _ _ (Aa T) (Aa B);rw[Bh B] at g;generalize t.ys[k]=y at *
  generalize x.on[k]=z at *
  rw[acs] at g;refine⟨_,rfl,_,rfl,fl (p _ _ W) s.lying ahI ⟨_,_,rfl,rfl,?_⟩⟩;have C:∀(I:Hp)(b:List Nat),aM H I->I d=some (.lst (iv b))->b.length<=8*k+2->snF x.h (w:Int) x.on=b++(lnF x.h z++snF x.h (m-(z.2.2.1:Int)) (x.on.drop (k+1)))->(acv (tBM K "list" pP (qd 2) (ky (yh (abY a3) [] E0 (ky (qd 4) (ky (acV K (qd 0) "height") xX))) xX))) { nx:=fun σ i=>∃(acc:List Nat)(m:Int)(v:Option V),σ=[some (.ref t.a),some (.int (w:Int)),some (.ref d),some (.int m),v]/\aM H i/\i d=some (.lst (iv acc))/\acc.length<=8*(k+1)/\snF x.h (w:Int) x.on=acc++snF x.h m (x.on.drop (k+1)),ct:=fun σ i=>True,bk:=fun σ i=>True,rt:=Q } [some (.ref t.a),some (.int (w:Int)),some (.ref d),some (.int (m-(z.2.2.1:Int))),some (.ref y)] I:=by
   intro I b u J Y e2;refine⟨_,rfl,.inl ⟨rfl,_,SqL.of J⟩,_,rfl,_,rfl,fl (u _ _ ob) s.shelf rfl ⟨y,x.h,z,rfl,⟨dy,u _ _ W⟩,fun H3 l3 Z h3=>⟨d,l3,_,_,rfl,rfl,Z _ _ J,h3,?_,b++lnF x.h z,_,_,rfl,aI (u.trans Z) j,?_,?_,?_⟩⟩⟩
   ·rw[eJ,eJ];have:=tu x.h z;show _<=2 ^ 24;omega
   ·rw[ag,jw]
   ·rw[Al];have:=tu x.h z;omega
   ·rw[e2,BZ]
  refine⟨_,rfl,_,_,rfl,rfl,_,rfl,?_⟩;refine bX (fun c => ?_) (fun c => ?_)
  ·rw[As (AV c)] at g
   refine⟨_,rfl,.inl ⟨rfl,_,SqL.of r⟩,_,rfl,fl (p _ _ W) s.lying ahI ⟨by show 2<=sizeLine;decide,fun Y J => ?_⟩⟩;have u:=ak (o:=.lst [.int 2,.int (z.2.2.1:Int)]) J;refine⟨d,Y,_,_,rfl,rfl,u _ _ r,ag,?_,?_⟩
   ·rw[eJ];show acc.length+2<=2 ^ 24;omega
   ·refine C _ (acc++[2,z.2.2.1]) (aI (p.trans u) j) (by rw[ag,jw];rfl) (by rw[Al];show acc.length+2<=_;omega) (by rw[g,BZ])
  ·rw[Ar (fun y=>c (AD y)),FU] at g
   exact C i acc p r (by omega) g
 ·rintro σ i ⟨acc,m,v0,rfl,p,r,X,g⟩
  rw[Ab,n.on.len,CI] at g;rw[Ab,n.on.len] at X;rw[aeg] at g;refine⟨_,rfl,_,_,rfl,rfl,_,rfl,?_⟩;refine bX (fun c => ?_) (fun c => ?_)
  ·rw[As (AV c)] at g
   refine⟨_,rfl,.inl ⟨rfl,_,SqL.of r⟩,d,_,_,rfl,rfl,r,?_,_,rfl,q _ d (aI p j) ?_⟩
   ·rw[eJ];show acc.length<2 ^ 24;omega
   ·rw[ag,g,jw];rfl
  ·rw[Ar (fun y=>c (AD y)),CB] at g
   exact⟨_,rfl,q i d p (by rw[r,g])⟩
inductive ae8(ad:Adr)(a3:jq)(vs:List V)(H:Hp)(Q:VK)(E:XK):Prop
 | mk (t:PlT)(p:Sheet×List Shelf)(c0:vs=[.ref t.a])(c1:wa ad a3 H t p)(c2:szP p.2<8388608)(c3:∀x∈p.2,x.on.length<65536)(c4:∀H' l,aM H H'->H' l=some (.lst (iv (pnF p.1.w (p.1.h:Int) p.2)))->Q (.ref l) H')
theorem vU(x:Shelf)(r:List Shelf):szP (x::r)=8*x.on.length+3+szP r:=by unfold szP;rw[AA,Dr]
theorem pV(a b:List Shelf):szP (a++b)=szP a+szP b:=by unfold szP;rw[Ay,FX]
noncomputable abbrev ag8:Stmt:=(top 80)
theorem agH(D:Def K mg "pile_numbers" ag8 ["pile"])(T:Txt K mg ad)(s:xY K mg a3)(d9:Fn P w K mg base 2 "shelf_numbers" ["shelf","shelf_width"] (acL a3)):Fn P w K mg base 3 "pile_numbers" ["pile"] (ae8 ad a3):=by
 refine D.fx ["pile","numbers","height","shelf"] ?_;rintro S f a4 A Y s0 H vs Q E hr ⟨t,p,rfl,pl,hsz,Z,q⟩;obtain⟨dx,ob⟩:=pl.ob;obtain⟨ds,os⟩:=pl.sh;refine⟨_,(kxs 1 S (aP ah) (kxs 2 S (aA (aA (pv 0) rfl) rfl) (az (a8 AJ rfl (aY (aA (pv 0) rfl)) (kxo 3 S) (kxs 2 S (aV dE (pv 2) (aA (pv 3) rfl)) (az (cg (kxg (pv 2) aq) (aE (cS (kxX (pv 1) (aP (ab (kxG s.cX) (ab (aA (pv 3) rfl) ah)))))) aR) (aE (cS (kxX (pv 1) (kxF d9 hr (ab (pv 3) (ab (aA (aA (pv 0) rfl) rfl) ah))))))))) (az (cg (kxg (pv 2) aq) (aE (cS (kxA (pv 1) (kxG s.cv)))) aR) (kxr (pv 1)))))),?_⟩;refine⟨AN _,fun g m => ?_⟩;have M:=ak (o:=.lst []) m;have a0:(upd H g (.lst [])) g=some (.lst (iv [])):=ag;generalize upd H g (.lst [])=H1 at *
 refine⟨_,rfl,fl (M _ _ ob) s.pile rfl (fl (M _ _ os) T.sheet air ?_)⟩;refine⟨_,rfl,fl (M _ _ ob) s.pile rfl ⟨t.l,rfl,⟨_,SqL.of (M _ _ pl.sv)⟩,bB (K:=K) (a:=t.l) (xs:=t.ss.map fun u=>V.ref u.a) (fun k σ j=>∃(acc:List Nat)(n:Int)(v:Option V),σ=[some (.ref t.a),some (.ref g),some (.int n),v]/\aM H j/\j g=some (.lst (iv acc))/\acc.length<=szP (p.2.take k)/\pnF p.1.w (p.1.h:Int) p.2=acc++pnF p.1.w n (p.2.drop k)) ⟨[],_,_,rfl,M,a0,AN _,rfl⟩ (fun k σ j _ ⟨_,_,_,_,e,_⟩=>SqL.of (e _ _ pl.sv)) ?_ ?_⟩⟩
 ·rintro k v σ j hv ⟨acc,n,v0,rfl,B,G,la,i⟩
  have I:k<t.ss.length:=by
   have:=(Aj.mp hv).1;rw[Ab] at this;exact this
  have r:k<p.2.length:=by rw[<- pl.ln];exact I
  rw[Av,Aa I] at hv;obtain rfl:=Ah hv;have so:=pl.at_ k _ _ (Aa I) (Aa r);have O:=Z _ (AX r);have tk:szP (p.2.take (k+1))=szP (p.2.take k)+(8*p.2[k].on.length+3):=by rw[take_snoc (Aa r),pV,vU];rfl
  have tl:szP (p.2.take (k+1))<=szP p.2:=by
   have:=B2 szP (D4 (k+1) p.2);rw[pV] at this;omega
  rw[Bh r] at i;generalize t.ss[k]=u at *
  generalize p.2[k]=x at *
  obtain⟨du,uo⟩:=so.ob;rw[abA] at i;have sl:=sZ x.h (p.1.w:Int) x.on;refine⟨_,rfl,_,rfl,fl (B _ _ uo) s.shelf rfl ⟨_,_,rfl,rfl,?_⟩⟩;have R:∀(W:Hp)(d:List Nat),aM H W->W g=some (.lst (iv d))->d.length<=szP (p.2.take k)+2->pnF p.1.w (p.1.h:Int) p.2=d++(snF x.h (p.1.w:Int) x.on++pnF p.1.w (n-(x.h:Int)) (p.2.drop (k+1)))->(acv (tBM K "list" pP (qd 1) (ky (yh (acL a3) [] E0 (ky (qd 3) (ky (acV K (acV K (qd 0) "sheet") "width") xX))) xX))) { nx:=fun σ j=>∃(acc:List Nat)(n:Int)(v:Option V),σ=[some (.ref t.a),some (.ref g),some (.int n),v]/\aM H j/\j g=some (.lst (iv acc))/\acc.length<=szP (p.2.take (k+1))/\pnF p.1.w (p.1.h:Int) p.2=acc++pnF p.1.w n (p.2.drop (k+1)),ct:=fun σ j=>True,bk:=fun σ j=>True,rt:=Q } [some (.ref t.a),some (.ref g),some (.int (n-(x.h:Int))),some (.ref u.a)] W:=by
   intro W d J X l2 e2;refine⟨_,rfl,.inl ⟨rfl,_,SqL.of X⟩,_,rfl,_,rfl,fl (J _ _ ob) s.pile rfl (fl (J _ _ os) T.sheet ahG ⟨p.1.w,u,x,rfl,so.keep (C := []) (fun b o _ e=>J b o e) (fun _ _ z=>by cases z),O,fun H3 l3 s3 h3=>⟨g,l3,_,_,rfl,rfl,s3 _ _ X,h3,?_,d++snF x.h (p.1.w:Int) x.on,_,_,rfl,aI (J.trans s3) m,?_,?_,?_⟩⟩)⟩
   ·rw[eJ,eJ];show _<=2 ^ 24;omega
   ·rw[ag,jw]
   ·rw[Al];omega
   ·rw[e2,BZ]
  refine⟨_,rfl,_,_,rfl,rfl,_,rfl,?_⟩;refine bX (fun c => ?_) (fun c => ?_)
  ·rw[As (AV c)] at i
   refine⟨_,rfl,.inl ⟨rfl,_,SqL.of G⟩,_,rfl,fl (B _ _ uo) s.shelf rfl ⟨by show 2<=sizeLine;decide,fun l2 X => ?_⟩⟩;have J:=ak (o:=.lst [.int 3,.int (x.h:Int)]) X;refine⟨g,l2,_,_,rfl,rfl,J _ _ G,ag,?_,?_⟩
   ·rw[eJ];show acc.length+2<=2 ^ 24;omega
   ·refine R _ (acc++[3,x.h]) (aI (B.trans J) m) (by rw[ag,jw];rfl) (by rw[Al];show acc.length+2<=_;omega) (by rw[i,BZ])
  ·rw[Ar (fun y=>c (AD y)),FU] at i
   exact R j acc B G (by omega) i
 ·rintro σ j ⟨acc,n,v0,rfl,B,G,la,i⟩
  rw[Ab,pl.ln,CI] at i;rw[Ab,pl.ln,BG] at la;rw[ae3] at i;refine⟨_,rfl,_,_,rfl,rfl,_,rfl,?_⟩;refine bX (fun c => ?_) (fun c => ?_)
  ·rw[As (AV c)] at i
   refine⟨_,rfl,.inl ⟨rfl,_,SqL.of G⟩,g,_,_,rfl,rfl,G,?_,_,rfl,q _ g (aI B m) ?_⟩
   ·rw[eJ];show acc.length<2 ^ 24;omega
   ·rw[ag,i,jw];rfl
  ·rw[Ar (fun y=>c (AD y)),CB] at i
   exact⟨_,rfl,q j g B (by rw[G,i])⟩
end
theorem lA{α β:Type}(f:α×Nat->Option β):∀(l:List α)(n:Nat)(b:β),(l.zipIdx n).findSome? f=some b->∃A x B,l=A++x::B/\f (x,n+A.length)=some b
 | [],n,b,h=>by cases h
 | a::l,n,b,h=>by
  rw[Fy,Ia] at h;cases e:f (a,n) with
  | some c=>rw[e] at h;cases h;exact⟨[],a,l,rfl,e⟩
  | none =>
   rw[e] at h;obtain⟨A,x,B,rfl,d⟩:=lA f l (n+1) b h;exact⟨a::A,x,B,rfl,by rw[<- d,A7];congr 2;omega⟩
theorem jB{i:Nat}{x:Item}:∀{ps a:Laid},B4 i x ps=some a->∃A s b h c B t,ps=A++(s,b++h::c)::B/\a=A++(s,b++sj i x t h::c)::B/\GC s x h=some t
 | [],a,e=>by cases e
 | (s,l)::r,a,e=>by
  unfold B4 at e
  split at e
  ·rename_i k t h
   by_cases g:s.glass=x.glass
   ·rw[As g] at h
    obtain⟨b,hh,c,rfl,d⟩:=lA _ l 0 _ h;obtain⟨j,f,m⟩:=C9.mp d;injection m with e5 e6
    subst e6;have n:k=b.length:=by rw[<- e5];exact Ks _
    subst n;cases e
    refine⟨[],s,b,hh,c,r,j,rfl,?_,f⟩;rw[kH];rfl
   ·rw[Ar g] at h;cases h
  ·obtain⟨q,d,rfl⟩:=C9.mp e
   obtain⟨A,o,b,h,c,B,t,rfl,rfl,f⟩:=jB d;exact⟨(s,l)::A,o,b,h,c,B,t,rfl,rfl,f⟩
theorem jD{i:Nat}{x:Item}:∀{ps a:Laid},B6 i x ps=some a->∃A s l B t,ps=A++(s,l)::B/\a=A++(s,l++[⟨(dP i x t).2.2.2,[dP i x t]⟩])::B/\Ex s x l=some t
 | [],a,e=>by cases e
 | (s,l)::r,a,e=>by
  unfold B6 at e
  split at e
  ·rename_i t h
   by_cases g:s.glass=x.glass
   ·rw[As g] at h
    cases e
    exact⟨[],s,l,r,t,rfl,rfl,h⟩
   ·rw[Ar g] at h;cases h
  ·obtain⟨q,b,rfl⟩:=C9.mp e
   obtain⟨A,c,d,B,t,rfl,rfl,f⟩:=jD b;exact⟨(s,l)::A,c,d,B,t,rfl,rfl,f⟩
structure ago(k:Nat)(ps:Laid):Prop where
 gd:∀p∈ps,abu p/\p.2.length<=k/\∀h∈p.2,h.on.length<=k
 sz:(ps.map fun p=>szP p.2).sum<=11*k
theorem ve{x:Item}(a:0<x.w)(hh:0<x.h)(t:Bool):0<(x.lies t).1/\0<(x.lies t).2:=by
 unfold Gla.Item.lies;cases t
 ·exact⟨a,hh⟩
 ·exact⟨hh,a⟩
theorem ago.step{i k:Nat}{x:Item}{ps f:Laid}(h:ago k ps)(E:0<x.w)(hh:0<x.h)(e:dD i x ps=some f):ago (k+1) f:=by
 have b:∀p∈ps,abu p/\p.2.length<=k+1/\∀h∈p.2,h.on.length<=k+1:=fun p r=>by
  obtain⟨g,n,c⟩:=h.gd p r;exact⟨g,by omega,fun y d=>by have:=c y d;omega⟩
 have u:=h.sz;unfold dD at e;cases e1:B4 i x ps with
 | some q =>
  rw[e1] at e;cases e
  obtain⟨A,s,J,o,M,B,t,rfl,rfl,C⟩:=jB e1;have v:=ve E hh t;have a:=FP C;simp only[AB,A5] at a;obtain⟨g,n,c⟩:=h.gd _ (Au _ Ad);have j:=g.sh;dsimp only at n c j;refine⟨fun p r => ?_,?_⟩
  ·rcases A4.mp r with m|m
   ·exact b p (AM _ m)
   ·rcases Am.mp m with m|m
    ·subst m
     refine⟨⟨g.w,g.h,?_,?_⟩,?_,?_⟩
     ·have:=g.tl
      dsimp only at this ⊢;rw[jR] at this ⊢;exact this
     ·intro y d
      rcases A4.mp d with m|m
      ·exact j y (AM _ m)
      ·rcases Am.mp m with m|m
       ·subst m
        obtain⟨G,O,H⟩:=j o (Au _ Ad);refine⟨G,?_,fun z hz => ?_⟩
        ·unfold sj
         rw[vW];exact a.2
        ·rcases A4.mp hz with m|m
         ·exact H z m
         ·rw[Ao.mp m];exact v.1
       ·exact j y (Au _ (Ac _ m))
     ·dsimp only at n ⊢
      rw[Al,A7] at n ⊢;omega
     ·intro y d
      rcases A4.mp d with m|m
      ·have:=c y (AM _ m);omega
      ·rcases Am.mp m with m|m
       ·subst m
        have:=c o (Au _ Ad);show(o.on++[_]).length<=_;rw[Al];show o.on.length+1<=_;omega
       ·have:=c y (Au _ (Ac _ m));omega
    ·exact b p (Au _ (Ac _ m))
  ·rw[Ay,AA,FX,Dr] at u ⊢
   dsimp only at u ⊢;rw[pV,vU] at u ⊢;have:(sj i x t o).on.length=o.on.length+1:=by unfold sj;rw[Al];rfl
   rw[this];omega
 | none =>
  rw[e1] at e;have I:B6 i x ps=some f:=e;obtain⟨A,s,l,B,t,rfl,rfl,C⟩:=jD I;have v:=ve E hh t;have a:=FP C;simp only[AB,A5] at a;obtain⟨g,n,c⟩:=h.gd _ (Au _ Ad);have j:=g.sh;dsimp only at n c j;refine⟨fun p r => ?_,?_⟩
  ·rcases A4.mp r with m|m
   ·exact b p (AM _ m)
   ·rcases Am.mp m with m|m
    ·subst m
     refine⟨⟨g.w,g.h,?_,?_⟩,?_,?_⟩
     ·dsimp only
      rw[jR];exact a.1
     ·intro y d
      rcases A4.mp d with m|m
      ·exact j y m
      ·rw[Ao.mp m]
       exact⟨v.2,by show(dP i x t).2.2.1+0<=s.w;exact a.2,fun z hz=>by rw[Ao.mp hz];exact v.1⟩
     ·dsimp only
      rw[Al];show l.length+1<=_;omega
     ·intro y d
      rcases A4.mp d with m|m
      ·have:=c y m;omega
      ·rw[Ao.mp m]
       show 1<=_;omega
    ·exact b p (Au _ (Ac _ m))
  ·rw[Ay,AA,FX,Dr] at u ⊢
   dsimp only at u ⊢;rw[pV];have:szP [⟨(dP i x t).2.2.2,[dP i x t]⟩]=11:=rfl;rw[this];omega
abbrev Pz:=PlT×(Sheet×List Shelf)
structure l8(ad:Adr)(a3:jq)(H:Hp)(zs:List Pz):Prop where
 at_:∀z∈zs,wa ad a3 H z.1 z.2
 nd:(fps (zs.map (·.1))).Nodup
 sh:∀z∈zs,z.1.sh ∉ fps (zs.map (·.1))
theorem adg{α β:Type}{a:List α}{ps:List β}(h:a.length=ps.length):(a.zip ps).map (·.1)=a/\(a.zip ps).map (·.2)=ps:=⟨List.map_fst_zip (DT h),List.map_snd_zip (DT h.symm)⟩
section
variable{ad:Adr}{a3:jq}{H H':Hp}
theorem l8.to{a:List Pz}(h:l8 ad a3 H a):p8 ad a3 H (a.map (·.1)) (a.map (·.2)):=by
 refine⟨by rw[Ab,Ab],fun j t p e1 b => ?_,h.nd,fun t d => ?_⟩
 ·rw[Av] at e1 b
  obtain⟨z,c,rfl⟩:=C9.mp e1;rw[c] at b;cases b
  exact h.at_ z (AE c)
 ·obtain⟨z,hz,rfl⟩:=Ax.mp d
  exact h.sh z hz
theorem p8.to{a:List PlT}{ps:Laid}(h:p8 ad a3 H a ps):l8 ad a3 H (a.zip ps):=by
 have e:=(adg h.ln).1;refine⟨fun z hz => ?_,by rw[e];exact h.nd,fun z hz => ?_⟩
 ·obtain⟨j,b,c⟩:=AQ.mp hz
  have d:(a.zip ps)[j]? = some z:=by rw[<- c];exact Aa b
  obtain⟨f,g⟩:=E6.mp d;exact h.at_ j _ _ f g
 ·rw[e]
  exact h.sh z.1 (by rw[<- e];exact Ax.mpr ⟨z,hz,rfl⟩)
theorem ack{α β:Type}(f:α->List β){l m:List α}(h:l.Sublist m):(l.flatMap f).Sublist (m.flatMap f):=by
 induction h with
 | slnil=>exact Jc _
 | cons a _ b=>rw[BN];exact b.trans (List.sublist_append_right _ _)
 | cons_cons a _ b=>rw[BN,BN];exact(Jc _).append b
theorem fS{a ws:List Pz}(h:ws.Sublist a):(fps (ws.map (·.1))).Sublist (fps (a.map (·.1))):=ack _ (h.map _)
theorem l8.sub{a ws:List Pz}(h:l8 ad a3 H a)(s:ws.Sublist a):l8 ad a3 H ws :=
 ⟨fun z hz=>h.at_ z (s.subset hz),(fS s).nodup h.nd,fun z hz m=>h.sh z (s.subset hz) ((fS s).subset m)⟩
theorem mj{α:Type}(g:α->Bool):∀(l a:List α),a.length=(l.filter g).length->(back g l a).Perm ((l.filter fun x => !g x)++a)
 | [],a,h=>by
  have:a=[]:=List.length_eq_zero_iff.mp h;rw[this];exact .refl _
 | p::r,a,h=>by
  unfold back;rw[Cz] at h;rw[Cz]
  by_cases c:g p=true
  ·rw[As c] at h ⊢
   rw[c];cases a with
   | nil=>cases h
   | cons q t =>
    have:=mj g r t (by simpa using h);exact(this.cons q).trans Js.symm
  ·rw[Ar c] at h ⊢
   rw[A8.mpr c];exact(mj g r a h).cons p
theorem lR{α β:Type}(f:α->β)(g:α->Bool):∀(l a:List α),a.length=(l.filter g).length->a.map f=(l.filter g).map f->(back g l a).map f=l.map f
 | [],a,_,_=>rfl
 | p::r,a,h,e=>by
  unfold back;rw[Cz] at h e
  by_cases c:g p=true
  ·rw[As c] at h e ⊢
   cases a with
   | nil=>cases h
   | cons q t =>
    rw[AA,AA] at e;injection e with e1 e2
    show f q::(back g r t).map f=_;rw[lR f g r t (by simpa using h) e2,e1];rfl
  ·rw[Ar c] at h e ⊢
   rw[AA,lR f g r a h e];rfl
theorem qJ(g:Sheet×List Shelf->Bool):∀(a ws:List Pz),ws.length=(a.filter fun z=>g z.2).length->(back (fun z:Pz=>g z.2) a ws).map (·.2)=back g (a.map (·.2)) (ws.map (·.2))
 | [],ws,_=>rfl
 | p::r,ws,h=>by
  rw[AA];unfold back;rw[Cz] at h
  by_cases c:g p.2=true
  ·rw[As c] at h
   rw[As c,As c];cases ws with
   | nil=>cases h
   | cons q t =>
    show q.2::(back _ r t).map _=q.2::back g _ _;rw[qJ g r t (by simpa using h)]
  ·rw[Ar c] at h
   rw[Ar c,Ar c,AA,qJ g r ws h]
theorem l8.back{c ws:List Pz}{g:Pz->Bool}(h:l8 ad a3 H c)(h':l8 ad a3 H' ws)(k:mI (fps ((c.filter g).map (·.1))) H H')(ln:ws.length=(c.filter g).length)(u:∀b∈fps (ws.map (·.1)),b∈fps ((c.filter g).map (·.1))\/H b=none)(B:∀w∈ws,∃z∈c,w.1.sh=z.1.sh):
  l8 ad a3 H' (Gs.back g c ws)/\∀b∈fps ((Gs.back g c ws).map (·.1)),b∈fps (c.map (·.1))\/H b=none:=by
 have n:=mj g c ws ln;have p:(fps ((Gs.back g c ws).map (·.1))).Perm (fps ((c.filter fun x => !g x).map (·.1))++fps (ws.map (·.1))):=by
  rw[<- dv,<- Ay];exact(n.map _).flatMap_right _
 have d:(c.filter fun x => !g x).Sublist c:=EA;have f:(c.filter g).Sublist c:=EA;have j:∀b,b∈fps ((c.filter fun x => !g x).map (·.1))->b∈fps ((c.filter g).map (·.1))->False:=by
  have C:(c.filter g++c.filter fun x => !g x).Perm c:=List.filter_append_perm g c;have q:(fps ((c.filter g).map (·.1))++fps ((c.filter fun x => !g x).map (·.1))).Nodup:=by
   rw[<- dv,<- Ay];exact(((C.map (fun z:Pz=>z.1)).flatMap_right PlT.fp).nodup_iff).mpr h.nd
  intro b E G;exact(Bm.mp q).2.2 b G b E rfl
 have r:∀b∈fps (c.map (·.1)),∃o,H b=some o:=fun b i=>by
  obtain⟨t,I,i⟩:=Bc.mp i;obtain⟨z,hz,rfl⟩:=Ax.mp I;exact(h.at_ z hz).jz b i
 have l:∀b,(∃o,H b=some o)->b∈fps (ws.map (·.1))->b∈fps ((c.filter g).map (·.1)):=fun b ⟨o,e⟩ m=>by
  rcases u b m with z|z
  ·exact z
  ·rw[z] at e;cases e
 refine⟨⟨fun z hz => ?_,?_,fun z hz m => ?_⟩,fun b i => ?_⟩
 ·rcases A4.mp (n.mem_iff.mp hz) with m|m
  ·have v:=d.subset m
   refine(h.at_ z v).keep k (fun b i y=>j b (Bc.mpr ⟨z.1,Ax.mpr ⟨z,m,rfl⟩,i⟩) y) fun y=>h.sh z v ((fS f).subset y)
  ·exact h'.at_ z m
 ·refine p.nodup_iff.mpr (Bm.mpr ⟨(h.sub d).nd,h'.nd,fun a A b i e => ?_⟩)
  subst e;exact j a A (l a (r a ((fS d).subset A)) i)
 ·have key:∃y∈c,z.1.sh=y.1.sh:=by
   rcases A4.mp (n.mem_iff.mp hz) with m|m
   ·exact⟨z,d.subset m,rfl⟩
   ·exact B z m
  obtain⟨y,s,J⟩:=key;rw[J] at m;obtain⟨dx,M⟩:=(h.at_ y s).sh;rcases A4.mp (p.mem_iff.mp m) with m|m
  ·exact h.sh y s ((fS d).subset m)
  ·exact h.sh y s ((fS f).subset (l _ ⟨_,M⟩ m))
 ·rcases A4.mp (p.mem_iff.mp i) with m|m
  ·exact .inl ((fS d).subset m)
  ·exact(u b m).imp (fun y=>(fS f).subset y) id
end
noncomputable def xl(a:List Item)(q:Except Nat Laid)(i:Nat):Except Nat Laid:=match q with
 | .error j=>.error j
 | .ok l=>match dD i (a.getD i it0) l with
  | some r=>.ok r
  | none=>.error i
theorem qU(a:List Item)(i:Nat):∀l:List Nat,l.foldl (xl a) (.error i)=.error i
 | []=>rfl
 | _::r=>qU a i r
theorem tX(a:List Item)(b:List Sheet):Ew a b=(kz a).foldl (xl a) (.ok (b.map fun(s:Sheet)=>(s,[]))):=yy a b
theorem mJ(a:List Item):(kz a).Perm (An a.length):=by
 unfold kz;refine((eD _ _).map _).trans ?_;rw[Bd];have:a.zipIdx.map ((fun(x:Nat×Item)=>x.1) ∘ fun(x:Item×Nat)=>(x.2,x.1))=An a.length:=by
  refine F0 (by simp) fun i b c => ?_;simp
 rw[this]
theorem oH:∀{l:List Nat}{a:Nat},a∈l->a<=l.sum
 | b::r,a,h=>by
  rw[Dr];rcases Am.mp h with e|e
  ·rw[e];omega
  ·have:=oH e;omega
noncomputable def fQ(p:Sheet×List Shelf):List Nat:=pnF p.1.w (p.1.h:Int) p.2
structure aii(a3:jq)(H:Hp)(c:Ag)(u:V)(lr:Ag)(row:List Nat):Prop where
 ob:∃dx,H c=some (.ins a3.laying dx [("unlaid",u),("row",.ref lr)])
 rw:H lr=some (.lst (iv row))
section
variable{P:AI}{w:AZ}{K:Lf}{mg:Lg}{base:B1}{ad:Adr}{a3:jq}{Pt:Ag}{TB:Array Ai->Prop}
theorem adk{H:Hp}{Q:VK}{u:V}{a:Ag}{row:List Nat}(e:H a=some (.lst (iv row)))(q:∀d c,aii a3 d c u a row->Q (.ref c) d):
  ∀x dx,H x=AK->H dx=AK->dx≠x->Q (.ref x) (upd (upd H dx (.own x)) x (.ins a3.laying dx (lN [u,.ref a]))):=by
 intro x dx f b g;have i:aM H (upd (upd H dx (.own x)) x (.ins a3.laying dx (lN [u,.ref a]))):=(ak b).trans (ak (by rw[aw (Ne.symm g)];exact f));exact q _ x ⟨⟨dx,ag⟩,i _ _ e⟩
inductive aeD(ad:Adr)(Pt:Ag)(TB:Array Ai->Prop)(vs:List V)(H:Hp)(Q:VK)(E:XK):Prop
 | mk (lb:Ag)(items:List Item)(pb:List Ag)(tb:Array Ai)(c0:vs=[.ref lb])(c1:LO (eV ad) H lb items pb)(c2:items.length<65536)(c3:H Pt=some (.tbl tb))(c4:TB tb)(c5:∀H' l,mI [Pt] H H'->(∃tb',H' Pt=some (.tbl tb'))->H l=none->H' l=some (.lst (iv (kz items)))->Q (.ref l) H')
inductive ad9(ad:Adr)(a3:jq)(Pt:Ag)(TB:Array Ai->Prop)(vs:List V)(H:Hp)(Q:VK)(E:XK):Prop
 | mk (lb ls:Ag)(items:List Item)(shs:List Sheet)(pb psh:List Ag)(tb:Array Ai)(c0:vs=[.ref lb,.ref ls])(c1:LO (eV ad) H lb items pb)(c2:LO (adi ad) H ls shs psh)(c3:items.length<65536)(c4:shs.length<=1024)(c5:∀x∈items,0<x.w/\0<x.h)(c6:∀s∈shs,0<s.w/\0<s.h)(c7:H Pt=some (.tbl tb))(c8:TB tb)(c9:∀H' c lr i,Ew items shs=.error i->aii a3 H' c (.int (i:Int)) lr []->Q (.ref c) H')(c10:∀H' c lr l,Ew items shs=.ok l->(∀p∈l,abu p)->aii a3 H' c .non lr (l.flatMap fQ)->(l.flatMap fQ).length<8388608->Q (.ref c) H')
theorem l8.snoc{H i:Hp}{g:List Pz}{p l c dx dxs:Ag}{s:Sheet}{C:List Ag}(h:l8 ad a3 H g)(k:mI C H i)(d:∀b∈fps (g.map (·.1)),b ∉ C)(A:∀z∈g,z.1.sh ∉ C)(B:H p=none)(E:H l=none)(G:p≠l)(j:∃o,H c=some o)(n:c ∉ fps (g.map (·.1)))(I:i p=some (.ins a3.pile dx [("sheet",.ref c),("height_left",.int (s.h:Int)),("shelves",.ref l)]))(J:i l=some (.lst []))(M:i c=some (.ins ad.sheet dxs (sV s))):l8 ad a3 i (g++[(⟨p,l,c,[]⟩,(s,[]))]):=by
 have q:∀b∈fps (g.map (·.1)),∃o,H b=some o:=fun b f=>by
  obtain⟨t,O,f⟩:=Bc.mp f;obtain⟨z,hz,rfl⟩:=Ax.mp O;exact(h.at_ z hz).jz b f
 have r:fps ((g++[((⟨p,l,c,[]⟩:PlT),(s,([]:List Shelf)))]).map (·.1))=fps (g.map (·.1))++[p,l]:=by rw[Ay,dv];rfl
 have u:∀b∈[p,l],H b=none:=fun b f=>by
  rcases Am.mp f with e|e
  ·rw[e];exact B
  ·rw[Ao.mp e];exact E
 refine⟨fun z hz => ?_,?_,fun z hz => ?_⟩
 ·rcases A4.mp hz with m|m
  ·exact(h.at_ z m).keep k (fun b f=>d b (Bc.mpr ⟨z.1,Ax.mpr ⟨z,m,rfl⟩,f⟩)) (A z m)
  ·rw[Ao.mp m]
   refine⟨⟨dx,?_⟩,⟨dxs,M⟩,J,rfl,fun k s x e=>by cases e⟩;show i p=some (.ins a3.pile dx (plF (s,[]) c l));have e:plF (s,[]) c l=([("sheet",.ref c),("height_left",.int (s.h:Int)),("shelves",.ref l)]:List (AW×V)):=by
    unfold plF;have:((s.h:Int)-((CG ([]:List Shelf):Nat):Int))=(s.h:Int):=E4 _;rw[show(((s,([]:List Shelf)).1.h:Int)-((CG (s,([]:List Shelf)).2:Nat):Int))=(s.h:Int) from this]
   rw[e];exact I
 ·rw[r,Bm]
  refine⟨h.nd,by simp[G],fun a R b f e => ?_⟩;subst e;obtain⟨o,v⟩:=q a R;rw[u a f] at v;cases v
 ·rw[r]
  intro m;have S:∃o,H z.1.sh=some o:=by
   rcases A4.mp hz with y|y
   ·obtain⟨T,e⟩:=(h.at_ z y).sh;exact⟨_,e⟩
   ·rw[Ao.mp y];exact j
  rcases A4.mp m with m|m
  ·rcases A4.mp hz with y|y
   ·exact h.sh z y m
   ·rw[Ao.mp y] at m;exact n m
  ·obtain⟨o,e⟩:=S
   rw[u _ m] at e;cases e
theorem l8.keep{H c:Hp}{a:List Pz}{C:List Ag}(h:l8 ad a3 H a)(k:mI C H c)(d:∀b∈fps (a.map (·.1)),b ∉ C)(e:∀z∈a,z.1.sh ∉ C):l8 ad a3 c a :=
 ⟨fun z hz=>(h.at_ z hz).keep k (fun b f=>d b (Bc.mpr ⟨z.1,Ax.mpr ⟨z,hz,rfl⟩,f⟩)) (e z hz),h.nd,h.sh⟩
theorem l8.same{H a:Hp}{c:List Pz}(h:l8 ad a3 H c)(s:aM H a):l8 ad a3 a c:=h.keep (C := []) (fun b o _ e=>s b o e) (fun _ _ z=>by cases z) (fun _ _ z=>by cases z)
theorem l8.jz{H:Hp}{c:List Pz}(h:l8 ad a3 H c):∀b∈fps (c.map (·.1)),∃o,H b=some o:=fun b a=>by
 obtain⟨t,d,a⟩:=Bc.mp a;obtain⟨z,hz,rfl⟩:=Ax.mp d;exact(h.at_ z hz).jz b a
structure Pm(ad:Adr)(a3:jq)(Pt:Ag)(H:Hp)(cb lo:Ag)(items:List Item)(shs:List Sheet)(k:Nat)(H':Hp)(zs:List Pz):Prop where
 kp:mI [Pt] H H'
 pt:∃tb,H' Pt=some (.tbl tb)
 ok:l8 ad a3 H' zs
 fr:∀b∈fps (zs.map (·.1)),H b=none
 hcb:H' cb=some (.lst (zs.map fun z=>V.ref z.1.a))
 hlo:H' lo=some (.lst (iv (kz items)))
 nc:cb ∉ fps (zs.map (·.1))
 nl:lo ∉ fps (zs.map (·.1))
 inv:ago k (zs.map (·.2))
 ln:zs.length=shs.length
 el:Ew items shs=((kz items).drop k).foldl (xl items) (.ok (zs.map (·.2)))
theorem Pm.same{H f c:Hp}{g lo:Ag}{a:List Item}{d:List Sheet}{k:Nat}{i:List Pz}(h:Pm ad a3 Pt H g lo a d k f i)(s:aM f c):Pm ad a3 Pt H g lo a d k c i :=
 ⟨fun b o n e=>s _ _ (h.kp b o n e),let ⟨tb,e⟩:=h.pt;⟨tb,s _ _ e⟩,h.ok.same s,h.fr,s _ _ h.hcb,s _ _ h.hlo,h.nc,h.nl,h.inv,h.ln,h.el⟩
theorem Pm.put{H T B I:Hp}{W lo:Ag}{l:List Item}{v:List Sheet}{k i:Nat}{x:Item}{j:List Pz}{c:List PlT}{d:Laid}(h:Pm ad a3 Pt H W lo l v k T j)(s2:aM T B)(X:(kz l)[k]? = some i)(ex:l.getD i it0=x)(J:0<x.w)(hh:0<x.h)(e1:dD i x ((j.filter fun z=>aH x z.2).map (·.2))=some d)(Y:p8 ad a3 I c d)(k1:mI (fps ((j.filter fun z=>aH x z.2).map (·.1))) B I)(C:(c.map fun t=>(V.ref t.a,t.sh))=((j.filter fun z=>aH x z.2).map (·.1)).map fun t=>(V.ref t.a,t.sh))(f1:∀b∈fps c,b∈fps ((j.filter fun z=>aH x z.2).map (·.1))\/B b=none)(M:∃o,H Pt=some o):∃O,Pm ad a3 Pt H W lo l v (k+1) I O:=by
 have p:=h.same s2;have es:∀t∈c,∃z∈j,t.sh=z.1.sh:=fun t ht=>by
  have m:(V.ref t.a,t.sh)∈(((j.filter fun z=>aH x z.2).map (·.1)).map fun t=>(V.ref t.a,t.sh)):=by rw[<- C];exact Ax.mpr ⟨t,ht,rfl⟩
  obtain⟨u,hu,eu⟩:=Ax.mp m;obtain⟨z,hz,rfl⟩:=Ax.mp hu;injection eu with _ E
  exact⟨z,(Bw.mp hz).1,E.symm⟩
 have m2:(c.map fun t=>V.ref t.a)=((j.filter fun z=>aH x z.2).map (·.1)).map fun t=>V.ref t.a:=by
  have:=B2 (KG fun y:V×Ag=>y.1) C;rw[Bd,Bd] at this;exact this
 have lnF:((j.filter fun z=>aH x z.2).map (·.2)).length=(j.filter fun z=>aH x z.2).length:=Ab _;have R:c.length=(j.filter fun z=>aH x z.2).length:=by
  have:=B2 F7 C;rw[Ab,Ab,Ab] at this;exact this
 obtain⟨A,z2⟩:=adg Y.ln;have G:(c.zip d).length=(j.filter fun z=>aH x z.2).length:=by rw[<- R,<- Ab (f:=fun z:Pz=>z.1),A]
 obtain⟨r1,Z⟩:=p.ok.back (g:=fun z=>aH x z.2) Y.to k1 G (by rw[A];exact f1) (fun w J=>es w.1 (by rw[<- A];exact Ax.mpr ⟨w,J,rfl⟩));have r:(fps ((j.filter fun z=>aH x z.2).map (·.1))).Sublist (fps (j.map (·.1))):=fS EA;have nh:∀b,b∈fps ((back (fun z:Pz=>aH x z.2) j (c.zip d)).map (·.1))->(∃o,B b=some o)->b∈fps (j.map (·.1)):=fun b m ⟨o,e⟩=>by
  rcases Z b m with y|y
  ·exact y
  ·rw[y] at e;cases e
 have s:(back (fun z:Pz=>aH x z.2) j (c.zip d)).map (·.2)=back (aH x) (j.map (·.2)) d:=by
  rw[qJ (aH x) j (c.zip d) G,z2]
 have ef:((j.filter fun z=>aH x z.2).map (·.2))=(j.map (·.2)).filter (aH x):=by
  rw[JD];rfl
 have E:dD i x (j.map (·.2))=some ((back (fun z:Pz=>aH x z.2) j (c.zip d)).map (·.2)):=by
  rw[mO,<- ef,e1,s];rfl
 have hk:=(Aj.mp X).1;refine⟨back (fun z:Pz=>aH x z.2) j (c.zip d),fun b o n e => ?_,?_,r1,fun b hb => ?_,?_,?_,fun m => ?_,fun m => ?_,?_,?_,?_⟩
 ·have e3:=p.kp b o n e
  refine k1 b o (fun m => ?_) e3;have:=h.fr b (r.subset m);rw[e] at this;cases this
 ·obtain⟨tb,S⟩:=p.pt
  refine⟨tb,k1 _ _ (fun m => ?_) S⟩;obtain⟨o,eo⟩:=M;have:=h.fr _ (r.subset m);rw[eo] at this;cases this
 ·rcases Z b hb with y|y
  ·exact h.fr b y
  ·cases e:H b with
   | none=>rfl
   | some o =>
    by_cases hb2:b=Pt
    ·subst hb2
     obtain⟨tb,S⟩:=p.pt;rw[S] at y;cases y
    ·rw[p.kp b o (fun m=>hb2 (Ao.mp m)) e] at y;cases y
 ·rw[k1 _ _ (fun m=>h.nc (r.subset m)) p.hcb]
  congr 2
  have:=lR (fun z:Pz=>V.ref z.1.a) (fun z=>aH x z.2) j (c.zip d) G ((show(c.zip d).map (fun z:Pz=>V.ref z.1.a)=((c.zip d).map (·.1)).map (fun t:PlT=>V.ref t.a) by rw[Bd];rfl).trans (by rw[A,m2,Bd];rfl));exact this.symm
 ·exact k1 _ _ (fun m=>h.nl (r.subset m)) p.hlo
 ·exact h.nc (nh _ m ⟨_,p.hcb⟩)
 ·exact h.nl (nh _ m ⟨_,p.hlo⟩)
 ·exact h.inv.step J hh E
 ·have:=B2 F7 s
  rw[Ab] at this;rw[this];have q:=lR (fun z:Pz=>z.1.sh) (fun z=>aH x z.2) j (c.zip d) G ((show(c.zip d).map (fun z:Pz=>z.1.sh)=((c.zip d).map (·.1)).map (fun t:PlT=>t.sh) by rw[Bd];rfl).trans (by
   rw[A];have:=B2 (KG fun y:V×Ag=>y.2) C;rw[Bd,Bd,Bd] at this;exact this))
  have q:=B2 F7 q;rw[Ab,Ab] at q;rw[<- this,<- h.ln,<- q]
 ·rw[h.el,Bh hk,(Aj.mp X).2,BK]
  congr 1
  unfold xl;dsimp only;rw[ex,E]
noncomputable abbrev agM:Stmt:=(top 73)
set_option maxHeartbeats 8000000 in
theorem afX(D:Def K mg "lay_panes" agM ["blanks","sheets"])(T:Txt K mg ad)(T3:xY K mg a3)(bc:KlG P w K mg base 1 "Pile" a3.pile (aiB ad a3))(lT:Kl P w K mg base 1 "Laying" a3.laying 2 lN)(dC:Fn P w K mg base 3 "panes_in_order" ["blanks"] (aeD ad Pt TB))(kT:Fn P w K mg base 5 "lay_pane" ["pane","blank","piles"] (ug ad a3 dD))(fy:Fn P w K mg base 3 "pile_numbers" ["pile"] (ae8 ad a3)):Fn P w K mg base 6 "lay_panes" ["blanks","sheets"] (ad9 ad a3 Pt TB):=by
 refine D.fx ["blanks","sheets","sheet","piles","pane","glass","pile","row"] ?_;rintro nd f cu A bf s0 H vs Q E hr ⟨lb,ls,d,q,pb,W,tb,rfl,bl,sl,hn,b1,bo,bp,X,br,qe,qo⟩;refine⟨_,(az (da (i:=3) rfl nd rfl rfl rfl (aY (pv 1)) (d4 (own := [("sheet",2)]) rfl) (fun _ _ _ _ _=>(kxo 2 nd)) (fun _ _ _ _ _=>cP) (fun _ _ _ _ _=>(ajc bc hr (ab (pv 2) ah)))) (az (a8 AJ rfl (aY (kxF dC hr (ab (pv 0) ah))) (kxo 4 nd) (kxs 5 nd (aA (kxI (pv 0) (pv 4)) rfl) (aE (cg (oN (aX (kxF kT hr (ab (pv 4) (ab (kxI (pv 0) (pv 4)) (ab (x9 rfl nd (aY (pv 3)) (d4 (own := [("pile",6)]) rfl) (fun _ _ _ _ _=>(kxo 6 nd)) (fun _ _ _ _ _=>zi (kxq (pG (K:=K) rfl (pG (K:=K) rfl (pv 6) rfl) rfl) (pv 5))) (fun _ _ _ _ _=>(pv 6))) ah)))) (fun _=>rfl))) (kxr (kxK lT hr (ab (pv 4) (ab (aP ah) ah)))) aR)))) (kxs 7 nd (aP ah) (az (a8 AJ rfl (aY (pv 3)) (kxo 6 nd) (aE (cS (kxX (pv 7) (kxF fy hr (ab (pv 6) ah)))))) (kxr (kxK lT hr (ab eI (ab (pv 7) ah)))))))),?_⟩;have bu:W.length=q.length:=sl.len;refine⟨_,rfl,ls,rfl,⟨_,SqL.of sl.lst⟩,fun O af=>iW (J:=Itl K ls) O q.length (fun n R=>aM H R/\∃g:List Pz,g.map (·.2)=(q.take n).map (fun s=>(s,[]))/\l8 ad a3 R g/\(∀b∈fps (g.map (·.1)),H b=none)/\R O=some (.lst (g.map fun z=>V.ref z.1.a))/\O ∉ fps (g.map (·.1))) ⟨ak af,[],rfl,⟨fun z hz=>(by cases hz),EZ,fun z hz=>(by cases hz)⟩,fun b Y=>(by cases Y),ag,fun m=>(by cases m)⟩ ?_ ?_ ?_⟩
 ·rintro j H5 hj ⟨B,_⟩
  exact⟨_,.ref (W[j]'(by omega)),SqL.of (B _ _ sl.lst),by rw[Av,Aa (by omega)];rfl⟩
 ·rintro j v H6 H5 hj ⟨B,g,e5,Z,a0,G,a6⟩ ⟨rfl,hx⟩
  have ex:=hx _ (SqL.of (B _ _ sl.lst));have b2:j<W.length:=by omega
  rw[Av,Aa b2] at ex;obtain rfl:V.ref W[j]=v:=Ah ex;obtain⟨dxs,S⟩:=sl.at_ j _ _ (Aa b2) (Aa hj);have S:H W[j]=some (.ins ad.sheet dxs (sV q[j])):=S;have bx:q.take (j+1)=q.take j++[q[j]]:=take_snoc (Aa hj);have lz:g.length=j:=by
   have:=B2 F7 e5;rw[Ab,Ab,AO] at this;omega
  generalize W[j]=sh at *
  generalize q[j]=s at *
  refine⟨rfl,ke ⟨_,rfl,?_⟩⟩;intro p I np ai ne;have c0:sh≠p:=fun e=>by rw[e] at S;rw[B _ _ S] at np;cases np
  have c1:sh≠I:=fun e=>by rw[e] at S;rw[B _ _ S] at ai;cases ai
  refine⟨p,I,sh,dxs,s,rfl,ag,by rw[aw c0,aw c1];exact B _ _ S,fun l hl=>⟨rfl,?_⟩⟩;have a7:l≠p:=fun e=>by rw[e,ag] at hl;cases hl
  have c2:l≠I:=fun e=>by rw[aw a7,e,ag] at hl;cases hl
  have a4:H5 l=none:=by rw[aw a7,aw c2] at hl;exact hl
  have M:aM H5 (upd (upd (upd (upd H5 I (.own p)) p (.ins a3.pile I [])) l (.lst [])) p (.ins a3.pile I [("sheet",.ref sh),("height_left",.int (s.h:Int)),("shelves",.ref l)])):=fun b o e=>by
   rw[aw (aB e np),aw (aB e a4),aw (aB e np),aw (aB e ai)];exact e
  have p7:(upd (upd (upd (upd H5 I (.own p)) p (.ins a3.pile I [])) l (.lst [])) p (.ins a3.pile I [("sheet",.ref sh),("height_left",.int (s.h:Int)),("shelves",.ref l)])) p=some (.ins a3.pile I [("sheet",.ref sh),("height_left",.int (s.h:Int)),("shelves",.ref l)]):=ag;have l7:(upd (upd (upd (upd H5 I (.own p)) p (.ins a3.pile I [])) l (.lst [])) p (.ins a3.pile I [("sheet",.ref sh),("height_left",.int (s.h:Int)),("shelves",.ref l)])) l=some (.lst []):=by rw[aw a7,ag]
  generalize upd (upd (upd (upd H5 I (.own p)) p (.ins a3.pile I [])) l (.lst [])) p (.ins a3.pile I [("sheet",.ref sh),("height_left",.int (s.h:Int)),("shelves",.ref l)])=H7 at *
  have pc:p≠O:=fun e=>by rw[e,G] at np;cases np
  have lc:l≠O:=fun e=>by rw[e,G] at a4;cases a4
  have sc:sh≠O:=fun e=>by rw[e,af] at S;cases S
  have o5:∀b,H5 b=none->H b=none:=fun b e=>by
   cases e2:H b with
   | none=>rfl
   | some o=>rw[B _ _ e2] at e;cases e
  refine⟨_,M _ _ G,?_,aI (B.trans M) af,g++[(⟨p,l,sh,[]⟩,(s,[]))],?_,?_,?_,?_,?_⟩
  ·rw[Ab,lz];exact aT (by omega)
  ·rw[Ay,e5,bx,Ay];rfl
  ·refine Z.snoc (C := [O]) (fun b o n e => ?_) (fun b Y m=>a6 ((Ao.mp m)▸Y)) (fun z hz m => ?_) np a4 (Ne.symm a7) ⟨_,B _ _ S⟩ (fun m => ?_) (by rw[aw pc];exact p7) (by rw[aw lc];exact l7) (dxs:=dxs) (by rw[aw sc];exact M _ _ (B _ _ S))
   ·rw[aw (fun m=>n (Ao.mpr m))];exact M _ _ e
   ·obtain⟨dz,ez⟩:=(Z.at_ z hz).sh
    rw[Ao.mp m,G] at ez;cases ez
   ·have:=a0 _ m
    rw[S] at this;cases this
  ·intro b Y
   rw[Ay,dv] at Y;rcases A4.mp Y with m|m
   ·exact a0 b m
   ·rcases Am.mp (show b∈[p,l] from m) with e|e
    ·rw[e];exact o5 _ np
    ·rw[Ao.mp e];exact o5 _ a4
  ·rw[ag,Ay];rfl
  ·rw[Ay,dv]
   intro m;rcases A4.mp m with m|m
   ·exact a6 m
   ·rcases Am.mp (show O∈[p,l] from m) with e|e
    ·exact pc e.symm
    ·exact lc (Ao.mp e).symm
 ·rintro H5 ⟨B,aj,e5,Z,a0,G,a6⟩
  refine⟨⟨_,SqL.of (B _ _ sl.lst),by rw[Ab,bu];exact Ak _⟩,?_⟩;rw[BG] at e5;have b3:∀b o,H b=some o->(∀tb,o≠.tbl tb)->b ∉ [Pt]:=fun b o e n m=>by
   rw[Ao.mp m,X] at e;cases e
   exact n tb rfl
  have c3:ago 0 (aj.map (·.2)):=by
   rw[e5];refine⟨fun p hp => ?_,?_⟩
   ·obtain⟨s,S,rfl⟩:=Ax.mp hp
    obtain⟨h1,h2⟩:=bp s S;exact⟨⟨h1,h2,AN _,fun x hx=>by cases hx⟩,Ak _,fun x hx=>by cases hx⟩
   ·rw[Bd]
    have:∀l:List Sheet,(l.map ((fun p:Sheet×List Shelf=>szP p.2) ∘ fun s=>(s,[]))).sum=0:=fun l=>by
     induction l with
     | nil=>rfl
     | cons a r ih=>rw[AA,Dr,ih];rfl
    rw[this];exact Ak _
  refine⟨_,rfl,lb,d,pb,tb,rfl,bl.same (cT ad).same B,hn,B _ _ X,br,fun H6 lo k6 c5 c6 b4=>⟨lo,rfl,⟨_,SqL.of b4⟩,bB (K:=K) (a:=lo) (xs:=iv (kz d)) (fun k σ R=>(∃v2 v4 v5 v6 v7,σ=[some (.ref lb),some (.ref ls),v2,some (.ref O),v4,v5,v6,v7])/\∃g,Pm ad a3 Pt H O lo d q k R g) ⟨⟨_,_,_,_,_,rfl⟩,aj,?_⟩ (fun k σ R _ ⟨_,g,e⟩=>SqL.of e.hlo) ?_ ?_⟩⟩
  ·have nf:∀b∈fps (aj.map (·.1)),b ∉ [Pt]:=fun b Y m=>by
    have:=a0 b Y;rw[Ao.mp m,X] at this;cases this
   refine⟨fun b o n e=>k6 b o n (B _ _ e),c5,Z.keep k6 nf (fun z hz m => ?_),a0,?_,b4,a6,fun m => ?_,c3,by have:=B2 F7 e5;rw[Ab,Ab] at this;exact this,?_⟩
   ·obtain⟨dz,ez⟩:=(Z.at_ z hz).sh
    rw[Ao.mp m,B _ _ X] at ez;cases ez
   ·refine k6 _ _ (fun m => ?_) G
    rw[Ao.mp m,B _ _ X] at G;cases G
   ·obtain⟨o,e⟩:=Z.jz _ m
    rw[c6] at e;cases e
   ·rw[tX,CP,e5]
  ·rintro k v σ R hv ⟨⟨v2,v4,v5,v6,v7,rfl⟩,g,u⟩
   have hk:k<(kz d).length:=by
    have:=(Aj.mp hv).1;rw[eJ] at this;exact this
   have c7:(iv (kz d))[k]? = some (.int (((kz d)[k]:Nat):Int)):=by
    unfold iv;rw[Av,Aa hk];rfl
   rw[c7] at hv;obtain rfl:=Ah hv;have ei:(kz d)[k]? = some (kz d)[k]:=Aa hk;have hi:(kz d)[k]<d.length:=A6.mp ((mJ d).mem_iff.mp (AX hk));have cv:k<65535:=by
    have:=(mJ d).length_eq;rw[AG] at this;omega
   generalize (kz d)[k]=i at *
   have au:LO (eV ad) R lb d pb:=⟨u.kp _ _ (b3 _ _ bl.lst (fun _ z=>nomatch z)) bl.lst,bl.len,fun j p x e1 e2=>by
    obtain⟨dz,ez⟩:=bl.at_ j p x e1 e2;exact⟨dz,u.kp _ _ (b3 _ _ ez (fun _ z=>nomatch z)) ez⟩⟩
   obtain⟨b,gb,b5,Y⟩:=au.get (Aa hi);have ex:d.getD i it0=d[i]:=by rw[Az,Aa hi];rfl
   obtain⟨hw,hh⟩:=bo _ (AX hi);generalize d[i]=x at *
   have Y:R b=some (.ins ad.blank b5 (adj x)):=Y;refine⟨_,rfl,_,rfl,lb,_,_,_,rfl,rfl,SqL.of au.lst,aQ gb,fl Y T.blank ajJ ?_⟩;refine⟨_,rfl,_,rfl,_,rfl,lb,_,_,_,rfl,rfl,SqL.of au.lst,aQ gb,_,rfl,O,rfl,⟨_,SqL.of u.hcb⟩,fun lf b6=>iW (J:=Itl K O) lf g.length (fun n H2=>aM R H2/\H2 lf=some (.lst (((g.take n).filter fun z=>aH x z.2).map fun z=>V.ref z.1.a))) ⟨ak b6,ag⟩ ?_ ?_ ?_⟩
   ·rintro j H7 hj ⟨M,_⟩
    exact⟨_,.ref (g[j]).1.a,SqL.of (M _ _ u.hcb),by rw[Av,Aa hj];rfl⟩
   ·rintro j v H8 H7 hj ⟨M,a5⟩ ⟨rfl,hx⟩
    have b8:=hx _ (SqL.of (M _ _ u.hcb));rw[Av,Aa hj] at b8;obtain rfl:=Ah b8;have pz:=(u.ok.same M).at_ _ (AX hj);have tk:g.take (j+1)=g.take j++[g[j]]:=take_snoc (Aa hj);have cy:g.length<=1024:=by rw[u.ln];exact b1
    have c9:(((g.take j).filter fun z=>aH x z.2).map fun z=>V.ref z.1.a).length<sizeLine:=by
     rw[Ab];refine I0 (Fo _ _) (aT ?_);rw[AO];omega
    rw[tk,ER,Ay];generalize ((g.take j).filter fun z=>aH x z.2).map (fun z=>V.ref z.1.a)=acc at *
    generalize g[j]=z at *
    obtain⟨dz,oz⟩:=pz.ob;obtain⟨cz,cc⟩:=pz.sh;refine⟨rfl,_,rfl,fl oz T3.pile rfl (fl cc T.sheet ajq ⟨_,rfl,rfl,_,rfl,?_⟩)⟩;rw[yj];have eg:decide (z.2.1.glass=x.glass)=aH x z.2:=by
     unfold aH
     by_cases h:z.2.1.glass=x.glass
     ·rw[AD h,BL.mpr h]
     ·rw[AR h];exact(BX.mpr h).symm
    rw[eg];cases hg:aH x z.2 with
    | true =>
     refine jO ⟨_,rfl,acc,a5,c9,aI M b6,?_⟩;rw[ag,Cz,hg];rfl
    | false =>
     refine jt ⟨M,?_⟩;rw[Cz,hg];show _=some (HO.lst (acc++[]));rw[CB];exact a5
   ·rintro H7 ⟨M,a5⟩
    refine⟨⟨_,SqL.of (M _ _ u.hcb),by rw[Ab];exact Ak _⟩,?_⟩;rw[BG] at a5;have ck:=u.same M;have cm:=(ck.ok.sub (ws:=g.filter fun z=>aH x z.2) EA).to;have ba:∀p∈(g.filter fun z=>aH x z.2).map (·.2),p∈g.map (·.2)/\aH x p=true:=fun p hp=>by
     obtain⟨z,hz,rfl⟩:=Ax.mp hp;obtain⟨h1,h2⟩:=Bw.mp hz;exact⟨Ax.mpr ⟨z,h1,rfl⟩,h2⟩
    refine⟨i,b,lf,x,(g.filter fun z=>aH x z.2).map (·.1),(g.filter fun z=>aH x z.2).map (·.2),rfl,⟨b5,M _ _ Y⟩,by rw[a5,Bd];rfl,cm,fun p hp=>BL.mp (ba p hp).2,fun p hp => ?_,fun cn H8 s8 => ?_,fun d0 d1 H8 e1 o1 k1 m1 f1 => ?_⟩
    ·obtain⟨_,g2,g3⟩:=u.inv.gd p (ba p hp).1
     exact⟨by omega,fun h hh=>by have:=g3 h hh;omega⟩
    ·refine⟨_,rfl,jO ⟨_,rfl,AN _,fun lr av=>vv rfl ?_⟩⟩
     refine adk (row := []) ag fun H9 c lg=>qe H9 c lr i ?_ lg;have e2:dD i x (g.map (·.2))=none:=by
      rw[mO];have:(g.map (·.2)).filter (aH x)=(g.filter fun z=>aH x z.2).map (·.2):=by rw[JD];rfl
      rw[this,cn];rfl
     rw[u.el,Bh hk,(Aj.mp ei).2,BK];have e3:xl d (.ok (g.map (·.2))) i=.error i:=by
      unfold xl;dsimp only;rw[ex,e2]
     rw[e3,qU]
    ·exact⟨_,rfl,jt ⟨⟨_,_,_,_,_,rfl⟩,u.put M ei ex hw hh e1 o1 k1 m1 f1 ⟨_,X⟩⟩⟩
  ·rintro σ R ⟨⟨v2,v4,v5,v6,v7,rfl⟩,g,u⟩
   have ln:(kz d).length=d.length:=by
    have:=(mJ d).length_eq;rw[AG] at this;exact this
   have aa:=u.inv;have el:=u.el;rw[eJ,ln] at aa;rw[eJ,CI] at el;have el:Ew d q=.ok (g.map (·.2)):=el;have lz:g.length<=1024:=by rw[u.ln];exact b1
   have cp:∀l:Laid,(l.flatMap fQ).length<=(l.map fun p=>szP p.2).sum+l.length:=fun l=>by
    induction l with
    | nil=>exact Ak _
    | cons p r ih =>
     rw[BN,Al,AA,Dr,A7];have:(fQ p).length<=szP p.2+1:=yE _ _ _;omega
   have cq:=cp (g.map (·.2));rw[Ab] at cq;have sz:=aa.sz;refine⟨AN _,fun lr av => ?_⟩;have s1:=ak (o:=.lst []) av;have ct:(upd R lr (.lst [])) lr=some (.lst (iv [])):=ag;generalize upd R lr (.lst [])=H1 at *
   refine⟨_,rfl,O,rfl,⟨_,SqL.of (s1 _ _ u.hcb)⟩,bB (K:=K) (a:=O) (xs:=g.map fun z=>V.ref z.1.a) (fun n σ H2=>(∃v2 v4 v5 v6,σ=[some (.ref lb),some (.ref ls),v2,some (.ref O),v4,v5,v6,some (.ref lr)])/\aM R H2/\H2 lr=some (.lst (iv (((g.map (·.2)).take n).flatMap fQ)))) ⟨⟨_,_,_,_,rfl⟩,s1,ct⟩ (fun n σ H2 _ ⟨_,e,_⟩=>SqL.of (e _ _ u.hcb)) ?_ ?_⟩
   ·rintro n v σ H2 hv ⟨⟨v2,v4,v5,v6,rfl⟩,s2,h2⟩
    have ae:n<g.length:=by
     have:=(Aj.mp hv).1;rw[Ab] at this;exact this
    rw[Av,Aa ae] at hv;obtain rfl:=Ah hv;have pz:=(u.ok.same s2).at_ _ (AX ae);have mz:(g[n]).2∈g.map (·.2):=Ax.mpr ⟨_,AX ae,rfl⟩;have tk:(g.map (·.2)).take (n+1)=(g.map (·.2)).take n++[(g[n]).2]:=take_snoc (by rw[Av,Aa ae];rfl);have ax:(((g.map (·.2)).take (n+1)).flatMap fQ).length<=((g.map (·.2)).flatMap fQ).length:=by
     have:=B2 (fun l:Laid=>(l.flatMap fQ).length) (D4 (n+1) (g.map (·.2)));have this:((((g.map (·.2)).take (n+1))++((g.map (·.2)).drop (n+1))).flatMap fQ).length=((g.map (·.2)).flatMap fQ).length:=this;rw[BJ,Al] at this;omega
    have d2:szP (g[n]).2.2<=((g.map (·.2)).map fun p=>szP p.2).sum:=oH (Ax.mpr ⟨_,mz,rfl⟩);obtain⟨_,_,g3⟩:=aa.gd _ mz;rw[tk,BJ] at ax ⊢;generalize ((g.map (·.2)).take n).flatMap fQ=acc at *
    generalize g[n]=z at *
    have en:[z.2].flatMap fQ=fQ z.2:=by show fQ z.2++[]=_;rw[CB]
    rw[en] at ax ⊢;rw[Al] at ax;refine⟨_,rfl,.inl ⟨rfl,_,SqL.of h2⟩,_,rfl,z.1,z.2,rfl,pz,by omega,fun y hy=>by have:=g3 y hy;omega,fun H3 l3 s3 h3=>⟨lr,l3,_,_,rfl,rfl,s3 _ _ h2,h3,?_,⟨_,_,_,_,rfl⟩,aI (s2.trans s3) av,?_⟩⟩
    ·rw[eJ,eJ];show acc.length+(fQ z.2).length<=2 ^ 24;omega
    ·rw[ag,jw];rfl
   ·rintro σ H2 ⟨⟨v2,v4,v5,v6,rfl⟩,s2,h2⟩
    rw[Ab,<- Ab (f:=fun z:Pz=>z.2),BG] at h2;refine⟨_,rfl,vv rfl ?_⟩;exact adk h2 fun H9 c lg=>qo H9 c lr _ el (fun p hp=>(aa.gd p hp).1) lg (by omega)
end
end Gs
namespace Gs
open PySem PySem.Spec PyProof.Rows PyProof.Rows.G
section
variable{prog:AI}{w:AZ}{A:B7}{E:Ai->Aq->Prop}{s:Aq}{a kS:Ag}{vs:List Ai}{keys:Array Ai}{e e1:Nat}{P:Km->Aq->Prop}
theorem agc{st:SortSt}(n:s.heap.get? kS=some (seqObj "list" keys e))(p:s.heap.get? a=some (seqObj "list" #[] e1))(g:kS≠a)(hsz:keys.size<=sizeLine)(f:(arrOf st).size<=sizeLine)(i:failedOf st=none)(h:∀h' c,(∀b o,b≠a->b≠kS->s.heap.get? b=some o->h'.get? b=some o)->h'.get? a=some (seqObj "list" ((arrOf st).map (·.2)) c)->P (.done (.ret .none)) { s with heap:=h' }):
  wpAny (model prog w) A (ksk_tail a false e1 (.ref kS) st) P E s:=by
 have m:=CY s.heap kS (BD fun _=>(#[]:Array Ai));have d:(s.heap.update kS (BD fun _=>(#[]:Array Ai))).get? a=some (seqObj "list" #[] e1):=(m.2 a g.symm).trans p;have r:=CY (s.heap.update kS (BD fun _=>(#[]:Array Ai))) a (BD fun _=>(arrOf st).map (·.2));obtain⟨j,l⟩:∃j,((s.heap.update kS (BD fun _=>(#[]:Array Ai))).update a (BD fun _=>(arrOf st).map (·.2))).get? a=some (seqObj "list" ((arrOf st).map (·.2)) j) :=
  ⟨_,get?_update_seq d fun _=>(arrOf st).map (·.2)⟩
 unfold ksk_tail;dsimp only;refine Af (GQ n rfl ?_ hsz (AN _));refine Af (GA ?_);refine Af (seqEpoch_at d rfl ?_);refine Af (GQ d rfl ?_ (AN _) (Nat.le_succ_of_le (Br (DT (JY ..)) f)));rw[i];simp only[bne_self_eq_false,Ct,Eo];exact A2 (h _ j (fun b o u v q=>(r.2 b u).trans ((m.2 b v).trans q)) l)
theorem ajZ{κ:FE}(v:s.heap.get? kS=some (seqObj "list" keys e))(y:s.heap.get? a=some (seqObj "list" #[] e1))(l:kS≠a)(d:keys.size=vs.length)(m:vs.length<=sizeLine)(z:FY κ (keys.zip vs.toArray))(B:LtAt prog w s κ (tuples' true))(n:2<=vs.length->∀{Q:SortKind->Aq->Prop},Q (tuples' true) s->wpAny (model prog w) A (keyKind' keys) Q E s)(h:∀h' c (arr:Array JZ),(∀b o,b≠a->b≠kS->s.heap.get? b=some o->h'.get? b=some o)->arr.Perm (keys.zip vs.toArray)->HY κ arr arr.size->h'.get? a=some (seqObj "list" (arr.map (·.2)) c)->P (.done (.ret .none)) { s with heap:=h' }):
  wpAny (model prog w) A (ksk_end a false vs.toArray e1 (.ref kS) keys) P E s:=by
 have g:(keys.zip vs.toArray).size=vs.length:=by rw[Ka,d,A9,Gf]
 unfold ksk_end;dsimp only;simp only[Ct,Eo]
 by_cases h2:vs.toArray.size<2
 ·rw[As h2,As h2]
  refine Af (A2 ?_);rw[StateT.run_pure];refine Af (A2 ?_);dsimp only;refine agc (st:=SortSt.mk' general' (keys.zip vs.toArray) #[] 7 none) v y l (by rw[d];exact m) (Br (DT g) m) rfl fun h' c p q=>h h' c _ p (JE _) ?_ q;intro i j C G;have r:j<(keys.zip vs.toArray).size:=G;rw[g] at r;rw[A9] at h2;have:i=j:=by omega
  subst this;exact KeyOrd.kle_refl _
 ·rw[Ar h2,Ar h2]
  rw[A9] at h2;refine Af (n (by omega) ?_);refine Af (C2 (wpS_sortRunsSt (κ:=κ) (kd:=tuples' true) (a₀:=keys.zip vs.toArray) (st:=SortSt.mk' (tuples' true) (keys.zip vs.toArray) #[] 7 none)
   (Q:=fun _ f=>(arrOf f).Perm (keys.zip vs.toArray)/\failedOf f=none/\HY κ (arrOf f) (keys.zip vs.toArray).size)
   B z ⟨JE _,rfl,rfl⟩ rfl (Stable.refl _) (by rw[g];omega) fun f H I a3 _=>⟨H,I,a3⟩) ?_ fun _ _ e=>e)
  rintro⟨⟨⟩,f⟩ M ⟨rfl,u,hf,J⟩;dsimp only;exact agc v y l (by rw[d];exact m) (by rw[u.size_eq,g];exact m) hf fun h' c p q=>h h' c _ p u (by rw[u.size_eq];exact J) q
theorem ahQ{f:Ai}{κ:List Ai->Aq->FE}(St:List Ai->Aq->Prop)(S:s.heap.get? kS=some (seqObj "list" #[] 0))(T:s.heap.get? a=some (seqObj "list" #[] e1))(y:kS≠a)(W:vs.length<=sizeLine)(X:St [] s)(Y:∀d g h' tk,St d g->(∀b o,b≠a->b≠kS->g.heap.get? b=some o->h'.get? b=some o)->St d { g with heap:=h',toks:=tk })(B:∀d v g p,vs[d.length]? = some v->St d g->g.heap.get? kS=some (seqObj "list" d.toArray p)->g.heap.get? a=some (seqObj "list" #[] e1) ->
   wpAny (model prog w) A (call f [v]) (fun k l=>St (d++[k]) l/\l.heap.get? kS=some (seqObj "list" d.toArray p)/\l.heap.get? a=some (seqObj "list" #[] e1)) (fun _ _=>False) g)(C:∀d g,St d g->d.length=vs.length->FY (κ d g) (d.toArray.zip vs.toArray)/\LtAt prog w g (κ d g) (tuples' true)/\(2<=vs.length->∀{Q:SortKind->Aq->Prop},Q (tuples' true) g->wpAny (model prog w) A (keyKind' d.toArray) Q E g))(h:∀d g h' c (m:Array JZ),St d g->d.length=vs.length->(∀b o,b≠a->b≠kS->g.heap.get? b=some o->h'.get? b=some o)->m.Perm (d.toArray.zip vs.toArray)->HY (κ d g) m m.size->h'.get? a=some (seqObj "list" (m.map (·.2)) c)->P (.done (.ret .none)) { g with heap:=h' }):
  wpAny (model prog w) A (ksk_rest a f false vs.toArray e1 (.ref kS)) P E s:=by
 unfold ksk_rest;refine Af (Fx ?_)
 first
  | rw[List.forIn_toArray]
  | (rw[<- Gu];simp only[List.toList_toArray])
 refine Af (ksk_fold (fun i g=>∃d p,d.length=i/\St d g/\g.heap.get? kS=some (seqObj "list" d.toArray p)/\g.heap.get? a=some (seqObj "list" #[] e1)) vs 0 s ⟨[],0,rfl,X,S,T⟩ ?step ?done)
 case step =>
  rintro j x g M ⟨d,p,r,n,u,G⟩;have hj:j<vs.length:=(Aj.mp M).1;have r:d.length=j:=by omega
  refine Af (GJ ?_);refine C2 (B d x g p (by rw[r];exact M) n u G) (fun k l ⟨H,O,Z⟩ => ?_) fun _ _ z=>z.elim;dsimp only;have R:=CY l.heap kS (BD (·.push k));obtain⟨I,J⟩:∃I,(l.heap.update kS (BD (·.push k))).get? kS=some (seqObj "list" (d++[k]).toArray I):=by
   have:=get?_update_seq O (·.push k);rw[List.push_toArray] at this;exact⟨_,this⟩
  refine Af (GQ O rfl ?_ (by rw[A9];omega) (by rw[JA,A9];omega));exact A2 ⟨rfl,d++[k],I,by rw[Al];show d.length+1=_;omega,Y _ _ _ _ H fun b o _ u q=>(R.2 b u).trans q,J,(R.2 a y.symm).trans Z⟩
 case done =>
  rintro g ⟨d,p,r,n,u,G⟩;have r:d.length=vs.length:=by omega
  obtain⟨b1,b2,b3⟩:=C d g n r
  try dsimp only
  refine Af (listItems_at u rfl ?_);exact ajZ u G y (by rw[A9];exact r) W b1 b2 b3 fun h' c m fr hp hs hc=>h d g h' c m n r fr hp hs hc
end
section
variable{prog:AI}{w:AZ}{A:B7}{E:Ai->Aq->Prop}{s:Aq}
theorem abL{R:JH->Aq->Prop}{r:Ag}{a b c:Int}{t u v:KN}{n:Nat}(hh:A.handled=none)(j:KU s.heap r a b c t u v)(d:CA a b c=true)(l:By a b c=n)(f:n<=2 ^ 24)(h:∀h' tk acc c',(∀b o,s.heap.get? b=some o->h'.get? b=some o)->h'.get? s.heap.objs.size=some { cls:=.type "list",data:=.seq acc c' }->ItemsOf (fun i v=>∃t,v=.int (a+i*c) t) acc n->R (.ok (.ret (.ref s.heap.objs.size))) { s with heap:=h',toks:=tk }):
  codeAny (model prog w) A (.builtin "proto.collect" ⟨[.ref r],[]⟩) R s:=by
 refine DB entry_proto_collect' ?_;show wpAny _ _ (do again (.builtin "list.__iadd__" ⟨[<- newList [],.ref r],[]⟩)) _ _ s;refine Af (Io (A2 ⟨IF _ (by decide +kernel),DB entry_list_iadd' ?_⟩));show wpAny _ _ (Dj (.ref s.heap.objs.size) (.ref r) (.ref s.heap.objs.size)) _ _ { s with heap:=s.heap.push (seqObj "list" #[] 0) };rw[DG F.plain_list_iadd _];exact wpAny_extend_range (A:=A) (s:={ s with heap:=s.heap.push (seqObj "list" #[] 0) }) hh (Ap _ j) d l f s.heap.objs.size (.ref s.heap.objs.size) 0 (AH _ rfl) fun h' tk g c' m p q =>
  h h' tk g c' (fun b o e=>m b o (Bj (AF e)) (Ap _ e)) p q
theorem tN{r:Ag}{a b c:Int}{t u v:KN}{n:Nat}{Q:List Ai->Aq->Prop}(hh:A.handled=none)(m:KU s.heap r a b c t u v)(d:CA a b c=true)(p:By a b c=n)(g:n<=2 ^ 24)(h:∀h' tk vs,(∀b o,s.heap.get? b=some o->h'.get? b=some o)->s.heap.objs.size<h'.objs.size->vs.length=n->(∀(i:Nat) v,vs[i]? = some v->∃t,v=Ey (a+i*c) t)->Q vs { s with heap:=h',toks:=tk }):
  wpAny (model prog w) A (collect (.ref r)) Q E s:=by
 unfold collect;refine Af (wpAny_runValue (abL hh m d p g fun h' tk f c' q j l => ?_));show wpAny (model prog w) A (do
   let o <- load s.heap.objs.size
   match o.data with
   | .seq xs _=>pure xs.toList
   | _=>unsupported "internal:collect") Q E { s with heap:=h',toks:=tk }
 refine Af (KO j ?_);show wpAny _ _ (pure f.toList) Q E _;exact A2 (h h' tk f.toList q (AF j) (by rw[BI];exact l.1) fun i v e=>l.2 i v (by rw[<- e,Hx]))
theorem aec{r f:Ag}{n:Nat}{t u v:KN}{κ:List Ai->Aq->FE}{Q:Ai->Aq->Prop}(hh:A.handled=none)(Z:KU s.heap r 0 (n:Int) 1 t u v)(y:CA 0 (n:Int) 1=true)(hn:By 0 (n:Int) 1=n)(T:n<=2 ^ 24)(go:∀(a kS:Ag) (R:B1) (tk:Nat) (vs:List Ai),kS≠a->s.heap.objs.size<=a->s.heap.objs.size<=kS->(∀b o,s.heap.get? b=some o->R.get? b=some o)->vs.length=n->(∀(i:Nat) v,vs[i]? = some v->∃t,v=Ey (i:Int) t) ->
   ∀e1,R.get? kS=some (seqObj "list" #[] 0)->R.get? a=some (seqObj "list" #[] e1) ->
   ∃St:List Ai->Aq->Prop,St [] { s with heap:=R,toks:=tk } /\
    (∀j d h' tk,St j d->(∀b o,b≠a->b≠kS->d.heap.get? b=some o->h'.get? b=some o)->St j { d with heap:=h',toks:=tk }) /\
    (∀j v d W,vs[j.length]? = some v->St j d->d.heap.get? kS=some (seqObj "list" j.toArray W)->d.heap.get? a=some (seqObj "list" #[] e1) ->
     wpAny (model prog w) A.in1.in1 (call (.ref f) [v]) (fun k G=>St (j++[k]) G/\G.heap.get? kS=some (seqObj "list" j.toArray W)/\G.heap.get? a=some (seqObj "list" #[] e1)) (fun _ _=>False) d) /\
    (∀j d,St j d->j.length=vs.length->FY (κ j d) (j.toArray.zip vs.toArray)/\LtAt prog w d (κ j d) (tuples' true)/\(2<=vs.length->∀{E:Ai->Aq->Prop} {Q:SortKind->Aq->Prop},Q (tuples' true) d->wpAny (model prog w) A.in1.in1 (keyKind' j.toArray) Q E d)) /\
    (∀j d h' c (l:Array JZ),St j d->j.length=vs.length->(∀b o,b≠a->b≠kS->d.heap.get? b=some o->h'.get? b=some o)->l.Perm (j.toArray.zip vs.toArray)->HY (κ j d) l l.size->h'.get? a=some (seqObj "list" (l.map (·.2)) c)->Q (.ref a) { d with heap:=h' })):
  wpAny (model prog w) A (call (.builtin "sorted") [.ref r] [(BR "key",.ref f)]) Q E s:=by
 refine call_function_entry_kw kind_sorted plain_sorted entry_sorted (ksk_s1 _ _) ?_;unfold Builtin.«sorted»;refine Af (m:=checkCount "sorted" 1 1 _) (A2 ?_);refine Af (tN (A:=A.in1) hh Z y hn T fun g tk vs k0 X J hv => ?_);have B:vs.length<=sizeLine:=by rw[J];exact Br T (by decide)
 refine Af (Io ?_ B);have C:(g.push (seqObj "list" vs.toArray 0)).get? g.objs.size=some (seqObj "list" vs.toArray 0):=AH _ rfl;show wpAny _ _ _ _ _ { s with heap:=g.push (seqObj "list" vs.toArray 0),toks:=tk };refine Af (C0 (wpAny_call_entry_kw slot_list_sort ⟨_,C,rfl⟩ entry_list_sort ?body (ksk_l1 _ _)));show wpAny (model prog w) A.in1.in1 (Builtin.«list.sort» ⟨[.ref g.objs.size],[(BR "key",.ref f)]⟩) _ _ _;rw[ksk_t1];have s1:=CY (g.push (seqObj "list" vs.toArray 0)) g.objs.size (BD fun _=>(#[]:Array Ai));obtain⟨e1,H⟩:∃e1,((g.push (seqObj "list" vs.toArray 0)).update g.objs.size (BD fun _=>(#[]:Array Ai))).get? g.objs.size=some (seqObj "list" #[] e1):=⟨_,get?_update_seq C fun _ => #[]⟩;have I:(((g.push (seqObj "list" vs.toArray 0)).update g.objs.size (BD fun _=>(#[]:Array Ai))).push (seqObj "tuple" vs.toArray 0)).objs.size=g.objs.size+2:=by rw[size_push',Heap.size_update,size_push']
 have kp:∀b o,s.heap.get? b=some o->((((g.push (seqObj "list" vs.toArray 0)).update g.objs.size (BD fun _=>(#[]:Array Ai))).push (seqObj "tuple" vs.toArray 0)).push (seqObj "list" #[] 0)).get? b=some o:=fun b o e=>by
  have e:=k0 b o e;have S:=AF e;refine Ap _ (Ap _ ?_);rw[s1.2 b (Bj S)];exact Ap _ e
 have M:=AH (((g.push (seqObj "list" vs.toArray 0)).update g.objs.size (BD fun _=>(#[]:Array Ai))).push (seqObj "tuple" vs.toArray 0)) (o:=seqObj "list" #[] 0) rfl;have O:g.objs.size+2≠g.objs.size:=fun z=>absurd (show g.objs.size+2=g.objs.size from z) (by omega);obtain⟨St,g0,g1,g2,g3,g4⟩:=go g.objs.size (g.objs.size+2) _ tk vs O (BQ X) (Br (BQ X) (Ft _ _)) kp J (fun i v e=>by
  obtain⟨t,Y⟩:=hv i v e;have z:(0:Int)+(i:Int)*1=(i:Int):=by omega
  rw[z] at Y;exact⟨t,Y⟩) e1 (by rw[<- I];exact M) (Ap _ (Ap _ H))
 unfold ksk_tree;refine Af (listItems_at C rfl ?_);refine Af (GQ C rfl ?_ (by rw[A9];exact B) (AN _));refine Af (seqEpoch_at H rfl ?_);refine Af (HJ ?_ B);refine Af (Io ?_ (AN _));refine C0 ?_;have p:=ahQ (prog:=prog) (w:=w) (A:=A.in1.in1) (E:=E) (f:=.ref f) (a:=g.objs.size) (kS:=g.objs.size+2) (e1:=e1) (vs:=vs) (κ:=κ) (s:={ s with heap:=(((g.push (seqObj "list" vs.toArray 0)).update g.objs.size (BD fun _=>(#[]:Array Ai))).push (seqObj "tuple" vs.toArray 0)).push (seqObj "list" #[] 0),toks:=tk })
  (P:=fun p d=>∃v,p=Fin.done (Flow.ret v)/\wpAny (model prog w) A.in1 (do ret (.ref g.objs.size)) (fun p d=>∃v,p=Fin.done (Flow.ret v)/\Q v d) E d) St (by rw[<- I];exact M) (Ap _ (Ap _ H)) O B g0 g1 g2 (fun j d st J=>by
   obtain⟨b1,b2,b3⟩:=g3 j d st J;exact⟨b1,b2,fun h2 {Q} q=>b3 h2 q⟩) fun j d h' c l st J fr hp hs hc=>⟨_,rfl,A2 ⟨_,rfl,g4 j d h' c l st J fr hp hs hc⟩⟩
 rw[<- I] at p;exact p
end
end Gs
namespace Gs
open PySem PySem.Spec PyProof.Rows L2
section
variable{X:Cx}{pins:List (Ag×D5)}{σ:L2.St}{H:Hp}{s:Aq}
theorem grow{h':B1}{t':Nat}{d:Ag}{ps a:Array Ai}(I:Inv X pins σ H s)(f:H d=some (.tbl ps))(k:∀b o,b≠d->s.heap.get? b=some o->h'.get? b=some o)(i:h'.get? d=some { cls:=.none,data:=.fields (ps++a) }):
  Inv X pins σ (upd H d (.tbl (ps++a))) { s with heap:=h',toks:=t' }:=by
 have g:∀b,H b=none->b≠d:=fun b n z=>by rw[z,f] at n;cases n
 refine I.un (h':=h') ⟨fun b o e n _ _=>k b o (g b n) e,fun b o e n _ _=>⟨o.slots,k b o (g b n) e⟩,fun b o e n _=>by rw[aw (g b n)];exact n,fun b o e _ => ?_,fun b xs e => ?_,fun b o u e => ?_,fun b m e => ?_⟩ fun b u e => ?_
 ·by_cases hb:b=d
  ·rw[hb];exact⟨_,i⟩
  ·exact⟨o,k b o hb e⟩
 ·rw[aw (fun z=>by rw[z,f] at e;cases e)];exact e
 ·rw[aw (fun z=>by rw[z,f] at e;cases e)];exact e
 ·by_cases hb:b=d
  ·rw[hb,f] at e
   cases e
   exact⟨a,by rw[hb,ag]⟩
  ·exact⟨#[],by rw[aw hb,e];simp⟩
 ·by_cases hb:b=d
  ·subst hb
   rw[ag] at e;cases e
   exact i
  ·rw[aw hb] at e
   refine(I.hok b u e).x5 (fun c v j q=>k c v ?_ q) (fun c q=>by rw[aw (fun z=>by rw[z,f] at q;cases q)];exact q) fun c xs q=>by rw[aw (fun z=>by rw[z,f] at q;cases q)];exact q
   rcases j with z|z
   ·rw[z];exact hb
   ·intro l;rw[l,f] at z;cases z
def acy(mg:Lg)(base:B1):Prop:=∃a o,mg "__builtins__" = some (.ref a)/\a≠builtinsNs/\base.get? a=some o/\o.cls=.type "module" /\ o.dict=some builtinsNs/\o.data=.plain
theorem abD{E:Ai->Aq->Prop}{a:Jk}{j:B9}{d:Eg}{pos:Pos}{l:List (AW×Ag)}{c m:Ag}{Q:Ai->Aq->Prop}(I:Inv X pins σ H s)(B:defaultsOf a X.env=([],[]))(Y:closureFor d X.env=pure l)(Z:X.env.code=.ref c)(C:CS X.base c m)(u:acy X.mg X.base)(hP:H m=some (.tbl #[]))(h:∀f c' R vs t pm n G s',s.heap.objs.size<=f->Inv X ((f,Eb "<lambda>" (X.env.qual ++ "<lambda>") a j d l pm c' n)::(c',R)::pins) σ (upd H m (.tbl G)) s'->R.data=.fields vs->vs[1]? = some (.str (X.env.qual ++ "<lambda>") t)->Q (.ref f) s'):
  wpAny (model X.prog X.w) X.A (eval (.Lambda a j d pos) X.env) Q E s:=by
 have nP:∀b o,X.base.get? b=some o->b≠m:=fun b o e z=>by
  have:=(I.bs b o e).2;rw[z,hP] at this;cases this
 obtain⟨bm,ob,b1,b2,S,b4,b5,b6⟩:=u;have g:=I.mod.glob;have gP:mainGlobals≠m:=by
  obtain⟨o,es,ep,e,_⟩:=id g;exact nP _ _ e
 have bG:bm≠mainGlobals:=fun q=>by
  obtain⟨o,es,ep,e,T,_⟩:=id g;rw[q,e] at S;cases S;rw[T] at b6;cases b6
 have J:s.heap.get? m=some (Fi #[]):=I.hok m _ hP;refine PySem.W.kla_eval B (PySem.W.kla_makeFunction (mg:=X.mg) (c:=c) (P:=m) (ps := #[]) Y I.ok.glob (g.keeps I.bk) Z (C.keeps I.bk) J trivial rfl gP ⟨bm,ob,b1,b2,bG,nP _ _ S,I.bk _ _ S,b4,b5,b6⟩ fun c' n h' tk hx r a0 M a3 => ?_);obtain⟨c₂,R,vs,t,e2,a4,T,hv⟩:=M;cases e2
 have I1:=grow (t':=tk) I hP hx a3;have I2:=I1.kept (h':=h'.push (Eb "<lambda>" (X.env.qual ++ "<lambda>") a j d l ((X.mg (BR "__name__")).getD .none) c' n)) (t':=tk) fun b o e=>Ap _ e;have a5:m<s.heap.objs.size:=AF J;have y:∀b,s.heap.objs.size<=b->(upd H m (.tbl (#[] ++ #[rawInt pos.line,rawInt pos.col,.ref c']))) b=none/\b≠X.env.locals/\b ∉ X.fs:=fun b u =>
  ⟨by rw[aw (CJ (AY a5 u))];exact I.hok.fresh u,CJ (AY I.lt u),I.aju u⟩
 have i:s.heap.objs.size<=h'.objs.size:=Br r (BQ a0);refine h h'.objs.size c' R vs t ((X.mg (BR "__name__")).getD .none) n _ _ i (I2.ki fun p O => ?_) T hv;rcases Am.mp O with rfl|O
 ·exact⟨AH _ rfl,(y _ i).1,(y _ i).2.1,(y _ i).2.2,fun v z=>by cases z⟩
 ·rcases Am.mp O with rfl|O
  ·exact⟨Ap _ a4,(y _ r).1,(y _ r).2.1,(y _ r).2.2,fun v z=>by rw[T] at z;cases z⟩
  ·exact I2.pin p (Au _ O)
noncomputable abbrev aeW(X:Cx)(A:B7)(N:List AW)(s:Aq)(H:Hp)(env:Ib):Cx:={ X with A:=A.deeper env,N:=N,s_0:=s,H_0:=H,env:=env,outer:=X.stack,stack:=env::X.stack,ex := [],fn:=fun _=>false,calm:=true,pn := [],xe:=fun _ _=>False }
theorem aeF{A:B7}{E:Ai->Aq->Prop}{f c' ce:Ag}{d p x:AW}{g:Jk}{n:B9}{a:Eg}{pm R u:Ai}{Y:D5}{vs:Array Ai}{tq:KN}{i:Nat}{b v:V}{t:TE}{Q:VK}(I:Inv X pins σ H s)(hA:A.frames=X.A.frames)(hh:A.handled=none)(G:A.depth<recursionLimit)(hf:(f,Eb "<lambda>" d g n a [(x,ce)] pm c' R)∈pins)(hc:(c',Y)∈pins)(hd:Y.data=.fields vs)(hv:vs[1]? = some (.str d tq))(M:bindArgs (Kb "<lambda>" d g n a [(x,ce)] pm (.ref c') R) ⟨[u],[]⟩=pure [(p,u)])(k1:a.kind=.function)(k2:a.isCoroutine=false)(k3:a.isGenerator=false)(k4:∀y∈a.names,y.2≠.cell)(k5:a.names.lookup p=some .local)(k6:a.names.lookup x=some .free)(k7:∀y∈a.names,y.2=.free->y.1=x)(O:X.env.cells.lookup x=some ce)(hk:X.env.kindOf x≠some .local)(hx:Vis X.env.scope x)(hi:X.N[i]? = some x)(P:σ[i]? = some (some b))(rv:RelV v u)(eZ:PE (aeW X A [p,x] s H (Ho d a s.heap.objs.size f (.ref c') [(x,ce)])) n t)(ht:t [some v,some b] H Q):
  wpAny (model X.prog X.w) A (call (.ref f) [u]) (EP X pins σ Q) E s:=by
 have pf:=(I.pin _ (Au _ hf)).1;have pc:=(I.pin _ (Au _ hc)).1;refine Iu (PySem.W.kla_callFunE G pf rfl k2 k3 rfl ⟨c',Y,vs,tq,rfl,pc,hd,hv⟩ ?_);rw[M];refine A2 (wpAny_newFunctionEnv k4 (fun y B=>by rw[Ao.mp B];exact k5) (fun h1 Z S=>⟨I.nolimit.fresh _ S,?_⟩) k1);show codeAny _ _ (.expr n (Ho d a s.heap.objs.size f (.ref c') [(x,ce)])) _ _;have T:∀b o,s.heap.get? b=some o->h1.get? b=some o:=fun b o e=>S.extBut b o (Bj (AF e)) (Ap _ e);have cl:∀y c,([(x,ce)]:List (AW×Ag)).lookup y=some c->y=x/\c=ce:=fun y c e=>by
  rw[Cg] at e;cases B:y==x with
  | true=>rw[B] at e;cases e;exact⟨BL.mp B,rfl⟩
  | false=>rw[B] at e;cases e
 have lx:([(x,ce)]:List (AW×Ag)).lookup x=some ce:=by rw[Cg,E3]
 have I1:Inv (aeW X A [p,x] s H (Ho d a s.heap.objs.size f (.ref c') [(x,ce)])) [] [some v,some b] H { s with heap:=h1,toks:=s.toks+1 }:=by
  refine⟨⟨I.ok.mod,k1,rfl,rfl,Ak _,fun y z c e1 C=>(cl y c e1).1.trans (cl z c C).1.symm,fun y B => ?_,fun y c z=>Bu z,fun _=>hh,HE (hA.trans I.ok.frames),.inr ⟨rfl,rfl⟩,fun b P=>absurd P Dv,I.bs,Br I.ok.bsz I.sz,fun b o _ P=>absurd P Dv,fun b P=>absurd P Dv,I.stack,I.sY⟩,
   rfl,I.bare,Un.kept T,⟨_,Z,fun j y z e1 C e3 => ?_⟩,fun y c e => ?_,I.hok.fresh (Ak _),fun y c e => ?_,fun q hq=>absurd hq Dv,I.hok.kept T,rfl⟩
  ·have B:a.names.lookup y=some .cell\/a.names.lookup y=some .free:=B
   rcases B with B|B
   ·exact absurd rfl (k4 _ (Bb B))
   ·exact⟨ce,by rw[show y=x from k7 _ (Bb B) rfl];exact lx⟩
  ·match j,e1,C with
   | 0,e1,C =>
    cases e1;cases C
    exact⟨u,rv,.inl ⟨k5,by show([(p,u)]:List (AW×Ai)).lookup p=some u;rw[Cg,E3]⟩⟩
   | 1,e1,C =>
    cases e1;cases C
    obtain⟨m,_,hl⟩:=I.loc;obtain⟨w,r,l⟩:=hl i x b hi P hx;refine⟨w,r,.inr ⟨.inr k6,ce,lx,?_⟩⟩;rcases l with⟨l,_⟩|⟨_,c2,e,z⟩
    ·exact absurd l hk
    ·rw[O] at e
     cases e
     exact z.keeps T
   | j+2,e1,C=>cases e1
  ·obtain⟨rfl,rfl⟩:=cl y c e
   obtain⟨w,z⟩:=I.cell _ _ O;exact⟨w,z.keeps T⟩
  ·obtain⟨rfl,rfl⟩:=cl y c e
   exact I.freeC _ _ O
 refine PySem.W.kla_codeExpr (C2 (eZ [] _ _ H Q I1 ht) (fun u s2 h2 => ?_) fun _ _ z=>z.elim);obtain⟨v2,H2,J,r2,q2⟩:=h2;exact I.after ⟨v2,H2,J.os,J.bare,J.base,J.hok,r2,q2⟩
end
open Gla (Item)
noncomputable def shI:Nat->Bool:=fun _=>false
noncomputable def adD(a:List Item)(i:Nat):List (Int ⊕ List Nat) := [.inl (-((a.getD i it0).h:Int)),.inl (-((a.getD i it0).w:Int)),.inl (i:Int)]
noncomputable def ael(a:List Item)(i:Nat):List V := [.int (-((a.getD i it0).h:Int)),.int (-((a.getD i it0).w:Int)),.int (i:Int)]
theorem w9{a:List Item}{i j:Nat}(h:Gw itemOrd (adD a j) (adD a i)=false):Cu (j,a.getD j it0) (i,a.getD i it0)=false:=(jJ _ _).trans h
theorem ac1{P:AI}{w:AZ}{H:Hp}{h:B1}{p:Ag}{a:List Item}{i:Nat}(ok:HOk P w H h)(e:H p=some (.tup (ael a i))):Cj h shI (.ref p)=some (adD a i)/\∃f,TupOf h shI (.ref p) f:=by
 obtain⟨_,g,r,ob,e1,c,n,d⟩:=(show cf P w H h p (.tup (ael a i)) from ok p _ e);unfold ael at r;cases r with
 | cons j b =>
  cases b with
  | cons l b =>
   cases b with
   | cons m b =>
    cases b
    obtain⟨q,rfl⟩:=j;obtain⟨s,rfl⟩:=l;obtain⟨u,rfl⟩:=m;refine⟨?_,_,p,ob,_,n,rfl,e1,c,d,rfl,fun _=>⟨_,_,rfl⟩,fun z=>by cases z⟩;have z:PyProof.Rows.G.isTupObj h (.ref p)=true:=by
     show(match h.get? p with|some o=>(match o.cls with|.type n=>n == "tuple" | _=>false)|none=>false)=true;rw[e1];dsimp only;rw[c];decide
    unfold Cj;rw[As z];show(match h.get? p with|some o=>(match o.data with|.seq xs _=>tupItems shI 0 xs.toList|_=>none)|none=>none)=_;rw[e1];dsimp only;rw[d];rfl
theorem zd{h:B1}:∀b:List Ai,(∀k∈b,∃f,TupOf h shI k f)->∃a,TupsOf h shI b a/\a.length=b.length
 | [],_=>⟨[],.nil,rfl⟩
 | k::r,hk=>by
  obtain⟨f,hf⟩:=hk k Ad;obtain⟨a,c,d⟩:=zd r fun x e=>hk x (Ac _ e);exact⟨f::a,.cons hf c,by rw[A7,A7,d]⟩
theorem wq:∀(l:List JZ)(g:JZ->Nat),(∀p∈l,∃t,p.2=Ey ((g p:Nat):Int) t)->Vals (iv (l.map g)) (l.map (·.2))
 | [],_,_=>.nil
 | p::r,g,h=>by
  obtain⟨t,e⟩:=h p Ad;exact .cons ⟨t,e⟩ (wq r g fun q a=>h q (Ac _ a))
theorem xC{b:List Item}{d vs:List Ai}{h:B1}{a:Array JZ}(I:d.length=vs.length)(J:vs.length=b.length)(w:∀(i:Nat) v,vs[i]? = some v->∃t,v=Ey (i:Int) t)(B:∀(i:Nat) k,d[i]? = some k->Cj h shI k=some (adD b i))(r:a.Perm (d.toArray.zip vs.toArray))(C:HY (CU h shI) a a.size):Vals (iv (kz b)) (a.map (·.2)).toList:=by
 have r:a.toList.Perm (d.zip vs):=by
  have:=Array.perm_iff_toList_perm.mp r;rw[ksk_zip] at this;exact this
 have f:∀p∈a.toList,∃m,m<b.length/\(∃t,p.2=Ey (m:Int) t)/\Cj h shI p.1=some (adD b m):=fun p c=>by
  obtain⟨m,g,e⟩:=AQ.mp (r.mem_iff.mp c);rw[Hc] at e;rw[DC] at g;refine⟨m,by omega,w m _ ?_,B m _ ?_⟩
  ·rw[<- e];exact Aa (by omega)
  ·rw[<- e];exact Aa (by omega)
 have E:∀p∈a.toList,∃t,p.2=Ey (((numOf p.2).toNat:Nat):Int) t:=fun p c=>by
  obtain⟨m,_,⟨t,e⟩,_⟩:=f p c;refine⟨t,?_⟩;rw[e];rfl
 have G:∀p∈a.toList,Cj h shI p.1=some (adD b (numOf p.2).toNat):=fun p c=>by
  obtain⟨m,_,⟨t,e⟩,k⟩:=f p c;rw[e];exact k
 have e1:(d.zip vs).map (fun p:JZ=>(numOf p.2).toNat)=An b.length:=by
  refine F0 (by rw[Ab,DC,AG];omega) fun m H M => ?_;rw[Ab,DC] at H;rw[Dt,Hc,D2];obtain⟨t,e⟩:=w m _ (Aa (by omega));dsimp only;rw[e];rfl
 have o:a.toList.map (fun p:JZ=>(numOf p.2).toNat)=kz b:=by
  refine agI (by rw[<- e1];exact r.map _) ?_;rw[C4,D6];intro i j y z s;refine w9 ?_;have u:i<a.size:=by rw[<- BI];exact y
  have l:j<a.size:=by rw[<- BI];exact z
  have q:=C i j (BQ s) l;have A:∀(m:Nat)(g:m<a.size)(n:m<a.toList.length),KK (CU h shI) a m=adD b (numOf (a.toList[m]).2).toNat:=fun m g n=>by
   unfold KK;rw[CD g];show(Cj h shI (a[m]).1).getD []=_;have:a[m]=a.toList[m]:=(Array.getElem_toList g).symm;rw[this,G _ (AX n)];rfl
  have q:Gw itemOrd (KK (CU h shI) a j) (KK (CU h shI) a i)=false:=q;rw[A i u y,A j l z] at q;exact q
 rw[<- o,Array.toList_map];exact wq _ _ E
section
variable{X:Cx}{pins:List (Ag×D5)}{σ:L2.St}{H:Hp}{s:Aq}
theorem acK:nO X (.type "range") (fun xs H Q=>∃n:Nat,xs=[.int (n:Int)]/\∀p,H p=none->Q (.ref p) (upd H p (.rng 0 (n:Int)))):=by
 intro pins s σ H xs us Q I r ⟨n,e,q⟩;subst e;cases r with
 | cons a c =>
  cases c
  obtain⟨t,rfl⟩:=a;refine Ko ?_;have hf:H s.heap.objs.size=none:=I.hok.fresh (Ak _);exact⟨.ref s.heap.objs.size,upd H s.heap.objs.size (.rng 0 (n:Int)),I.laid (t':=s.toks+1+1) (fun b u e=>Ap _ e) (Ak _) ⟨_,_,_,AH _ rfl⟩,rfl,q _ hf⟩
theorem adopt{h':B1}{ch:List Ag}{T:Ag}{ob:HO}(I:L2.Inv X pins σ H s)(j:T∈ch)(k:∀b o,b ∉ ch->s.heap.get? b=some o->h'.get? b=some o)(hf:∀b∈ch,oU X pins H b)(i:cf X.prog X.w (upd H T ob) h' T ob):
  L2.Inv X pins σ (upd H T ob) { s with heap:=h' }:=by
 have f:H T=none:=(hf T j).1;have g:∀b u,H b=some u->b ∉ ch:=fun b u e z=>by
  have q:=(hf b z).1;rw[q] at e;cases e
 refine I.step (g':=s.gens) (d':=s.drawn) (t':=s.toks) (ch:=ch) (fun b d=>⟨(hf b d).2.2.2.1,(hf b d).2.1,(hf b d).2.2.2.2.1,(hf b d).2.2.2.2.2⟩) (fun b o _ _ a e _=>k b o a e) (fun b o _ _ a e _=>⟨o.slots,k b o a e⟩)
  (fun b o a e n => ?_) (fun b o a e=>⟨o,k b o a e⟩) (fun b xs e => ?_) (fun b o u e => ?_) (fun b ps e=>⟨#[],?_⟩) (fun m l => ?_) (fun b u e => ?_) I.bare
 ·rw[aw (fun z=>a (by rw[z];exact j))];exact n
 ·rw[aw (aB e f)];exact e
 ·rw[aw (aB e f)];exact e
 ·rw[aw (aB e f),e];simp
 ·obtain⟨o,p,y,A,r⟩:=l
  exact⟨o,p,y,k _ o (fun z=>(hf _ z).2.1 rfl) A,r⟩
 ·by_cases d:b=T
  ·subst d
   rw[ag] at e;cases e
   exact i
  ·rw[aw d] at e
   refine(I.hok b u e).x5 (fun c v a q=>k c v ?_ q) (fun c q=>by rw[aw (aB q f)];exact q) fun c xs q=>by rw[aw (aB q f)];exact q
   rcases a with z|z
   ·rw[z];exact g b u e
   ·exact g c _ z
def skR(tb:TE)(e:Ag)(i:Nat)(σ:L2.St)(Q:VK)(v:V)(H1:Hp):Prop:=∃(r:Ag)(a:List Item)(b:V),v=.ref r/\H1 r=some (.rng 0 (a.length:Int))/\a.length<65536/\σ[i]? = some (some b)/\H1 e=some (.tbl #[]) /\
 (∀c j,j<a.length->mI [e] H1 c->tb [some (.int (j:Int)),some b] c fun v f=>∃p,v=.ref p/\c p=none/\f=upd c p (.tup (ael a j))) /\
 ∀c l d,mI [e] H1 c->c e=some (.tbl d)->H1 l=none->c l=some (.lst (iv (kz a)))->Q (.ref l) c
def tSk(a tb:TE)(b:Ag)(i:Nat):TE:=fun σ H Q=>a σ H fun v H1=>skR tb b i σ Q v H1
theorem zW{n:Nat}(h:n<65536):CA 0 (n:Int) 1=true/\By 0 (n:Int) 1=n:=by
 have e:By 0 (n:Int) 1=n:=by
  unfold By;simp only[E4]
  by_cases z:0<n
  ·simp;omega
  ·have:n=0:=by omega
   subst this;simp
 refine⟨?_,e⟩;unfold CA;rw[e];unfold Gd;simp;omega
theorem aic{e1 m:B9}{te tb:TE}{l:Jk}{d:Eg}{a0 a7 p pos:Pos}{c ce R:Ag}{pn x:AW}{i:Nat}(S:X.calm=true)(ax:X.A.depth<recursionLimit)(hg:Gl X "sorted")(hm:X.mg "sorted" = none)(ha:PE X e1 te)(aa:defaultsOf l X.env=([],[]))(b1:closureFor d X.env=pure [(x,ce)])(b2:X.env.code=.ref c)(C:CS X.base c R)(hb:acy X.mg X.base)(a4:∀pm c' W u,bindArgs (Kb "<lambda>" (X.env.qual ++ "<lambda>") l m d [(x,ce)] pm (.ref c') W) ⟨[u],[]⟩=pure [(pn,u)])(k1:d.kind=.function)(k2:d.isCoroutine=false)(k3:d.isGenerator=false)(k4:∀y∈d.names,y.2≠.cell)(k5:d.names.lookup pn=some .local)(k6:d.names.lookup x=some .free)(k7:∀y∈d.names,y.2=.free->y.1=x)(b3:X.env.cells.lookup x=some ce)(hk:X.env.kindOf x≠some .local)(hx:Vis X.env.scope x)(hi:X.N[i]? = some x)(eZ:∀s H f c',PE (aeW X X.A.in1.in1 [pn,x] s H (Ho (X.env.qual ++ "<lambda>") d s.heap.objs.size f (.ref c') [(x,ce)])) m tb)(hs:starEach [e1] X.env=(false,eval e1 X.env)::starEach [] X.env:=by rfl):
  PE X (.Call (.Name "sorted" p) [e1] [⟨some "key",.Lambda l m d a0,a7⟩] pos) (tSk te tb R i):=by
 intro pins s σ H Q I h;refine Cs (gw I hg hm PyProof.Rows.boot_sorted ?_);refine PyProof.Rows.callWith_kw ?_ (by rw[hs];rfl) (by rw[hs];rfl) rfl rfl;refine thn (ab ha ah hs pos pins s σ H (fun vs H1=>match vs with|[v]=>skR tb R i σ Q v H1|_=>False) I h) fun us s1 hu => ?_;obtain⟨ae,H1,I1,rA,hu⟩:=hu;obtain⟨v0,rfl⟩:∃v0,ae=[v0]:=by
  match ae,hu with
  | [v0],_=>exact⟨v0,rfl⟩
 obtain⟨r,g,b,rfl,hr,hn,b4,hP,af,q⟩:=hu;cases rA with
 | cons rB rr =>
 cases rr
 cases(show _=Bo r from rB)
 show wpAny _ _ (evalAll [(do let v <- eval (.Lambda l m d a0) X.env;standAt pos;pure v)]) _ _ s1;refine wpAny_evalAll_cons (Af (abD I1 aa b1 b2 C hb hP fun f c' oc vs t pm W M s2 bf I2 hd hv=>Af (GF (A2 (wpAny_evalAll_nil ?_)))));show wpAny _ _ (call (.builtin "sorted") [.ref r] [(BR "key",.ref f)]) _ _ s2;have b5:r≠R:=fun z=>by rw[z,hP] at hr;cases hr
 have b6:(upd H1 R (.tbl M)) r=some (.rng 0 (g.length:Int)):=by rw[aw b5];exact hr
 obtain⟨t1,t2,t3,b8⟩:=(show cf X.prog X.w _ s2.heap r (.rng 0 (g.length:Int)) from I2.hok r _ b6);have sr:=zW hn;have ai:(upd H1 R (.tbl M)) R=some (.tbl M):=ag;have a5:∀{B},aM (upd H1 R (.tbl M)) B->mI [R] H1 B:=fun{B} sm b o nb e=>sm b o (by rw[aw (fun z=>nb (by rw[z];exact List.mem_singleton_self _))];exact e);have n0:∀a,s1.heap.objs.size<=a->H1 a=none:=fun a ha=>I1.hok.fresh ha;generalize bl:upd H1 R (.tbl M)=H2 at *
 refine aec (κ:=fun O Y=>CU Y.heap shI) (n:=g.length) (I2.ok.hd S) b8 sr.1 sr.2 (by omega) fun a kS h1 tk bo bp ha ba kp hl aj e1 br bu => ?_;refine⟨fun O Y=>∃B,L2.Inv X ((f,Eb "<lambda>" (X.env.qual ++ "<lambda>") l m d [(x,ce)] pm c' W)::(c',oc)::pins) σ B Y/\aM H2 B/\(∀z∈[a,kS],oU X ((f,Eb "<lambda>" (X.env.qual ++ "<lambda>") l m d [(x,ce)] pm c' W)::(c',oc)::pins) B z)/\∀(j:Nat) k,O[j]? = some k->∃p,k=.ref p/\B p=some (.tup (ael g j)),?_,?_,?_,?_,?_⟩
 ·refine⟨H2,I2.kept kp,fun _ _ e=>e,fun z hz => ?_,fun j k e=>by cases e⟩
  have:s2.heap.objs.size<=z:=by
   rcases Am.mp hz with e|e
   ·rw[e];exact ha
   ·rw[Ao.mp e];exact ba
  exact I2.abo this (I2.hok.fresh this)
 ·rintro O Y h' bx ⟨B,J,sm,Z,kt⟩ fr
  exact⟨B,J.aap (ch := [a,kS]) (fun b o nb e=>fr b o (fun z=>nb (by rw[z];exact Ad)) (fun z=>nb (by rw[z];exact Ac _ Ad)) e) Z,sm,Z,kt⟩
 ·rintro O v Y e' au ⟨B,J,sm,Z,kt⟩ gk ga
  have hj:O.length<g.length:=by rw[<- hl];exact(Aj.mp au).1
  obtain⟨tv,rfl⟩:=aj _ _ au;have fa:=Z a Ad;have fk:=Z kS (Ac _ Ad);have J2:L2.Inv X ((kS,seqObj "list" O.toArray e')::(a,seqObj "list" #[] e1)::(f,Eb "<lambda>" (X.env.qual ++ "<lambda>") l m d [(x,ce)] pm c' W)::(c',oc)::pins) σ B Y:=J.ki fun p P=>by
   rcases Am.mp P with rfl|P
   ·exact⟨gk,fk.1,fk.2.1,fk.2.2.1,fun v z=>by cases z⟩
   ·rcases Am.mp P with rfl|P
    ·exact⟨ga,fa.1,fa.2.1,fa.2.2.1,fun v z=>by cases z⟩
    ·exact J.pin p (Au _ P)
  refine aeU (aeF (A:=X.A.in1.in1) (i:=i) (b:=b) (v:=.int (O.length:Int)) (Q:=fun v H2=>∃p,v=.ref p/\B p=none/\H2=upd B p (.tup (ael g O.length))) J2 rfl (I2.ok.hd S) ax (Ac _ (Ac _ Ad)) (Ac _ (Ac _ (Ac _ Ad))) hd hv (a4 _ _ _ _) k1 k2 k3 k4 k5 k6 k7 b3 hk hx hi b4 ⟨tv,rfl⟩ (eZ Y B f c') (af B _ hj (a5 sm))) fun u s3 hu => ?_;obtain⟨v3,H3,J3,r3,p,rfl,np,rfl⟩:=hu;cases(show u=Bo p from r3)
  have av:aM B (upd B p (.tup (ael g O.length))):=ak np;have pk:=J3.pin (kS,seqObj "list" O.toArray e') (Au _ Ad);have pa:=J3.pin (a,seqObj "list" #[] e1) (Au _ (Ac _ Ad));refine⟨⟨_,J3.ki fun q hq=>J3.pin q (Au _ (Ac _ (Ac _ hq))),sm.trans av,fun z hz => ?_,fun j k e => ?_⟩,pk.1,pa.1⟩
  ·rcases Am.mp hz with e|e
   ·rw[e];exact⟨pa.2.1,fa.2⟩
   ·rw[Ao.mp e];exact⟨pk.2.1,fk.2⟩
  ·by_cases hjk:j<O.length
   ·rw[A1 hjk] at e
    obtain⟨p',ep,bc⟩:=kt j k e;exact⟨p',ep,av _ _ bc⟩
   ·rw[Aw (by omega)] at e
    have:j-O.length=0:=by
     have:=(Aj.mp e).1;have:j-O.length<1:=this;omega
    rw[this] at e;cases e
    have:j=O.length:=by omega
    subst this;exact⟨p,rfl,ag⟩
 ·rintro O Y ⟨B,J,sm,Z,kt⟩ a6
  have kk:∀k∈O,∃j,Cj Y.heap shI k=some (adD g j)/\∃f,TupOf Y.heap shI k f:=fun k hk=>by
   obtain⟨j,hj,rfl⟩:=AQ.mp hk;obtain⟨p,ep,P⟩:=kt j _ (Aa hj);rw[ep];exact⟨j,ac1 J.hok P⟩
  refine⟨fun p P => ?_,PyProof.Rows.G.tupC_ltAt true (PyProof.Rows.G.KeepsTups.refl _),fun h2 {E Q} hq => ?_⟩
  ·rw[ksk_zip] at P
   obtain⟨j,e,_⟩:=kk p.1 (DZ (a:=p.1) (b:=p.2) P).1;exact⟨_,e⟩
  ·obtain⟨fs,h3,h4⟩:=zd O fun k hk=>(kk k hk).choose_spec.2
   exact tup_kind (by omega) h3 hq
 ·rintro O Y h' c2 c0 ⟨B,J,sm,Z,kt⟩ a6 fr P hs hc
  have a3:=xC a6 (by omega) aj (fun j k e=>by
   obtain⟨p,ep,P⟩:=kt j k e;rw[ep];exact(ac1 J.hok P).1) P hs
  have la:(iv (kz g)).length<=sizeLine:=by
   rw[a3.length,BI,JY,P.size_eq,Ka,A9,A9,a6,Gf,hl];exact Br (BQ hn) (by decide)
  have J2:=adopt (T:=a) (ob:=.lst (iv (kz g))) J Ad (h':=h') (fun b o nb e=>fr b o (fun z=>nb (by rw[z];exact Ad)) (fun z=>nb (by rw[z];exact Ac _ Ad)) e) Z ⟨la,_,c2,a3,by rw[Array.toArray_toList];exact hc⟩;have fa:=Z a Ad;have ne:R≠a:=fun z=>by
   have:=sm _ _ ai;rw[z,fa.1] at this;cases this
  have s4:aM B (upd B a (.lst (iv (kz g)))):=ak fa.1;refine⟨.ref a,_,J2.ki fun p P=>J2.pin p (Au _ (Ac _ (Ac _ P))),rfl,q _ a M (a5 (sm.trans s4)) (s4 _ _ (sm _ _ ai)) ?_ ag⟩;have z:=fa.1;cases e:H1 a with
  | none=>rfl
  | some o =>
   have:=(a5 sm) a o (fun z=>ne (Ao.mp z).symm) e;rw[this] at z;cases z
end
section
variable{P:AI}{w:AZ}{K:Lf}{mg:Lg}{base:B1}{ad:Adr}
noncomputable abbrev ad6:Stmt:=(top 74)
def ajW(K:Lf):TE:=ajt (ky (tUn (rU fun i=>.int (-i)) (acV K (tOp (ae2 K) (qd 1) (qd 0)) "height")) (ky (tUn (rU fun i=>.int (-i)) (acV K (tOp (ae2 K) (qd 1) (qd 0)) "width")) (ky (qd 0) xX)))
theorem agT:bD ["blanks"] ["blanks"] (aG ad6):=fsc
theorem agJ{c M:Ag}(D:Def K mg "panes_in_order" ad6 ["blanks"])(T:Txt K mg ad)(O:mg "sorted" = none)(d:∀f R S W g,mg "panes_in_order" = some (.ref f)->K.lookup f=some ⟨R,S,.func W,g⟩->W.code=.ref c)(C:CS base c M)(hb:acy mg base):
  Fn P w K mg base 3 "panes_in_order" ["blanks"] (aeD ad M fun tb=>tb = #[]):=by
 obtain⟨f,W,F,hm,X⟩:=D.ex;obtain⟨R,S,kV,a6,pm,an,Y,ct,g,rfl,lk,Z⟩:=F.ex;have ec:Y=.ref c:=d f R S _ g hm lk;subst ec;refine⟨f,_,hm,F.kp,X,agh lk Z agT (by intro _ _ _ _ h;cases h;subst_vars;rfl) fun A a0 s H vs Q E hr a3 => ?_⟩;obtain⟨v,a,pb,tb,rfl,y,hn,hP,rfl,q⟩:=a3;have a4:=hr.depth;refine⟨_,PSs.nox (kxr (aic (pn := "pane") (x := "blanks") (ce:=s.heap.objs.size+1) (i:=0) (tb:=ajW K) rfl a4 rfl O (nN acK rfl T.eM Ir (ab (kxL T.cy (pv 0)) ah)) rfl rfl rfl C hb (fun _ _ _ _=>rfl) rfl rfl rfl (by decide) rfl rfl (by decide) rfl (fun z=>absurd (show some GD=some NameKind.local from z) (by decide)) (.inr (.inl rfl)) rfl ?_)),?_⟩
 ·intro m H1 f1 c1
  exact df (ab (uE mh (aA (kxI (pv 1) (pv 0)) rfl)) (ab (uE mh (aA (kxI (pv 1) (pv 0)) rfl)) (ab (pv 0) ah)))
 ·refine⟨_,rfl,v,_,rfl,.inl (SqL.of y.lst),_,rfl,fun r a5 => ?_⟩
  have e1:(pb.map V.ref).length=a.length:=by rw[Ab,y.len]
  have m:=ak (o:=.rng 0 ((pb.map V.ref).length:Int)) a5;have up:(upd H r (.rng 0 ((pb.map V.ref).length:Int))) r=some (.rng 0 (a.length:Int)):=by rw[ag,e1]
  generalize upd H r (.rng 0 ((pb.map V.ref).length:Int))=H1 at *
  have nP:∀{b o},H b=some o->(∀ps,o≠.tbl ps)->b ∉ [M]:=fun{b o} e n z=>by
   rw[Ao.mp z,hP] at e;exact n _ (Ah e).symm
  refine⟨r,a,.ref v,rfl,up,hn,rfl,m _ _ hP,fun H' j hj J => ?_,fun H' l B J u nl hl=>q H' l (fun b o nb e=>J b o nb (m b o e)) ⟨B,u⟩ (m.free nl) hl⟩;have G:=J v _ (nP y.lst fun _ z=>by cases z) (m _ _ y.lst);have ex:a[j]? = some (a.getD j it0):=by rw[Aa hj,Az,Aa hj];rfl
  obtain⟨p,gp,dx,u⟩:=y.get ex;have I:=J p _ (nP u fun _ z=>by cases z) (m _ _ u);exact⟨_,rfl,_,rfl,v,_,_,_,rfl,rfl,SqL.of G,aQ gp,fl I T.blank ahT ⟨_,rfl,_,rfl,_,rfl,v,_,_,_,rfl,rfl,SqL.of G,aQ gp,fl I T.blank aiq ⟨_,rfl,_,rfl,by show 3<=sizeLine;decide,fun p u=>⟨p,rfl,u,rfl⟩⟩⟩⟩
end
end Gs
namespace Gs
open PySem PySem.Spec PyProof.Rows L2
open Gla (Item Sheet Shelf Laid Plan)
theorem rG{l:List Nat}(h:Fh l=0):∀x∈l,x=l.headD 0:=by
 obtain⟨_,c,_⟩:=fold_max l 0;obtain⟨f,d,_⟩:=fold_min l (l.headD 0);unfold Fh at h;intro x b;have e:l.headD 0∈l:=by
  cases l with
  | nil=>cases b
  | cons a r=>exact Ad
 have:=c x b;have:=d x b;have:=c _ e;omega
theorem wb(g:Nat->Nat->Int)(f:Nat->Int):∀(t:List Nat)(a e:Nat),(∀x∈a::t,∀y∈t++[e],g x y=f y-f x)->(((a::t).zip (t++[e])).map fun(x:Nat×Nat)=>g x.1 x.2).foldr (fun(a b:Int)=>a+b) 0=f e-f a
 | [],a,e,h=>by
  show g a e+0=_;rw[h a Ad e Ad,Int.add_zero]
 | b::t,a,e,h=>by
  have c:=wb g f t b e fun x d y i=>h x (Ac _ d) y (Ac _ i);show g a b+(((b::t).zip (t++[e])).map fun(x:Nat×Nat)=>g x.1 x.2).foldr (fun(a b:Int)=>a+b) 0=_;rw[c,h a Ad b Ad];omega
theorem sR{S:Plan}{l:List Nat}(f:Nat->Int)(h:∀x∈l,∀y∈l,((S.pt x).x:Int)*((S.pt y).y:Int)-((S.pt y).x:Int)*((S.pt x).y:Int)=f y-f x):Dn S l=0:=by
 unfold Dn;cases l with
 | nil=>rfl
 | cons a t =>
  have:=wb (fun x y=>((S.pt x).x:Int)*((S.pt y).y:Int)-((S.pt y).x:Int)*((S.pt x).y:Int)) f t a a fun x b y c=>h x b y (by
   rcases A4.mp c with m|m
   ·exact Ac _ m
   ·rw[Ao.mp m];exact Ad)
  rw[Fd] at this;exact this
theorem abr{S:Plan}{l:List Nat}(h:0<Dn S l):0<Fh (l.map fun i=>(S.pts.getD i ⟨0,0⟩).x)/\0<Fh (l.map fun i=>(S.pts.getD i ⟨0,0⟩).y):=by
 have d:∀i,S.pts.getD i ⟨0,0⟩=S.pt i:=fun i=>rfl;refine⟨II fun z => ?_,II fun z => ?_⟩
 ·have:=rG z
  generalize (l.map fun i=>(S.pts.getD i ⟨0,0⟩).x).headD 0=c at this;have e:∀x∈l,((S.pt x).x:Int)=(c:Int):=fun x a=>B2 _ (this _ (Ax.mpr ⟨x,a,rfl⟩));rw[sR (fun y=>(c:Int)*((S.pt y).y:Int)) fun x a y b=>by rw[e x a,e y b]] at h;exact absurd h (by decide)
 ·have:=rG z
  generalize (l.map fun i=>(S.pts.getD i ⟨0,0⟩).y).headD 0=c at this;have e:∀x∈l,((S.pt x).y:Int)=(c:Int):=fun x a=>B2 _ (this _ (Ax.mpr ⟨x,a,rfl⟩));rw[sR (fun y => - (((S.pt y).x:Int)*(c:Int))) fun x a y b=>by rw[e x a,e y b];omega] at h;exact absurd h (by decide)
structure aiY(x:List Int×List Item×List Sheet):Prop where
 ni:x.2.1.length<65536
 ns:x.2.2.length<=1024
 it:∀y∈x.2.1,0<y.w/\0<y.h
 sh:∀s∈x.2.2,0<s.w/\0<s.h
theorem wD(l:List Int):aiY (l,[],[]) :=
 ⟨(by decide:0<65536),(by decide:0<=1024),fun y h=>absurd h (Dv (a:=y)),fun y h=>absurd h (Dv (a:=y))⟩
theorem ait(m:Nat)(b:List UInt8)(a:List Sheet):aiY (gr m b a):=by
 unfold gr
 by_cases h1:65535<m
 ·rw[As h1];exact wD _
 ·rw[Ar h1]
  by_cases h2:131072<b.length\/1024<a.length
  ·rw[As h2];exact wD _
  ·rw[Ar h2]
   cases hj:Dq b with
   | error e=>exact wD _
   | ok S =>
    dsimp only;cases hw:CQ (fun(_:Nat) (x:BP) => !x.ok) a with
    | some k=>exact wD _
    | none =>
     obtain⟨R,g,hz⟩:=judge_ok hj;refine⟨?_,?_,fun y c => ?_,fun s f => ?_⟩
     ·show(DR S m).length<65536
      rw[zI,g];exact i5 b
     ·show a.length<=1024
      omega
     ·have c:y∈DR S m:=c
      rw[vD R hz] at c;obtain⟨k,d,rfl⟩:=Ax.mp c;have d:=A6.mp d;obtain⟨l,_,j,n⟩:=pT R d (hz k d);obtain⟨r,_,p,ar⟩:=R.fL.mp n;rw[j];have:=abr ar;unfold xp;dsimp only;omega
     ·have f:s∈a:=f
      obtain⟨i,o,rfl⟩:=AQ.mp f;have:=Geo.eF hw i o;rw[EO] at this;unfold Jb C8 Ja at this;simp only[AB,A5] at this;omega
noncomputable def ahK(m:Nat)(b:List UInt8)(a:List Sheet):List Int:=match (gr m b a).1 with
 | z::r=>z::r
 | []=>match Ew (gr m b a).2.1 (gr m b a).2.2 with
  | .error i=>[-3,(i:Int)]
  | .ok l=>0::SheetNeutral.rowN (((Jd l).flatMap Je).map fun(n:Nat)=>(n:Int))
theorem aay:∀l:Laid,(∀p∈l,abu p)->(Jd l).flatMap Je=l.flatMap fQ
 | [],_=>rfl
 | p::r,h=>by
  have g:=h p Ad;have:=aay r fun q a=>h q (Ac _ a);show(GP p.1.w p.1.h p.2).row++(Jd r).flatMap Je=fQ p++r.flatMap fQ;rw[this,vC p.1.w g.w p.1.h p.2 g.h g.tl g.sh];rfl
section
variable{P:AI}{w:AZ}{K:Lf}{mg:Lg}{base:B1}{ad:Adr}{a3:jq}{Pt:Ag}{TB:Array Ai->Prop}
inductive zK(K:Lf)(Pt:Ag)(TB:Array Ai->Prop)(vs:List V)(H:Hp)(Q:VK)(E:XK):Prop
 | mk (m:Nat)(a sa:Ag)(b:List UInt8)(ns:List Int)(shs:List Sheet)(tb:Array Ai)(c0:vs=[.int (m:Int),.ref a,.ref sa])(c1:SqL K H a ((bz b).map V.int))(c2:SqL K H sa (ns.map V.int))(c3:SheetNeutral.sheets ns=some shs)(c4:H Pt=some (.tbl tb))(c5:TB tb)(c6:∀H' l,H' l=some (.lst ((ahK m b shs).map V.int))->Q (.ref l) H')
noncomputable abbrev xS:Stmt:=(top 89)
theorem agr{f:Ag}{J:DE}(F:Fun K "lay" "lay" xS f J)(T:Txt K mg ad)(g:xY K mg a3)(B:Fn P w K mg base 11 "look" ["margin","cartoon","sheet_numbers"] (zw K ad))(S:Fn P w K mg base 6 "lay_panes" ["blanks","sheets"] (ad9 ad a3 Pt TB)):n8 P w K mg base CX0 12 f J ["margin","cartoon","sheets"] (zK K Pt TB):=by
 refine Fun.fx F ["margin","cartoon","sheets","order","laying"] ?_;rintro M W A C s H vs Q E O ⟨m,a,X,b,Y,d,tb,rfl,Z,hN,hs,hP,G,q⟩;refine⟨_,(kxs 3 M (kxF B O (ab (pv 0) (ab (pv 1) (ab (pv 2) ah)))) (kxf (aX (aA (pv 3) rfl) (fun _=>rfl)) (aA (pv 3) rfl) (kxs 4 M (kxF S O (ab (aA (pv 3) rfl) (ab (aA (pv 3) rfl) ah))) (kxf (gg (mC (aA (pv 4) rfl))) (aP (ab (uE mh aq) (ab (aA (pv 4) rfl) ah))) (kxr (aV rj (aP (ab aq (ab (kxL T.cy (aA (pv 4) rfl)) ah))) (aA (pv 4) rfl))))))),?_⟩;refine⟨_,rfl,_,rfl,_,rfl,m,a,X,b,Y,d,rfl,Z,hN,hs,fun H1 o j lb ls s1 v => ?_⟩;obtain⟨dx,ob⟩:=v.ob;have n:=v.rf;unfold ahK at q;cases h1:(gr m b d).1 with
 | cons z t =>
  rw[h1] at n q;exact⟨_,rfl,fl ob T.order rfl ⟨_,.inl ⟨_,SqL.of n,rfl⟩,jO ⟨_,rfl,fl ob T.order rfl (q H1 j n)⟩⟩⟩
 | nil =>
  rw[h1] at n q;obtain⟨pb,bl⟩:=v.bl;obtain⟨ps,sl⟩:=v.sh;have ok:=ait m b d;refine⟨_,rfl,fl ob T.order rfl ⟨_,.inl ⟨_,SqL.of n,rfl⟩,jt ?_⟩⟩;refine⟨_,rfl,fl ob T.order rfl ⟨_,rfl,fl ob T.order rfl ⟨lb,ls,_,_,pb,ps,tb,rfl,bl,sl,ok.ni,ok.ns,ok.it,ok.sh,s1 _ _ hP,G,fun H2 c j i ei y => ?_,fun H2 c j l el gd y hl => ?_⟩⟩⟩
  ·obtain⟨dc,e⟩:=y.ob
   rw[ei] at q;refine⟨_,rfl,fl e g.laying rfl ⟨_,rfl,jO ⟨_,rfl,_,rfl,fl e g.laying rfl ⟨by show 2<=sizeLine;decide,fun I r=>q _ I ag⟩⟩⟩⟩
  ·obtain⟨dc,e⟩:=y.ob
   rw[el] at q;dsimp only at q;rw[aay l gd] at q;have u:=y.rw;generalize l.flatMap fQ=row at *
   refine⟨_,rfl,fl e g.laying rfl ⟨_,rfl,jt ?_⟩⟩;refine⟨_,rfl,fl e g.laying rfl ⟨j,_,rfl,.inl (SqL.of u),by show 2<=sizeLine;decide,fun I r => ?_⟩⟩;have R:=ak (o:=.lst [.int 0,.int ((iv row).length:Int)]) r;refine⟨_,rfl,fl (R _ _ e) g.laying rfl ⟨I,j,_,_,rfl,rfl,ag,R _ _ u,?_,fun p hp=>q _ p ?_⟩⟩
   ·rw[eJ];show 2+row.length<=2 ^ 24;omega
   ·rw[ag]
    unfold SheetNeutral.rowN;rw[AA,AA,Ab];unfold iv;rw[Bd,Ab];rfl
end
theorem yJ{m:Int}{p s:List Int}(h:PyYqglea.lay_asked m p s=true):∃(d:Nat)(b:List UInt8)(a:List Sheet),m=(d:Int)/\p=bz b/\SheetNeutral.sheets s=some a:=by
 unfold PyYqglea.lay_asked SheetNeutral.asked at h;rw[AB,AB,GN,AB] at h;have c:(p.all (fun(z:Int)=>SheetNeutral.natural z 8)&&SheetNeutral.whole m&&(SheetNeutral.sheets s).isSome)=true:=h.2.1.1;rw[AB,AB] at c;obtain⟨b,e⟩:=ahR c.1.1;obtain⟨a,f⟩:=EB.mp c.2;have g:=AV c.1.2;exact⟨m.toNat,b,a,by omega,e,f⟩
theorem abt(m:Nat)(b:List UInt8){s:List Int}{a:List Sheet}(d:SheetNeutral.sheets s=some a):PyYqglea.lay (m:Int) (bz b) s=ahK m b a:=by
 have e:SheetNeutral.callOf [[3,(m:Int)],bz b,s]=some (.lay b m a):=by
  show(do some (GlaSheets.Call.lay (<- SheetNeutral.bytes (bz b)) (<- SheetNeutral.nat (m:Int)) (<- SheetNeutral.sheets s)))=_;rw[acg,ag7,d];rfl
 unfold PyYqglea.lay SheetNeutral.f;rw[e];show SheetNeutral.told (Jt (.lay b m a))=_;unfold Jt GlaSheets.asked GlaSheets.MARGIN ahK gr;show SheetNeutral.told (if decide (m<=65535)=false then _ else Ju b a _)=_
 by_cases h1:65535<m
 ·have c:decide (m<=65535)=false:=AR (by omega)
  rw[As h1,As c];rfl
 have c:¬(decide (m<=65535)=false):=by rw[AD (by omega)];exact Bu
 rw[Ar c,Ar h1];unfold Ju GlaSheets.BYTES GlaSheets.MOST
 by_cases h2:131072<b.length\/1024<a.length
 ·rw[As h2,As h2]
  rfl
 rw[Ar h2,Ar h2];cases hj:Dq b with
 | error g=>rfl
 | ok S =>
  cases hw:CQ (fun(_:Nat) (x:BP) => !x.ok) a with
  | some k=>rfl
  | none =>
   dsimp only;cases Ew (DR S m) a <;> rfl
end Gs
namespace Gs
open PySem PySem.Spec PyProof.Rows L2
open PySem.W (WData Codec OpenSpec Well WellAll ReadsW ReadsAllW)
section
variable{K:Lf}{H H':Hp}
theorem aaw(s:∀b o,H b=some o->H' b=some o){a:Ag}{u:HO}(r:Rd H a u):Rd H' a u:=by
 rcases r with e|⟨o,e⟩
 ·exact .inl (s _ _ e)
 ·exact .inr ⟨o,s _ _ e⟩
mutual
theorem ahS(s:∀b o,H b=some o->H' b=some o):∀(d:WData)(v:V),Dw K H v d->Dw K H' v d
 | .none,_,x=>by cases x;exact .non
 | .bool b,_,x=>by cases x;exact .bl b
 | .int i,_,x=>by cases x;exact .int i
 | .str t,_,x=>by cases x;exact .str t
 | .bytes b,_,x=>by
  cases x
  exact .byt _
 | .list ds,_,x=>by
  cases x with
  | lst a c=>exact .lst (a.elim (fun r=>.inl (aaw s r)) .inr) (vA s ds _ c)
 | .tuple ds,_,x=>by
  cases x with
  | tup a c=>exact .tup (a.elim (fun r=>.inl (aaw s r)) .inr) (vA s ds _ c)
 | .float _,_,x=>by cases x
 | .dict _,_,x=>by cases x
 | .bytearray _,_,x=>by cases x
 | .set _,_,x=>by cases x
 | .frozenset _,_,x=>by cases x
 | .obj _ _,_,x=>by cases x
theorem vA(s:∀b o,H b=some o->H' b=some o):∀(a:List WData)(vs:List V),kL K H vs a->kL K H' vs a
 | [],_,x=>by cases x;exact .nil
 | d::a,_,x=>by
  cases x with
  | cons c e=>exact .cons (ahS s d _ c) (vA s a _ e)
end
end
theorem xN{P:AI}{w:AZ}{K:Lf}{mg mb:AW->Option Ai}{k:Nat}{fa c i:Ag}{fd:DE}{ps:List AW}{sp:Sp}{a:Aq}{f:List Ai}{I:List WData}{R:Jo}{cl:AW->Option Ag}{d0:WData}(KX:K.In a.heap)(a0:a.heap.Ns mainGlobals mg)(hb:a.heap.Ns builtinsNs mb)(ax:∀x:AW,x ≠ "__name__" -> mb x=bootBuiltins x)(a3:a.heap.NoLimit)(hg:a.gens = #[])(C:CS a.heap c i)(hP:a.heap.get? i=some (Fi #[]))(a4:K.lookup i=none)(b3:acy mg a.heap)(S:WellAll w.params a.heap f I)(a5:xV I=true)(b4:∀d∈I,d.weight<=1048576)(hr:fD k callerA)(F:∀base:B1,K.In base->base.Ns mainGlobals mg->CS base c i->acy mg base->n8 P w K mg base CX0 k fa fd ps sp)(T:∀(s:Aq) (us:List Ai),us.length=ps.length->JF s fd ⟨us,[]⟩ (ps.zip us))(a6:I.length=ps.length)(b5:∀(H:Hp) (xs:List V),H i=some (.tbl #[])->kL K H xs I->sp xs H (fun v H'=>Dw K H' v d0) fun _ _ _=>False):
  codeAny (model P w) callerA (.call (.ref fa) ⟨f,[]⟩) (fun r J=>∃u as,r=.ok (.ret u)/\ReadsW R cl J.heap u d0 as/\OldK a.heap J.heap/\J.os=a.os/\HV J.gens) a:=by
 obtain⟨A,ho,ar⟩:=lS I f S a5 b4;have hO:agA (n9 K a.heap A):=zC ar;have a7:HOk P w (n9 K a.heap A) a.heap:=aeM ar;have hS:=wz KX ar I f S a5 ho;have hV:=iC ho;have hK:∀b u,n9 K a.heap A b=some u->K.lookup b=none:=fun b u q=>(mL ar q).1;have E:∀{b:Ag}{o:D5},a.heap.get? b=some o->o.cls≠.type "list" -> o.cls≠.type "tuple" -> n9 K a.heap A b=none:=fun{b o} e n1 n2=>by
  cases q:n9 K a.heap A b with
  | none=>rfl
  | some u =>
   obtain⟨_,vs,_,_,⟨j,_⟩|⟨j,_⟩⟩:=mL ar q
   ·rw[j] at e
    cases e
    exact absurd rfl n1
   ·rw[j] at e
    cases e
    exact absurd rfl n2
 have aa:∀{b:Ag}{o:D5}{Z:Array DictEntry}{ep:Nat},a.heap.get? b=some o->o.data=.dict Z ep->n9 K a.heap A b=none:=fun{b o Z ep} e d=>by
  cases q:n9 K a.heap A b with
  | none=>rfl
  | some u =>
   obtain⟨_,vs,_,_,⟨j,_⟩|⟨j,_⟩⟩:=mL ar q
   ·rw[j] at e
    cases e
    have d':JL vs.toArray _=Data.dict Z ep:=d;cases d'
   ·rw[j] at e
    cases e
    have d':JL vs.toArray _=Data.dict Z ep:=d;cases d'
 have n0:n9 K a.heap A i=none:=E hP (fun z=>by cases z) (fun z=>by cases z);generalize n9 K a.heap A=p at hO a7 hS hK aa E n0;have s0:∀b o,p b=some o->(upd p i (.tbl #[])) b=some o:=fun b o e=>by rw[aw (aB e n0)];exact e
 have b6:=vA s0 I _ hS;have ae:(upd p i (.tbl #[])) i=some (.tbl #[]):=ag;have M:HOk P w (upd p i (.tbl #[])) a.heap:=fun b u e=>by
  by_cases z:b=i
  ·subst z
   rw[ag] at e;cases e
   exact hP
  ·rw[aw z] at e
   exact(a7 b u e).x5 (fun _ _ _ q=>q) (fun c q=>s0 c _ q) fun c xs q=>s0 c _ q
 have l:∀b,b≠i->p b=none->(upd p i (.tbl #[])) b=none:=fun b z e=>by rw[aw z];exact e
 have W:∀b,b≠i->(upd p i (.tbl #[])) b=none\/∃o u,(upd p i (.tbl #[])) b=some (.frz o u):=fun b z=>by rw[aw z];exact hO b
 have X:∀{b:Ag}{o:D5},a.heap.get? b=some o->o≠Fi #[]->b≠i:=fun{b o} e n z=>by
  rw[z,hP] at e;exact n (Ah e).symm
 have nK:∀b o,K.lookup b=some o->(upd p i (.tbl #[])) b=none:=fun b o e=>by
  refine l b (fun z=>by rw[z,a4] at e;cases e) ?_;cases q:p b with
  | none=>rfl
  | some u=>rw[hK b u q] at e;cases e
 generalize upd p i (.tbl #[])=H at *
 have g:∀{b:Ag}{o:D5},a.heap.get? b=some o->H b=none->(yd a.heap H).get? b=some o:=fun e n=>acE e n;have G:∀{b:Ag}{m:AW->Option Ai},a.heap.Ns b m->(yd a.heap H).Ns b m:=fun{b m} ⟨o,Z,ep,e,d,r⟩=>⟨o,Z,ep,g e (l b (X e fun z=>by rw[z] at d;cases d) (aa e d)),d,r⟩;have af:K.In (yd a.heap H):=fun b o e=>g (KX b o e) (nK b o e);have hM:Mod K mg (yd a.heap H):=⟨af,G a0,⟨mb,G hb,ax⟩,let ⟨mc,h1,h2⟩:=a3;⟨mc,G h1,h2⟩⟩;have hC:CS (yd a.heap H) c i:=by
  obtain⟨o,vs,ai,tf,Y,tg,b8,aj,tt,e1,j,r⟩:=C;refine⟨o,vs,ai,tf,Y,tg,b8,aj,tt,g e1 (l c ?_ (E e1 ?_ ?_)),j,r⟩
  ·exact X e1 fun z=>by rw[z] at j;cases j
  ·rw[j];exact fun z=>absurd (Es z) (by decide)
  ·rw[j];exact fun z=>absurd (Es z) (by decide)
 have hB:acy mg (yd a.heap H):=by
  obtain⟨bm,o,b1,b2,e1,j,r⟩:=b3;refine⟨bm,o,b1,b2,g e1 (l bm ?_ (E e1 ?_ ?_)),j,r⟩
  ·exact X e1 fun z=>by rw[z] at j;cases j
  ·rw[j];exact fun z=>absurd (Es z) (by decide)
  ·rw[j];exact fun z=>absurd (Es z) (by decide)
 have e0:aff P w K mg (yd a.heap H) callerA [] a H:=⟨rfl,hM,fun b o e=>aeP e,DT (aao _ _),trivial,fun b hb=>absurd (show b∈([]:List Ag) from hb) (by simp),M,.of_eq hg⟩;have hl:f.length=ps.length:=by rw[fN S];exact a6
 refine EU ((F _ af (G a0) hC hB).run callerA [] a H ⟨f,[]⟩ f (f.map toV) _ _ hr e0 (T a f hl) hV (b5 H _ ae b6)) fun r J x => ?_;cases r with
 | error e=>exact x.elim
 | ok fl =>
  cases fl with
  | next=>exact Ck x
  | brk=>exact Ck x
  | cont=>exact Ck x
  | ret u =>
   obtain⟨v,H',os,au,un,y,r',q⟩:=x;have B:∀b o,b≠i->a.heap.get? b=some o->J.heap.get? b=some o:=fun b o nb e=>by
    rcases W b nb with q2|⟨ob,u3,z⟩
    ·exact un.keep b o e q2 (by intro z;exact absurd (show b∈([]:List Ag) from z) (by simp)) (by simp)
    ·have z2:=un.frzs b ob _ z
     obtain⟨e1,_⟩:=M b _ z;obtain⟨j,_⟩:=y b _ z2;rw[e] at e1;cases e1
     exact j
   obtain⟨O,hm⟩:=un.tbls i _ ae;have av:J.heap.get? i=some (Fi (#[]++O)):=y i _ hm;have ba:K.In J.heap:=fun b o e=>B b o (fun z=>by rw[z,a4] at e;cases e) (KX b o e);obtain⟨as,bc⟩:=Dw.reads (R:=R) (cl:=cl) y ba d0 v u q r';refine⟨u,as,rfl,bc,⟨fun b o e => ?_,fun b o e => ?_⟩,os,au⟩
   ·by_cases z:b=i
    ·subst z
     rw[hP] at e;cases e
     exact .inr (.inl ⟨(C.tab hP).isCodeTable,rfl,#[],O,rfl,av⟩)
    ·exact .inl (B b o z e)
   ·by_cases z:b=i
    ·subst z
     exact⟨_,av⟩
    ·exact⟨o,B b o z e⟩
theorem aiE{K:Lf}{h:B1}{a:Ag}(X:K.In h)(b:h.get? a=some (Fi #[]))(c:Kc K=true):K.lookup a=none:=by
 cases e:K.lookup a with
 | none=>rfl
 | some o =>
  have d:=Ds.mp c (a,o) (PySem.W.mem_of_lookupK e);have:=X _ _ e;rw[b] at this;cases this
  exact absurd (show false=true from d) AS
theorem xK{r:OpenSpec}{k:Nat}{q:AI}{j:List AW}{XP:(AW->Option Ai)->B1->Prop}{J:AZ->B1->Prop}{d dt:DefRec}{K:IB->Lf}{ps:List AW}{sp:Lf->Ag->Sp}{x:AW}(l:r.wellSaid=true)(a4:d.params.defaults=[])(m:r.args.length=ps.length)(hr:fD k callerA)(hY:∀(w:AZ) (h:B1),J w h->(K w.params).In h)(n:(recsOf q).find? (fun e=>e.name==x)=some dt)(M:∀w:AZ,Kc (K w.params)=true)(F:∀(w:AZ) (mg:Lg) (E:Ag) (h:B1),J w h->(K w.params).In h->h.Ns mainGlobals mg->mg d.name=some (.ref E) ->
   ∃(c i:Ag) (O:DE),GR (K w.params) x=some (c,i)/\(∀(s:Aq) (us:List Ai),us.length=ps.length->JF s O ⟨us,[]⟩ (ps.zip us)) /\
    ∀base:B1,(K w.params).In base->base.Ns mainGlobals mg->CS base c i->acy mg base->n8 r.prog w (K w.params) mg base CX0 k E O ps (sp (K w.params) i))(P:∀(K:Lf) (i:Ag) (H:Hp) (xs:List V) (a:Hs r.args),H i=some (.tbl #[])->Codec.withinAll r.args a=true->Jv r.args r.asked a=true->kL K H xs (Gb r.args a) ->
   sp K i xs H (fun v H'=>Dw K H' v (r.ret.enc (Jv r.args r.f a))) fun _ _ _=>False):
  PySem.W.WalkOS q j XP J r d [] (fun f vs=>PySem.call f vs):=by
 intro w S s₁ mg mb G Y E o pm cd a5 dV kV ho hd a6 hD X hg p a3 as y A a7 Z aa;obtain⟨a,e1,e2⟩:=PySem.W.os_pre_some y;obtain⟨e3,B⟩:=Codec.encAll_of_decAll r.args p a e1;subst e3;have I:=hY w _ Y;obtain⟨c,i,O,ht,hb,hF⟩:=F w mg E _ Y I G.T.g X;obtain⟨C,hP⟩:=PySem.W.tab_of G.T I n ht;obtain⟨bm,ob,b1,b2,b3,b4,b5,b6⟩:=G.T.bmain;refine PySem.W.enter_call (EU (xN (R := []) (cl:=classAt S.heap) (d0:=r.ret.enc (Jv r.args r.f a)) I G.T.g G.T.b G.T.builtins G.T.nolimit hg C hP (aiE I hP (M w)) ⟨bm,ob,b1,b2,b3,b4,b5,b6⟩ Z (sN _ _) (oE A) hr hF hb (by rw[oO];exact m)
  (fun H xs hO hS=>P _ i H xs a hO B e2 hS)) fun r' s' hq => ?_)
 obtain⟨u,a0,rfl,h1,h2,h3,h4⟩:=hq;exact⟨.inl ⟨u,_,a0,rfl,fun _=>rfl,h1,(OpenSpec.post_iff l B _ _).mpr rfl,fun z=>Bu (show false=true from z)⟩,h2,h3,h4⟩
end Gs
namespace Gs
open PySem PySem.Spec PyProof.Rows L2
section
variable{K:Lf}{h:B1}{mg:Lg}
theorem afN{x:AW}{st:F6}{ps:List AW}{f:Ag}{m b:Option Ag}{sl:Array (Option Ai)}{n kV o d j e:Ai}(X:K.In h)(G:h.Ns mainGlobals mg)(a:Gi K mainGlobals x=some (some (.ref f)))(l:K.lookup f=some ⟨n,m,.func (Cq x x (dX st) (bK st) (aG st) .none kV o d b j e),sl⟩)(c:DO K j x=true)(k:Cb K (.ref f)=true)(p:∀(kV g d:Ai) (b:Option Ag) (i e:Ai) (us:List Ai),us.length=ps.length->bindArgs (Cq x x (dX st) (bK st) (aG st) .none kV g d b i e) ⟨us,[]⟩=pure (ps.zip us)):Def K mg x st ps :=
 ⟨f,_,mZ l c k,Ed X G a,(mZ l c k).binds p⟩
theorem aey{C:Ag}{m q:AW}{st:F6}{ps:List AW}{f:Ag}{o b:Option Ag}{sl:Array (Option Ai)}{p kV r d n e:Ai}(a:BS K (.ref C) m=some (some (.ref f)))(i:FZ K (.ref f)=true)(l:K.lookup f=some ⟨p,o,.func (Cq m q (dX st) (bK st) (aG st) .none kV r d b n e),sl⟩)(c:DO K n q=true)(k:Cb K (.ref f)=true)(s:∀(kV g d:Ai) (b:Option Ag) (j e:Ai) (us:List Ai),us.length=ps.length->bindArgs (Cq m q (dX st) (bK st) (aG st) .none kV g d b j e) ⟨us,[]⟩=pure (ps.zip us)):sy K C m q st ps :=
 ⟨f,_,mZ l c k,⟨a,i,k⟩,(mZ l c k).binds s⟩
theorem pM{C:Ag}{x q:AW}{st:F6}{ps m:List AW}{f:Ag}{o b:Option Ag}{sl:Array (Option Ai)}{p kV r d n e:Ai}(X:K.In h)(G:h.Ns mainGlobals mg)(s:Gi K mainGlobals x=some (some (.ref C)))(a:BS K (.ref C) "__init__" = some (some (.ref f)))(i:FZ K (.ref f)=true)(l:K.lookup f=some ⟨p,o,.func (Cq "__init__" q (dX st) (bK st) (aG st) .none kV r d b n e),sl⟩)(c:DO K n q=true)(k:Cb K (.ref f)=true)(u:E1 K C Str.empty=true)(v:ET K C=true)(po:G3 K C=true)(w:BS K (.ref C) "__setattr__" = some (some (.builtin "object.__setattr__")))(y:Hr K C=true)(z:Cb K (.ref C)=true)(A:∀f∈m,fJ K C f)(B:∀(kV g d:Ai) (b:Option Ag) (j e:Ai) (us:List Ai),us.length=ps.length->bindArgs (Cq "__init__" q (dX st) (bK st) (aG st) .none kV g d b j e) ⟨us,[]⟩=pure (ps.zip us)):lK K mg x q C st ps m :=
 ⟨⟨u,v,po,w⟩,Ed X G s,A,f,_,mZ l c k,⟨y,a,i,z⟩,(mZ l c k).binds B⟩
theorem adE{x:AW}{n:Int}{t:KN}(X:K.In h)(G:h.Ns mainGlobals mg)(a:Gi K mainGlobals x=some (some (.int n t))):i9 mg x n:=⟨t,Ed X G a⟩
theorem vw{a:Ag}{xs:List V}{c:Option Ag}{b:Array Ai}{n:Nat}{sl:Array (Option Ai)}(l:K.lookup a=some ⟨.type "tuple",c,.seq b n,sl⟩)(v:Vals xs b.toList)(z:b.size<=sizeLine):oR K a xs :=
 fun H=>.inr ⟨_,b,n,l,rfl,rfl,z,v⟩
theorem cD{C:Ag}{f:AW}{d:List AW}(a:BS K (.ref C) f=some none)(b:∀f∈d,fJ K C f):∀g∈f::d,fJ K C g:=fun g c=>by
 rcases Am.mp c with rfl|c
 ·exact a
 ·exact b g c
theorem vL{C:Ag}:∀g∈([]:List AW),fJ K C g:=fun g a=>by simp at a
end
section
variable{P:AI}{w:AZ}{K:Lf}{mg:Lg}{base:B1}{ad:Adr}{a3:jq}{ca ta:Ag}
structure DS(K:Lf)(mg:Lg)(ad:Adr)(a3:jq):Prop where
 abc:Def K mg "turn" ac6 ["p","q","r"]
 jT:Def K mg "is_between" rS ["value","one","other"]
 gY:Def K mg "comes_behind" vn ["point","last"]
 wL:Def K mg "is_on" ajn ["r","p","q"]
 iJ:Def K mg "read_number" ahw ["data","start","length"]
 lB:Def K mg "read_pair" acU ["data","start","length"]
 lC:Def K mg "read_mark" adK ["data","start"]
 lD:Def K mg "told_size" adp ["data"]
 jU:Def K mg "judge_head" adz ["data"]
 iD:lK K mg "Drawing" "Drawing.__init__" ad.drawing zJ ["self","width","height","points","lines","marks"] ["width","height","points","lines","marks"]
 iK:sy K ad.drawing "point_place" "Drawing.point_place" aiW ["self","k"]
 jV:sy K ad.drawing "line_place" "Drawing.line_place" aiU ["self","k"]
 jW:sy K ad.drawing "mark_place" "Drawing.mark_place" ai0 ["self","k"]
 jX:sy K ad.drawing "byte_count" "Drawing.byte_count" aiZ ["self"]
 gZ:Def K mg "read_drawing" adB ["data"]
 g9:Def K mg "is_more_left" adt ["points","here","there","other","best"]
 nV:Def K mg "leftmost" ajh ["points","others","here","there"]
 iL:Def K mg "is_right_of" aaj ["mark","p","q"]
 wM:Def K mg "parts" ym ["points","line","other"]
 pD:Def K mg "crosses" aaN ["points","line","other"]
 eO:Def K mg "has_point_on_it" ahd ["points","line"]
 dr:Def K mg "crosses_one_before" wC ["drawing","k"]
 hG:Def K mg "tangled_line" acX ["drawing"]
 eQ:Def K mg "is_within_frame" aaD ["drawing","mark"]
 hX:Def K mg "is_on_a_line" ac5 ["drawing","mark"]
 jY:Def K mg "stray_mark" u6 ["drawing"]
 iM:Def K mg "stray_point" u4 ["drawing"]
 jZ:Def K mg "neighbours" ahz ["drawing"]
 iN:Def K mg "loose_point" zb ["drawing"]
 wN:Def K mg "reach" zo ["near","start","barred"]
 j5:Def K mg "lone_point" ady ["drawing"]
 lE:Def K mg "only_link" ado ["drawing"]
 j6:Def K mg "walk_round" ac4 ["points","near","first","second","walked"]
 wO:Def K mg "sides" aaR ["points","outline"]
 eB:Def K mg "runs_to_the_left" adM ["points","outline"]
 lF:Def K mg "is_inside" ahr ["mark","outline_sides"]
 gj:Def K mg "find_outlines" ac7 ["points","near"]
 pE:Def K mg "pane_of" acQ ["mark","outlines_sides"]
 j7:Def K mg "stray_line" vd ["drawing"]
 ia:Def K mg "gap_in_frame" afZ ["drawing"]
 gm:Def K mg "judge_drawing" afM ["drawing"]
 qO:lK K mg "Pane" "Pane.__init__" ad.pane uv ["self","glass","corners"] ["glass","corners"]
 iE:lK K mg "Cartoon" "Cartoon.__init__" ad.cartoon kg ["self","broken","panes"] ["broken","panes"]
 lU:lK K mg "Blank" "Blank.__init__" ad.blank qG ["self","glass","width","height"] ["glass","width","height"]
 lV:lK K mg "Sheet" "Sheet.__init__" ad.sheet qu ["self","glass","width","height","turns"] ["glass","width","height","turns"]
 lX:lK K mg "Order" "Order.__init__" ad.order p6 ["self","refusal","blanks","sheets"] ["refusal","blanks","sheets"]
 b8:Def K mg "give_marks_their_panes" adC ["drawing"]
 ib:Def K mg "read_cartoon" adq ["data"]
 nW:Def K mg "blank_of" afD ["pane","margin"]
 lG:Def K mg "is_length" afz ["number"]
 j8:Def K mg "read_sheet" ai1 ["numbers","start"]
 iO:Def K mg "read_sheets" agb ["numbers"]
 dH:Def K mg "first_wrong_sheet" ajo ["sheets"]
 abd:Def K mg "look" ac2 ["margin","cartoon","sheet_numbers"]
 lY:lK K mg "Lying" "Lying.__init__" a3.lying qK ["self","pane","turned","width","height"] ["pane","turned","width","height"]
 j9:lK K mg "Laying" "Laying.__init__" a3.laying mq ["self","unlaid","row"] ["unlaid","row"]
 lZ:lK K mg "Shelf" "Shelf.__init__" a3.shelf wg ["self","height","width"] ["height","width_left","laid"]
 qP:lK K mg "Pile" "Pile.__init__" a3.pile yo ["self","sheet"] ["sheet","height_left","shelves"]
 iP:Def K mg "ways_to_lie" agj ["pane","blank","sheet"]
 eU:Def K mg "first_that_fits" agw ["ways","width","height"]
 abe:sy K a3.shelf "take" "Shelf.take" acW ["self","lying"]
 iQ:sy K a3.pile "begin_shelf" "Pile.begin_shelf" af9 ["self","lying"]
 ic:Def K mg "lay_on_shelf" agk ["pane","blank","piles"]
 eC:Def K mg "lay_on_new_shelf" ahy ["pane","blank","piles"]
 nX:Def K mg "lay_pane" aiV ["pane","blank","piles"]
 gn:Def K mg "lying_numbers" agn ["lying","shelf_height"]
 gq:Def K mg "shelf_numbers" afU ["shelf","shelf_width"]
 ie:Def K mg "pile_numbers" ag8 ["pile"]
 fM:Def K mg "panes_in_order" ad6 ["blanks"]
 lH:Def K mg "lay_panes" agM ["blanks","sheets"]
theorem aby{f:Ag}{c:DE}(T:Txt K mg ad)(G:Txt2 K mg ad)(a:xY K mg a3)(l:mg "sorted" = none)(b:∀f H I c m,mg "panes_in_order" = some (.ref f)->K.lookup f=some ⟨H,I,.func c,m⟩->c.code=.ref ca)(C:CS base ca ta)(J:acy mg base)(d:DS K mg ad a3)(F:Fun K "lay" "lay" xS f c):n8 P w K mg base CX0 12 f c ["margin","cartoon","sheets"] (zK K ta fun tb=>tb = #[]):=by
 have i:=aea (P:=P) (w:=w) (base:=base) d.abc;have M:=wY (P:=P) (w:=w) (base:=base) d.jT T;have s:=yM (P:=P) (w:=w) (base:=base) d.gY;have u:=aip d.wL M i;have e:=agO (P:=P) (w:=w) (base:=base) d.iJ T;have O:=ad8 d.lB e;have R:=aeR d.lC e;have S:=aeS d.lD T e;have W:=aeL d.jU T e S;have X:=aeA (P:=P) (w:=w) (base:=base) d.iD;have g:=aiH (P:=P) (w:=w) (base:=base) d.iK T;have n:=aia d.jV T g;have o:=ahO d.jW T n;have Y:=ahP d.jX T o;have Z:=aet d.gZ T e O R X;have fb:=adR d.g9 i;have kP:=aiu d.nV fb;have fX:=abB d.iL i;have qM:=acp d.wM i;have nS:=acA d.pD qM;have cV:=ahe d.eO T u;have bZ:=aak d.dr T nS;have ff:=ad3 d.hG T cV bZ n;have cW:=acj (P:=P) (w:=w) (base:=base) d.eQ T;have fc:=aeb d.hX T u;have gU:=aaU d.jY T cW fc s o;have fY:=aae d.iM T s g;have j:=agZ (P:=P) (w:=w) (base:=base) d.jZ T;have fZ:=abP d.iN T j g;have v:=acD (P:=P) (w:=w) (base:=base) d.wN;have gT:=ad1 d.j5 T j v g;have jh:=adY d.lE T j v g;have gR:=aei d.j6 kP;have y:=ab0 (P:=P) (w:=w) (base:=base) d.wO T;have cI:=aen d.eB y;have jg:=ag2 d.lF fX;have d6:=adU d.gj T gR cI;have nU:=aeq d.pE T jg;have gS:=aaS d.j7 T n;have fe:=ahg (P:=P) (w:=w) (base:=base) d.ia T;have d7:=afG d.gm T G fY gS fe ff fZ gT jh gU;have p:=aew (P:=P) (w:=w) (base:=base) d.qO;have z:=xG (P:=P) (w:=w) (base:=base) d.iE;have uS:=abw (P:=P) (w:=w) (base:=base) d.lU;have uT:=acB (P:=P) (w:=w) (base:=base) d.lV;have jj:=abK (P:=P) (w:=w) (base:=base) d.lX;have bH:=ad0 d.b8 T d6 j y nU o Y z p;have fh:=afe d.ib W Z d7 bH z;have kR:=ahm d.nW T uS;have f6:=ahi (P:=P) (w:=w) (base:=base) d.lG T;have gX:=aiI d.j8 uT;have f7:=ag9 d.iO T gX;have cq:=ah0 d.dH T f6;have q:=ae5 d.abd T fh f7 cq kR jj;have qN:=abv (P:=P) (w:=w) (base:=base) d.lY;have lT:=yg (P:=P) (w:=w) (base:=base) d.j9;have uU:=ab7 (P:=P) (w:=w) (base:=base) d.lZ;have r:=aez (P:=P) (w:=w) (base:=base) d.qP T;have A:=agp d.iP T qN;have B:=afA (P:=P) (w:=w) (base:=base) d.eU a;have E:=aev (P:=P) (w:=w) (base:=base) d.abe a;have f9:=ag1 d.iQ T a uU E;have fo:=afI d.ic T a A B E;have cM:=agD d.eC T a A B f9;have kT:=aiK d.nX fo cM;have d8:=ag4 (P:=P) (w:=w) (base:=base) d.gn a;have d9:=ahx d.gq a d8;have fy:=agH d.ie T a d9;have dC:=agJ (P:=P) (w:=w) (base:=base) d.fM T l b C J;have jl:=afX d.lH T a r lT dC kT fy;exact agr F T a q jl
end
theorem all_mk{P:AI}{w:AZ}{K:Lf}{h:B1}{mg:Lg}{fa f:Ag}{p q r E m H I J M g i j b fp u O R S W Y Z h5 g0 g1 g2 g3 g4 g5 g6 g7:Ag}{A a0 a3 an:Option Ag}{v:Array Ai}{y:DE}{sl a4 a5:Array (Option Ai)}{B a6 a7 kV dc pm cd ct:Ai}(X:K.In h)(G:h.Ns mainGlobals mg)(aa:mg "lay" = some (.ref fa))(d:DS K mg ⟨p,q,r,E,m,H,I,J,M⟩ ⟨g,i,j,b⟩)(ae:mg "len" = none)(uY:mg "range" = none)(jn:mg "enumerate" = none)(af:mg "zip" = none)(kU:mg "reversed" = none)(ai:mg "min" = none)(aj:mg "max" = none)(uZ:mg "tuple" = none)(au:mg "dict" = none)(av:mg "list" = none)(qQ:mg "sorted" = none)(ba:i9 mg "HEAD_SIZE" 20)(bJ:i9 mg "POINT_SIZE" 8)(bR:i9 mg "LINE_SIZE" 4)(ck:i9 mg "MARK_SIZE" 12)(cF:i9 mg "MOST_LENGTH" 16777215)(di:i9 mg "MOST_GLASS" 65535)(bF:i9 mg "SHEET_NUMBERS" 4)(cG:i9 mg "MOST_MARGIN" 65535)(dj:i9 mg "MOST_BYTES" 131072)(cH:i9 mg "MOST_SHEETS" 1024)(ax:mg "SIGN" = some (.ref p))(fz:mg "HEAD_NUMBERS" = some (.ref q))(n6:mg "FINDERS" = some (.ref r))(b1:oR K p [.int 71,.int 76,.int 65,.int 49])(u0:oR K q [.ref R,.ref S,.ref W,.ref Y,.ref Z,.ref h5])(b2:oR K R [.int 4,.int 4,.int 16,.int 1048575])(b3:oR K S [.int 8,.int 4,.int 16,.int 1048575])(b4:oR K W [.int 12,.int 2,.int 4,.int 4096])(b5:oR K Y [.int 14,.int 2,.int 4,.int 8192])(b6:oR K Z [.int 16,.int 2,.int 1,.int 2048])(b8:oR K h5 [.int 18,.int 2,.int 0,.int 0])(bc:oR K r [.ref g0,.ref g1,.ref g2,.ref g3,.ref g4,.ref g5,.ref g6,.ref g7])(cv:i9 mg "LEFT_OVER" 0)(jS:i9 mg "PLACED" 1)(cK:i9 mg "UPRIGHT_CUT" 2)(cX:i9 mg "LEVEL_CUT" 3)(gc:mg "stray_point" = some (.ref g0))(ik:mg "stray_line" = some (.ref g1))(fA:mg "gap_in_frame" = some (.ref g2))(fB:mg "tangled_line" = some (.ref g3))(gf:mg "loose_point" = some (.ref g4))(iw:mg "lone_point" = some (.ref g5))(jo:mg "only_link" = some (.ref g6))(iz:mg "stray_mark" = some (.ref g7))(p0:Gi K mainGlobals "panes_in_order" = some (some (.ref fp)))(p1:K.lookup fp=some ⟨a6,a0,.func y,a4⟩)(p2:y.code=.ref u)(p3:K.lookup u=some ⟨a7,a3,.fields v,a5⟩)(p4:v[11]? = some (.ref O))(a:Gi K mainGlobals "lay" = some (some (.ref f)))(l:K.lookup f=some ⟨B,A,.func (Cq "lay" "lay" (dX xS) (bK xS) (aG xS) .none kV dc pm an cd ct),sl⟩)(c:DO K cd "lay" = true)(k:Cb K (.ref f)=true):
  ∃(c Pt:Ag)(o:DE),GR K "panes_in_order" = some (c,Pt)/\(∀(s:Aq)(us:List Ai),us.length=(["margin","cartoon","sheets"]:List AW).length->JF s o ⟨us,[]⟩ ((["margin","cartoon","sheets"]:List AW).zip us))/\∀base:B1,K.In base->base.Ns mainGlobals mg->CS base c Pt->acy mg base->n8 P w K mg base CX0 12 fa o ["margin","cartoon","sheets"] (zK K Pt fun tb=>tb = #[]):=by
 have e:=aa.symm.trans (Ed X G a);cases e
 have T:Txt K mg ⟨p,q,r,E,m,H,I,J,M⟩:=⟨ae,uY,jn,af,kU,ai,aj,uZ,au,av,ba,bJ,bR,ck,cF,di,bF,cG,dj,cH,⟨d.iD.cl,d.iD.no⟩,⟨d.qO.cl,d.qO.no⟩,⟨d.iE.cl,d.iE.no⟩,⟨d.lU.cl,d.lU.no⟩,⟨d.lV.cl,d.lV.no⟩,⟨d.lX.cl,d.lX.no⟩,ax,fz,b1,R,S,W,Y,Z,h5,u0,b2,b3,b4,b5,b6,b8⟩;have T2:Txt2 K mg ⟨p,q,r,E,m,H,I,J,M⟩:=⟨n6,g0,g1,g2,g3,g4,g5,g6,g7,bc,gc,ik,fA,fB,gf,iw,jo,iz⟩;have T3:xY K mg ⟨g,i,j,b⟩:=⟨cv,jS,cK,cX,⟨d.lY.cl,d.lY.no⟩,⟨d.lZ.cl,d.lZ.no⟩,⟨d.qP.cl,d.qP.no⟩,⟨d.j9.cl,d.j9.no⟩⟩;have F:=mZ (st:=xS) l c k;have n:∀f B A o z,mg "panes_in_order" = some (.ref f)->K.lookup f=some ⟨B,A,.func o,z⟩->o.code=.ref u:=fun f B A o z e1 e2=>by
  have e3:=e1.symm.trans (Ed X G p0);cases e3
  rw[p1] at e2;cases e2
  exact p2
 have ht:GR K "panes_in_order" = some (u,O):=by
  unfold GR;rw[p0];dsimp only;rw[p1];dsimp only;rw[p2];dsimp only;rw[p3];dsimp only;rw[p4]
 refine⟨u,O,_,ht,fun s us hu => ?_,fun base _ _ C hb=>aby T T2 T3 qQ n C hb d F⟩;obtain⟨_,_,_,rfl⟩:=us3 hu;exact .of_eq rfl
end Gs
end
structure PySem.W.Fast:Prop where(tw830146807996600337 tw10064429839052573058 tw6334064653579877428 tw1472596998111697902 tw18324890389457443701 tw6987729478886597323 tw3290389799964833483 tw13080679552876953520 tw826439734439185959 tw3132528427058883402 tw1140274016782186086 tw17497351774949408694 tw8001986292524369469 tw11764640296675164367 tw12499616244382708198 tw2637015172448194083 tw11087872167481065051 tw18395534982922920462 tw3702388532654624750 tw15122285547905416783 tw11421923862251169060 tw5695841311313189922 tw1078199997888639667 tw10917723223429846770 tw3722580982954273679 tw6526153146320826474 tw5188356227524665108 tw4326757421478124845 tw13131960051102175021 tw15419908783994250804 tw7671056616725742812 tw11296432687784149278 tw4462615629152668889 tw17203877732196928819 tw12657034872055478779 tw17315775732059236540 tw13823309889895517635 tw4945376492048288875 tw10030713105258600105 tw16260456293174626622 tw16849815842545943942 tw2251831968390417479 tw15918426470419577375 tw16165185317909849313 tw8183693724308711610 tw15700666636082809348 tw2163983650991531559 tw4254776718997594093 tw5766447982684837218 tw12561665496758420393 tw17107277613520463105 tw13861514632487151445 tw16624750672078525580 tw18212943641503879429 tw5056000470776215037 tw11364403897370717962 tw2352941250738565519 tw14922378275121544734 tw7945826593414366303 tw16035207833953306678 tw657415358749644013 tw3400438113290068986 tw11309668245786055888 tw9947246050055083951 tw1306090078463089061 tw1669468837862245813 tw7567110733998134259 tw4931929133102020552 tw13321948776828056614 tw14699907202035038922 tw13849694618229553330 tw15675591963667726302 tw3834538207945575735 tw6315307906426911632 tw17935132917516465151 tw17217637055276000802 tw15199501918945673478 tw6492064918501954490 tw4586726322510759547 tw13737825944665812646 tw9282018207890519943 tw15281770494256969268 tw10847036428613483341 tw3874826507897417696 tw5458919734685843094 tw15432228768834751120 tw12689993618125750608 tw16414197385757207544 tw7607020273099484886 tw5829817808090895881 tw2910902601842801265 tw6831826973401402684 tw15237355312372606471 tw17641246168096854094 tw16138955415962588880 tw11029691516801863183 tw8853416083449221646 tw5791234284734938081 tw2700829110778940804 tw13384892382244381218 tw15146869109725726683 tw12754259830155818730 tw6244597588762815577 tw10581005781397430650 tw1130536082333279065 tw3597945968866746028 tw4100732890542464917 tw18337160316222397958 tw8321255516247509304 tw4116422040839472875 tw16880679564275397843 tw11110297474221640851 tw8805577256258258675 tw15781376878794963295 tw7740870537496383040 tw1334259692749745585 tw4412391982081361718 tw8853584222051580771 tw2483444723757287743 tw11092847392390696367 tw10605866038914570579 tw13247457080325799161 tw10577477972896741907 tw11760905865112017388 tw13992756222145932285 tw5139943148828601155 tw15079237223743907899 tw4178435584329592821 tw9920756375211633549 tw13866380055395965470 tw11774339111653059765 tw12687204788393573449 tw10722831593575241273 tw15618939025121215473 tw14035643558512608899 tw7158675588088662950 tw3337883462505920378 tw5626398474917389288 tw12876211497189768646 tw188953897833669190 tw9613058270184984774 tw10254768824475816995 tw11134370811424515766 tw11313042264053496856 tw6821924149710912579 tw12042991334221576925 tw3603715766004031517 tw3256402473983286954 tw10775729811652364460 tw8949070342067730394 tw2748542898331213959 tw4322996656915233652 tw7212622301911229392 tw8517811488902439039 tw1601586669227175648 tw18248164687900807117 tw13564867444308448810 tw16871458887579297778 tw12243701194586782828 tw16891191227983708038 tw8109898535197264622 tw1028856020971390811 tw18391740782174242509 tw7496033294305144201 tw18102870422195816511 tw4464057086259223761 tw11171259398869539903 tw6818341978903256673 tw12957342600539806093 tw928494837028342353 tw4727592269216872319 tw4762782690924093432 tw4589225879849825319 tw17966054515491553118 tw15459921637800709010 tw13436943269508841447 tw1964569665447178102 tw17090486095364548826 tw6033252112308209275 tw5027338183179089891 tw2315506755425833437 tw4205992342104087054 tw14291430696123666861 tw17349413270399642943 tw7879283983769042829 tw10673238895568790643 tw8992088637106428173 tw15887941276572667476 tw16826648344508815141 tw4866647088625561182 tw921951159030327905 tw5890134555730058197 tw15626308287278160627 tw18414253906120315273 tw4258109995709737424 tw3453668269388477184 tw12422154183271881478 tw14925172888941674304 tw7058425405908725062 tw5848292981194608292 tw17389313603293396485 tw18360642004799398302 tw14568492095749350994 tw11415224001344927066 tw16188100679286734510 tw110065943814570544 tw6526336172344063079 tw1653034735826492109 tw16473709377477888552 tw176123145525651242 tw16168957234053309224 tw7076872466162309903 tw14995355027486609334 tw14632135302233547305 tw8228234439979362995 tw2109437238623613654 tw10650134629293613461 tw2485839076685583018 tw15698432421207515 tw1154439306944812928 tw1405034214809523827 tw12363926617170837306 tw16384900016094509553 tw282608730296939403 tw15082814968179874857 tw7794964792755858399 tw8493302792319061976 tw10650389480474176578 tw13222197361343846750 tw3020862767474465199 tw9031802833190368766 tw6531209604711930665 tw5304691073893521388 tw1330303328613434361 tw11708488425566074621 tw1624492236684830432 tw11169557640744201037 tw16820495134745101382 tw17298811251778620120 tw7841654248064176434 tw3788040567953340562 tw17413875163079523375 tw7506387671177249023 tw8761316446643042631 tw1832645097213290326 tw18369515821445759679 tw1521354355725679469 tw14302350055837833349 tw17871103089736103573 tw12975735689597230963 tw17361657280850517553 tw18244628004111665836 tw6171857120944578136 tw1984182419810805010 tw7929306608195849999 tw491877449796624540 tw17771375111823017242 tw12040429462299150749 tw2263930089598935684 tw4472952744750659434 tw9612334755965959217 tw13945269687388774997 tw11306335817238457585 tw366496711435728536 tw18053334471775323823 tw2842313810952038997 tw1349177486632236176 tw6295086271332627188 tw11186647843731045596 tw9931165714590506728 tw8963467563924637317 tw6401292582945103713 tw9591659242055125833 tw10626418527510033297 tw10690922066653780125 tw5105609232346257542 tw5349224650381267993 tw8661826910488726916 tw7812340351107627382 tw4536517966069484470 tw8003355027120757367 tw12546963060836201569 tw12770298055801275255 tw17809741755126667136 tw9247869204723367515 tw10481180224569698701 tw14265239522118027691 tw9967983165522596572 tw2340361100335658572 tw2107660634280129876 tw15743017133634850144 tw7346610447474247723 tw9625540487454271624 tw11462554949821961448 tw16965521399487408885 tw377971659875481885 tw15020296354491076083 tw3966816867060082315 tw17067057550226000399 tw14851452087132342799 tw8005029441762656934 tw5122893315697254282 tw16326700229932137810 tw4143448085083520413 tw17647356808590848035 tw1972124412558472173 tw16268912733252792456 tw9188101229500166699 tw8447913492836924546 tw2947398412754298217 tw6805326118108220321 tw12613541967430632893 tw6184760549750863627 tw7623576118400215754 tw6581346206210058457 tw13961690551067065923 tw5731350281633814441 tw6202030691919561050 tw10118450037208258192 tw3182246549557452921 tw2011790426514313808 tw16732375484336978051 tw17256785891757174154 tw12721679414646173453 tw8416047237506214373 tw3050364508681184654 tw17768029494553853377 tw9788622570413237288 tw4139697384136025087 tw4517714592257484612 tw17312727992182428143 tw7150667688440347531 tw8286518570860751510 tw6897690069330663900 tw14918996751078264869 tw4170488158330465648 tw2773063750363663840 tw10103161276669577569 tw10028650874239048963 tw11873129601693033981 tw14390357947052343263 tw17436042901819701550 tw9798425658596572073 tw15827264883543125409 tw7744880253517776714 tw1886967381509150759 tw5047675775145649585 tw7614871737353476191 tw10593189830437051682 tw14726230272671917762 tw1380375671098188891 tw775407030241546444 tw6475834281916252638 tw15805347637976657611 tw16348883439952157116 tw2873576642779201696 tw6634033094172676980 tw18401861751044055457 tw13109027172045384977 tw17260181862693514596 tw239416933854513191 tw5144847329276372536 tw10415255001501052931 tw10692284750103784962 tw70169805076483100 tw16374616235755125012 tw16624833650707587064 tw106964363965577569 tw18335178973916344192 tw18218810021624413664 tw17127174369635043636 tw2009832459027664237 tw5541979127459561707:True)
open PySem PySem.W PyProof.Rows
set_option maxRecDepth 100000 in
set_option maxHeartbeats 0 in
theorem PySem.Challenge.cw_glasssheets_s03_lay_holds : PySem.Challenge.rw_glasssheets_s03_lay.Holds := by
 w_on;k_headS;(case hw=>exact⟨[.int 0,.list [],.list []],by decide +kernel,by decide +kernel⟩)
 k_fillS
 refine Gs.xK (r:=PySem.Challenge.rw_glasssheets_s03_lay) (k:=12) (ps := ["margin","cartoon","sheets"]) (sp:=fun K Pt=>Gs.zK K Pt fun tb=>tb = #[]) (x := "panes_in_order") (by decide +kernel) rfl rfl ⟨rfl,by decide,by decide⟩ (fun w h Y=>PySem.W.kIn_of Y) rfl ?zn ?F ?S
 case zn=>intro w;kernel_rfl
 case F =>
  intro w mg fa h Y KX G hmg
  refine' Gs.all_mk KX G hmg ?d ?afn ?uY ?jn ?afo ?kU ?afp ?afq ?uZ ?abg ?abh ?qQ ?ba ?bJ ?bR ?ck ?cF ?di ?bF ?cG ?dj ?cH ?abi ?fz ?n6 ?abj ?u0 ?aiM ?aiN ?aiO ?aiP ?aiQ ?aiR ?abk ?cv ?jS ?cK ?cX ?gc ?ik ?fA ?fB ?gf ?iw ?jo ?iz ?p0 ?p1 ?p2 ?p3 ?p4 ?a ?l ?c ?k
  case d =>
   constructor
   all_goals try dsimp only
   case iD=>exact Gs.pM KX G (by k_is) (by k_is) (by k_is) (by k_is) (by k_is) (by k_is) (by k_is) (by k_is) (by k_is) (by k_is) (by k_is) (by k_is) (Gs.cD (by k_is) (Gs.cD (by k_is) (Gs.cD (by k_is) (Gs.cD (by k_is) (Gs.cD (by k_is) Gs.vL))))) (by intro _ _ _ _ _ _ us hl;rcases us with _|⟨_,_|⟨_,_|⟨_,_|⟨_,_|⟨_,_|⟨_,_|_⟩⟩⟩⟩⟩⟩ <;> first|rfl|exact absurd hl (by decide)|cases hl)
   case qO|iE|j9=>exact Gs.pM KX G (by k_is) (by k_is) (by k_is) (by k_is) (by k_is) (by k_is) (by k_is) (by k_is) (by k_is) (by k_is) (by k_is) (by k_is) (Gs.cD (by k_is) (Gs.cD (by k_is) Gs.vL)) (by intro _ _ _ _ _ _ us hl;rcases us with _|⟨_,_|⟨_,_|⟨_,_|⟨_,_|⟨_,_|⟨_,_|_⟩⟩⟩⟩⟩⟩ <;> first|rfl|exact absurd hl (by decide)|cases hl)
   case lU|lX|lZ|qP=>exact Gs.pM KX G (by k_is) (by k_is) (by k_is) (by k_is) (by k_is) (by k_is) (by k_is) (by k_is) (by k_is) (by k_is) (by k_is) (by k_is) (Gs.cD (by k_is) (Gs.cD (by k_is) (Gs.cD (by k_is) Gs.vL))) (by intro _ _ _ _ _ _ us hl;rcases us with _|⟨_,_|⟨_,_|⟨_,_|⟨_,_|⟨_,_|⟨_,_|_⟩⟩⟩⟩⟩⟩ <;> first|rfl|exact absurd hl (by decide)|cases hl)
   case lV|lY=>exact Gs.pM KX G (by k_is) (by k_is) (by k_is) (by k_is) (by k_is) (by k_is) (by k_is) (by k_is) (by k_is) (by k_is) (by k_is) (by k_is) (Gs.cD (by k_is) (Gs.cD (by k_is) (Gs.cD (by k_is) (Gs.cD (by k_is) Gs.vL)))) (by intro _ _ _ _ _ _ us hl;rcases us with _|⟨_,_|⟨_,_|⟨_,_|⟨_,_|⟨_,_|⟨_,_|_⟩⟩⟩⟩⟩⟩ <;> first|rfl|exact absurd hl (by decide)|cases hl)
   case abc|jT|gY|wL|iJ|lB|lC|lD|jU|gZ|g9|nV|iL|wM|pD|eO|dr|hG|eQ|hX|jY|iM|jZ|iN|wN|j5|lE|j6|wO|eB|lF|gj|pE|j7|ia|gm|b8|ib|nW|lG|j8|iO|dH|abd|iP|eU|ic|eC|nX|gn|gq|ie|fM|lH=>exact Gs.afN KX G (by k_is) (by k_is) (by k_is) (by k_is) (by intro _ _ _ _ _ _ us hl;rcases us with _|⟨_,_|⟨_,_|⟨_,_|⟨_,_|⟨_,_|⟨_,_|_⟩⟩⟩⟩⟩⟩ <;> first|rfl|exact absurd hl (by decide)|cases hl)
   case iK|jV|jW|jX|abe|iQ=>exact Gs.aey (by k_is) (by k_is) (by k_is) (by k_is) (by k_is) (by intro _ _ _ _ _ _ us hl;rcases us with _|⟨_,_|⟨_,_|⟨_,_|⟨_,_|⟨_,_|⟨_,_|_⟩⟩⟩⟩⟩⟩ <;> first|rfl|exact absurd hl (by decide)|cases hl)
  case afn|uY|jn|afo|kU|afp|afq|uZ|abg|abh|qQ=>exact PySem.W.mg_none_of KX G (by k_is)
  case ba|bJ|bR|ck|cF|di|bF|cG|dj|cH=>exact Gs.adE KX G (by k_is)
  case abi|fz|n6=>exact Ed KX G (by k_is)
  case abj=>exact Gs.vw (by k_is) (.cons ⟨_,rfl⟩ (.cons ⟨_,rfl⟩ (.cons ⟨_,rfl⟩ (.cons ⟨_,rfl⟩ .nil)))) (by decide)
  case u0=>exact Gs.vw (by k_is) (.cons rfl (.cons rfl (.cons rfl (.cons rfl (.cons rfl (.cons rfl .nil)))))) (by decide)
  case aiM|aiN|aiO|aiP|aiQ|aiR=>exact Gs.vw (by k_is) (.cons ⟨_,rfl⟩ (.cons ⟨_,rfl⟩ (.cons ⟨_,rfl⟩ (.cons ⟨_,rfl⟩ .nil)))) (by decide)
  case abk=>exact Gs.vw (by k_is) (.cons rfl (.cons rfl (.cons rfl (.cons rfl (.cons rfl (.cons rfl (.cons rfl (.cons rfl .nil)))))))) (by decide)
  case cv|jS|cK|cX=>exact Gs.adE KX G (by k_is)
  case gc|ik|fA|fB|gf|iw|jo|iz=>exact Ed KX G (by k_is)
  case p0|p1=>k_is
  case p2=>exact rfl
  case p3=>k_is
  case p4=>exact rfl
  (case a=>k_is);(case l=>k_is);(case c=>k_is);(case k=>k_is)
 case S =>
  intro K Pt H xs a hO hwi hask hx;cases hx with
  | cons h1 h2 =>
  cases h2 with
  | cons h2 h3 =>
  cases h3 with
  | cons h3 h4 =>
  cases h4
  cases h1
  cases h2 with
  | lst hs2 ha2 =>
  cases h3 with
  | lst hs3 ha3 =>
   have e2:=L2.tI a.2.1 _ ha2;have e3:=L2.tI a.2.2.1 _ ha3;subst e2 e3;obtain⟨m,b,shs,f1,f2,f3⟩:=Gs.yJ (show PyYqglea.lay_asked a.1 a.2.1 a.2.2.1=true from hask);rw[f2] at hs2;refine⟨m,_,_,b,a.2.2.1,shs,#[],by rw[<- f1],hs2,hs3,f3,hO,rfl,fun H' l hl => ?_⟩;have ef:Jv PySem.Challenge.rw_glasssheets_s03_lay.args PySem.Challenge.rw_glasssheets_s03_lay.f a=PyYqglea.lay a.1 a.2.1 a.2.2.1:=rfl;rw[ef,f1,f2,Gs.abt m b f3];exact .lst (L2.SqL.of hl) (L2.aaJ _)
end
